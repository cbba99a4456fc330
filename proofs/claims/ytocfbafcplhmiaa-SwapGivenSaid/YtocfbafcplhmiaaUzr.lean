/- The reference: Choose, better; rows of Orders. -/
import Derived.Test.YtocfbafcplhmiaaUv
import Derived.Test.YtocfbafcplhmiaaUwp
namespace Go.Proofs.Ytocfbafcplhmiaa
open Go.RowKit

theorem bit_oneT (s x : Nat) : (bits .and .i64 ((s : Int) / 2 ^ x) 1 == 1) = inS s x := by
  have h2 : bits .and .i64 ((s : Int) / 2 ^ x) 1 = ((s / 2 ^ x % 2 : Nat) : Int) := by
    have e : ((s : Int) / 2 ^ x) = ((s / 2 ^ x : Nat) : Int) := by push_cast; rfl
    rw [e, i64_and1]
    omega
  rw [h2]
  unfold inS
  rcases Nat.mod_two_eq_zero_or_one (s / 2 ^ x) with h | h <;> rw [h] <;> rfl
set_option maxHeartbeats 4000000 in
set_option maxRecDepth 1000000 in
theorem refChoose_any (A : Option Addr) (n c : Nat) (t : Nat → Nat → Nat) (G : Option Addr) (cG : Nat) (f : Nat → Nat) (w : World) (h : Wis w A n t) (hG : Ints w G n (fun k => (f k : Int))) (hn : n ≤ 5) (ht : ∀ i, i < n → Pm n (t i)) (hf : Pm n f) :
    Calls Try.prog 42 #[.slice A n c, .slice G n cG] w fun e w' => ∃ B, e = .returned (.slice (some ⟨B, 0, none⟩) n n) ∧ w.heap.size ≤ B ∧ RowI w' B n (fun p => (chF t n f p : Int)) ∧ Below w.heap.size w w' := by
  have H := Lib.hid h
  have HG := Lib.hid hG
  have HT := Lib.hid ht
  have HF := Lib.hid hf
  have HInv := Lib.hid (fun k hk => ch_inv hn ht hf k hk)
  have HO : Hid (∀ k p, chO t n f (k + 1) p = if p = f k then bsB t n (chL t n f k) (f k) else chO t n f k p) := Lib.hid (fun _ _ => rfl)
  have HC : Hid (∀ p, chF t n f p = chO t n f n p) := Lib.hid (fun _ => rfl)
  have HOz : Hid (∀ p, chO t n f 0 p = 0) := Lib.hid (fun _ => rfl)
  have HAs : Hid (∀ k x, anyB (fun j => decide (bsB t n (chL t n f j) (f j) = x)) (k + 1) = (anyB (fun j => decide (bsB t n (chL t n f j) (f j) = x)) k || decide (bsB t n (chL t n f k) (f k) = x))) := Lib.hid (fun _ _ => rfl)
  have hmk := mk_ints n (by omega) w
  have HR := Lib.hid (RowI.made w n)
  have HB := Lib.hid (box_bel w (.cells (madeCells #[.int .i64 0] n) 3))
  clear h hG ht hf
  generalize chO t n f = co at *
  go_enter Try.func42, Try.ntmps42
  go_wp2_with fail
  clear hmk
  go_loopw [6, 15] (fun l i wr => ∃ k Tk : Nat, k ≤ n ∧ i = .int .i64 k ∧ l = .int .i64 Tk ∧ Tk < 32 ∧ (∀ x, x < 5 → inS Tk x = anyB (fun j => decide (bsB t n (chL t n f j) (f j) = x)) k) ∧ RowI wr w.heap.size n (fun p => (co k p : Int)) ∧ Below w.heap.size w wr) (fun _ i _ => n - (intOf i).toNat)
  case atStart => exact ⟨0, 0, Nat.zero_le _, rfl, rfl, by omega, fun x _ => inS_zero x, HR.out.congr (fun p _ => by rw [HOz.out]; rfl), HB.out⟩
  case round =>
    obtain ⟨k, Tk, hk, rfl, rfl, hT32, hTx, hr, hb⟩ := hrel
    clear HR HB
    have HTx := Lib.hid hTx
    have HR := Lib.hid hr
    have HB := Lib.hid hb
    clear hTx hr hb
    by_cases hlt : k < n
    · obtain ⟨b, o, rfl, hcf⟩ := (HG.out.keep HB.out).at hlt
      have hfk := HF.out.lt k hlt
      obtain ⟨i1, i2, -, -, i5⟩ := HInv.out k hk
      have hex := i5 hlt
      obtain ⟨bw, ow, A', c', rfl, hcw, hcc, hI⟩ := RowsK.at (H.out.keep HB.out) hfk
      have HIk := Lib.hid hI
      have htlt := (HT.out _ hfk).lt
      have HTl := Lib.hid htlt
      have hfs : fsN (fun q => inS (chL t n f k) (t (f k) q)) n < n := by
        obtain ⟨q, hq, e⟩ := best_ex (HT.out _ hfk) hex
        exact (fsN_lt (p := fun q => inS (chL t n f k) (t (f k) q)) hq e).1
      have HSn : Hid (∀ q, q < n → inS Tk (t (f k) q) = !inS (chL t n f k) (t (f k) q)) := Lib.hid (fun q hq => by
        have h1 := htlt q hq
        rw [HTx.out _ (by omega), i2 _ (by omega), decide_eq_true h1, Bool.true_and, Bool.not_not])
      have HAt := Lib.hid (fsN_at (fun q => inS (chL t n f k) (t (f k) q)) n hfs)
      have HNo := Lib.hid (fsN_none (fun q => inS (chL t n f k) (t (f k) q)) n)
      have HBv : Hid (bsB t n (chL t n f k) (f k) = t (f k) (fsN (fun q => inS (chL t n f k) (t (f k) q)) n)) := Lib.hid rfl
      have HOk := Lib.hid (HO.out k)
      have HAk := Lib.hid (HAs.out k)
      rw [HBv.out] at HOk HAk
      clear hI hex i5 i2 htlt hcc
      generalize fsN (fun q => inS (chL t n f k) (t (f k) q)) n = r at *
      generalize hS : chL t n f k = S at *
      clear hS HBv
      generalize f k = fk at *
      go_wp2_with fail
      go_loop [9] (fun q => ∃ a : Nat, a ≤ r ∧ q = .int .i64 a) (fun q => r - (intOf q).toNat)
      case atStart => exact ⟨0, Nat.zero_le _, rfl⟩
      case round =>
        obtain ⟨a, ha, rfl⟩ := hrel
        have han : a < n := by omega
        obtain ⟨b2, o2, rfl, hcv⟩ := HIk.out.at han
        have hta := HTl.out a han
        have hbit := bit_oneT Tk (t fk a)
        rw [HSn.out a han] at hbit
        by_cases har : a = r
        · have hin : inS S (t fk a) = true := by rw [har]; exact HAt.out
          rw [hin] at hbit
          have hbit2 : (bits .and .i64 ((Tk : Int) / 2 ^ t fk a) 1 == 1) = false := hbit
          have HEr : Hid (t fk r = t fk a) := Lib.hid (by rw [har])
          rw [HEr.out] at HOk HAk
          have hor := orN_eq Tk hT32 (t fk a) (by omega)
          have HOi := Lib.hid (orN_in Tk hT32 (t fk a) (by omega))
          have HOl := Lib.hid (orN_lt Tk hT32 (t fk a) (by omega))
          clear hin hbit har HEr HAt HNo HSn
          generalize t fk a = bv at *
          have d1 := HR.out.cell hfk
          have z1 := HR.out.frozen fk
          have HS1 := Lib.hid (HR.out.set fk (bv : Int))
          have d3 := HS1.out.cell hfk
          rw [upd_at] at d3
          have HBs := Lib.hid (HB.out.setCell (p := ⟨w.heap.size, fk, none⟩) (Nat.le_refl _) (.int .i64 (bv : Int)))
          go_wp2
          go_roundw
          case rel =>
            refine ⟨k + 1, Tk ||| 2 ^ bv, by omega, by go_num, by first | rfl | exact val_int hor, HOl.out, fun x hx => ?_, HS1.out.congr (fun p _ => ?_), HBs.out⟩
            · rw [HOi.out x hx, HTx.out x hx, HAk.out]
            · rw [HOk.out]
              unfold upd
              by_cases e : p = fk
              · rw [if_pos e, if_pos e]
              · rw [if_neg e, if_neg e]
          case measure => simp [intOf]; omega
        · have hin := HNo.out a (by omega)
          rw [hin] at hbit
          have hbit2 : (bits .and .i64 ((Tk : Int) / 2 ^ t fk a) 1 == 1) = true := hbit
          clear hin hbit
          go_wp2
          go_round
          case rel => exact ⟨a + 1, by omega, by go_num⟩
          case measure => simp [intOf]; omega
    · obtain rfl : k = n := by omega
      go_wp2
      go_ret
      exact ⟨_, rfl, Nat.le_refl _, HR.out.congr (fun p _ => by rw [HC.out]), HB.out⟩

/-- The reference's better. -/
def rbB (t : Nat → Nat → Nat) (n : Nat) (a b : Nat → Nat) : Bool := allB (fun i => !decide (owF (t i) n (b i) < owF (t i) n (a i))) n && anyB (fun i => decide (owF (t i) n (a i) < owF (t i) n (b i))) n
theorem rbB_bt {t : Nat → Nat → Nat} {n : Nat} (hn : n ≤ 5) {o : Nat → Nat} (x : List Nat) : rbB t n (rN x) o = btP t n o x := by
  have hfull : ∀ i, i < n → inS (2 ^ n - 1) i = true := fun i hi => by rw [inS_full n (by omega) i (by omega), decide_eq_true hi]
  unfold rbB btP gnB gnP gnQ lkB
  rw [allB_congr (q := fun p => !(inS (2 ^ n - 1) p && decide (owF (t p) n (o p) < owF (t p) n (rN x p)))) (fun i hi => by rw [hfull i hi, Bool.true_and]), anyB_congr (q := fun p => inS (2 ^ n - 1) p && decide (owF (t p) n (rN x p) < owF (t p) n (o p))) (fun i hi => by rw [hfull i hi, Bool.true_and])]
set_option maxHeartbeats 4000000 in
set_option maxRecDepth 1000000 in
theorem refbetter_any (A : Option Addr) (n c : Nat) (t : Nat → Nat → Nat) (F : Option Addr) (cF : Nat) (f : Nat → Nat) (G : Option Addr) (cG : Nat) (h : Nat → Nat) (w : World) (hw : Wis w A n t) (hF : Ints w F n (fun k => (f k : Int))) (hG : Ints w G n (fun k => (h k : Int)))
    (hn : n ≤ 5) (ht : ∀ i, i < n → Pm n (t i)) (hf : ∀ k, k < n → f k < n) (hh : ∀ k, k < n → h k < n) :
    Lr 73 #[.slice A n c, .slice F n cF, .slice G n cG] w (.bool (rbB t n f h)) := by
  unfold Lr
  have HW := Lib.hid hw
  have HF := Lib.hid hF
  have HG := Lib.hid hG
  have HT := Lib.hid ht
  have HFl := Lib.hid hf
  have HHl := Lib.hid hh
  have HU : Hid (rbB t n f h = (allB (fun i => !decide (owF (t i) n (h i) < owF (t i) n (f i))) n && anyB (fun i => decide (owF (t i) n (f i) < owF (t i) n (h i))) n)) := Lib.hid rfl
  have HAs : Hid (∀ k, anyB (fun i => decide (owF (t i) n (f i) < owF (t i) n (h i))) (k + 1) = (anyB (fun i => decide (owF (t i) n (f i) < owF (t i) n (h i))) k || decide (owF (t k) n (f k) < owF (t k) n (h k)))) := Lib.hid (fun _ => rfl)
  have HAz : Hid (anyB (fun i => decide (owF (t i) n (f i) < owF (t i) n (h i))) 0 = false) := Lib.hid rfl
  generalize anyB (fun i => decide (owF (t i) n (f i) < owF (t i) n (h i))) = am at *
  clear hw hF hG ht hf hh
  go_enter Try.func73, Try.ntmps73
  go_wp2_with fail
  go_loopw [7, 13] (fun mo i wr => ∃ j : Nat, j ≤ n ∧ i = .int .i64 j ∧ mo = .bool (am j) ∧ AllLt (fun i => !decide (owF (t i) n (h i) < owF (t i) n (f i))) j ∧ Below w.heap.size w wr) (fun _ i _ => n - (intOf i).toNat)
  case atStart => exact ⟨0, Nat.zero_le _, rfl, by rw [HAz.out], AllLt.zero, Below.refl _ _⟩
  case round =>
    obtain ⟨j, hj, rfl, rfl, hA, hD⟩ := hrel
    have HA := Lib.hid hA
    have HD := Lib.hid hD
    clear hA hD
    by_cases hlt : j < n
    · obtain ⟨b, o, A', c', rfl, hc, hcc, hA'⟩ := RowsK.at (HW.out.keep HD.out) hlt
      obtain ⟨bx, ox, rfl, hcx⟩ := (HF.out.keep HD.out).at hlt
      obtain ⟨bo, oo, rfl, hco2⟩ := (HG.out.keep HD.out).at hlt
      have HI1 := Lib.hid (fun (q : Later wr) (y : Int) => Lr.same (rankR_any A' n c' (fun q => (t j q : Int)) y q.to (Ints.keep hA' q.below) (by omega)))
      have HE1 := Lib.hid (idx_owF (HT.out j hlt) (HFl.out j hlt))
      have HE2 := Lib.hid (idx_owF (HT.out j hlt) (HHl.out j hlt))
      have HAj := Lib.hid (HAs.out j)
      have q0 : ∀ q : Later wr, q.to.cell? ⟨b, o + j, none⟩ = some (.slice A' n c') := fun q => q.cell hc
      have q1 : ∀ q : Later wr, q.to.cell? ⟨bx, ox + j, none⟩ = some (.int .i64 ((f j : Nat) : Int)) := fun q => q.cell hcx
      have q2 : ∀ q : Later wr, q.to.cell? ⟨bo, oo + j, none⟩ = some (.int .i64 ((h j : Nat) : Int)) := fun q => q.cell hco2
      have HSu := Lib.hid (fun hq => HA.out.succ (p := fun i => !decide (owF (t i) n (h i) < owF (t i) n (f i))) hq)
      have HFa := Lib.hid (fun hq => allB_f (p := fun i => !decide (owF (t i) n (h i) < owF (t i) n (f i))) hlt hq)
      clear hc hcx hco2 hA' hcc
      generalize hxj : f j = xj at *
      generalize hfj : h j = fj at *
      generalize idxI (fun q => (t j q : Int)) = ix at *
      generalize owF (t j) n xj = r1 at *
      generalize owF (t j) n fj = r2 at *
      clear hxj hfj
      go_wp2_with fail
      refine wp_region_later (by kernel_rfl) (by kernel_rfl) ?_
      repeat
        (with_reducible refine wpQuiet_step ?_
         intro K hK
         go_simp
         first
           | (refine hK _ ?_; clear hK K)
           | (apply Exists.intro
              refine ⟨fun _ => ?_, hK _ ?_⟩
              (go_at_call 60; exact Lr.later (HI1.out _ _))
              clear hK K))
      with_reducible refine wpQuiet_nil ?_
      intro W2 hw'
      obtain ⟨p2, hw''⟩ := hw'
      have hp2 := p2.below
      rw [← hw''] at hp2
      clear hw'' p2
      have HD2 := Lib.hid (HD.out.trans (hp2.mono HD.out.size))
      rw [HE1.out, HE2.out]
      clear hp2 q0 q1 q2
      by_cases hgt : r2 < r1
      · have hd2 : decide ((r2 : Int) < (r1 : Int)) = true := decide_eq_true (by omega)
        have HN := Lib.hid (HFa.out (by simp [hgt]))
        go_wp2
        go_ret
        exact ⟨ret_bool (by rw [HU.out, HN.out]; rfl), HD2.out⟩
      · have hd2 : decide ((r2 : Int) < (r1 : Int)) = false := decide_eq_false (by omega)
        have HN := Lib.hid (HSu.out (by simp [hgt]))
        cases hmo : am j with
        | true =>
          have HV : Hid (am (j + 1) = true) := Lib.hid (by rw [HAj.out, hmo]; rfl)
          clear hmo
          go_wp2
          go_roundw
          case rel => exact ⟨j + 1, by omega, by go_num, by rw [HV.out], HN.out, HD2.out⟩
          case measure => simp [intOf]; omega
        | false =>
          have HV : Hid (am (j + 1) = decide (r1 < r2)) := Lib.hid (by rw [HAj.out, hmo]; rfl)
          clear hmo
          by_cases hr : r1 < r2
          · have hd3 : decide ((r1 : Int) < (r2 : Int)) = true := decide_eq_true (by omega)
            have HV2 : Hid (am (j + 1) = true) := Lib.hid (by rw [HV.out, decide_eq_true hr])
            go_wp2
            go_roundw
            case rel => exact ⟨j + 1, by omega, by go_num, by rw [HV2.out], HN.out, HD2.out⟩
            case measure => simp [intOf]; omega
          · have hd3 : decide ((r1 : Int) < (r2 : Int)) = false := decide_eq_false (by omega)
            have HV2 : Hid (am (j + 1) = false) := Lib.hid (by rw [HV.out, decide_eq_false hr])
            go_wp2
            go_roundw
            case rel => exact ⟨j + 1, by omega, by go_num, by rw [HV2.out], HN.out, HD2.out⟩
            case measure => simp [intOf]; omega
    · obtain rfl : j = n := by omega
      have HN := Lib.hid (allB_t HA.out)
      go_wp2
      go_ret
      exact ⟨ret_bool (by rw [HU.out, HN.out]; rfl), HD.out⟩
/-- The rows of Orders, as they are read. -/
theorem orders_rows {w : World} {bo br n : Nat} {x : Value} (h : OL2 w bo br x ((ordL (List.range n) n []).map intG)) : ∃ A c, x = .slice A (ordL (List.range n) n []).length c ∧ Rows2 w A (ordL (List.range n) n []).length (fun _ => n) (fun i => rowF ((ordL (List.range n) n []).getD i [])) := by
  obtain ⟨vals, h1, h2, h3⟩ := h
  rw [List.length_map] at h1 h2
  have hv : OwnVals w br vals (fun _ => n) (fun i => rowF ((ordL (List.range n) n []).getD i [])) := fun i y hy => by
    have hi : i < (ordL (List.range n) n []).length := by rw [← h1]; exact (List.getElem?_eq_some_iff.1 hy).1
    have := h3 i y hy
    have e : ((ordL (List.range n) n []).map intG).getD i [] = lst n (rowF ((ordL (List.range n) n []).getD i [])) := by
      have hmem : (ordL (List.range n) n [])[i] ∈ ordL (List.range n) n [] := List.getElem_mem hi
      have hl := (pm_of_mem hmem).1
      rw [List.getD_eq_getElem?_getD, List.getElem?_map, List.getElem?_eq_getElem hi, Option.map_some, Option.getD_some, List.getD_eq_getElem?_getD, List.getElem?_eq_getElem hi, Option.getD_some]
      apply List.ext_getElem
      · simp [intG, lst, hl]
      · intro k k1 k2
        simp [intG, lst, rowF, List.getD_eq_getElem?_getD, hl] at k1 ⊢
        rw [List.getElem?_eq_getElem (by omega), Option.getD_some]
    rw [e] at this
    exact this
  have h0 := h2
  rcases h0.2 with ⟨rfl, hn⟩ | ⟨g, cap, cur, rfl, hg, hh, hnc, hcm, hcs, ht⟩
  · exact ⟨none, 0, by rw [hn], fun h => absurd h (by omega)⟩
  · refine ⟨some ⟨g, 0, none⟩, cap, rfl, fun hp => ⟨g, 0, rfl, fun k hk => ?_⟩⟩
    have hx : vals[k]? = some vals[k] := List.getElem?_eq_getElem (by omega)
    obtain ⟨A', c', e, -, hI, -⟩ := (hv k _ hx).form
    rw [lst_len] at e hI
    refine ⟨A', c', ?_, hI.congr fun j hj => lst_getD _ _ _ hj⟩
    rw [Nat.zero_add, World.ownsRow.cellAt h2 k (by omega), hx, e]
end Go.Proofs.Ytocfbafcplhmiaa
