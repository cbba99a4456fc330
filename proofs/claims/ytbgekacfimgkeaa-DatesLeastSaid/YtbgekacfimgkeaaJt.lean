/- The first order whose greatest delay is the least. -/
import Derived.Test.YtbgekacfimgkeaaJs
namespace Go.Proofs.Ytbgekacfimgkeaa
open Go.RowKit

def pkP (n : Nat) (J : Nat → Nat → Int) (N : Nat → Nat) (d : Nat → Int) (ls : Int) (s j : Nat) : Bool := cfB N s j && decide (dlV n J d s j ≤ ls)
/-- After i steps: the set that is done, and the order. -/
def frF (n : Nat) (J : Nat → Nat → Int) (N : Nat → Nat) (d : Nat → Int) (ls : Int) : Nat → Nat × List Int
  | 0 => (0, [])
  | i + 1 => match (List.range n).find? (pkP n J N d ls (frF n J N d ls i).1) with
    | none => frF n J N d ls i
    | some k => (orX (frF n J N d ls i).1 k, (frF n J N d ls i).2 ++ [(k : Int)])
section
variable {n : Nat} {J : Nat → Nat → Int} {N : Nat → Nat} {d : Nat → Int} {ls : Int}
theorem frF_none {i : Nat} (h : (List.range n).find? (pkP n J N d ls (frF n J N d ls i).1) = none) : frF n J N d ls (i + 1) = frF n J N d ls i := by rw [frF, h]
theorem frF_some {i k : Nat} (h : (List.range n).find? (pkP n J N d ls (frF n J N d ls i).1) = some k) : frF n J N d ls (i + 1) = (orX (frF n J N d ls i).1 k, (frF n J N d ls i).2 ++ [(k : Int)]) := by rw [frF, h]
theorem frF_rng : ∀ i, (frF n J N d ls i).1 < 2 ^ n ∧ (frF n J N d ls i).2.length ≤ i := by
  intro i
  induction i with
  | zero => exact ⟨Nat.pow_pos (by omega), Nat.le_refl _⟩
  | succ i ih =>
    cases h : (List.range n).find? (pkP n J N d ls (frF n J N d ls i).1) with
    | none => rw [frF_none h]; exact ⟨ih.1, by omega⟩
    | some k =>
      rw [frF_some h]
      have h1 := List.mem_of_find?_eq_some h
      refine ⟨orX_lt ih.1 (List.mem_range.1 h1), ?_⟩
      have h2 := ih.2
      simp only [List.length_append, List.length_cons, List.length_nil]
      omega
end

set_option maxHeartbeats 8000000 in
set_option maxRecDepth 1000000 in
theorem first_any (A : Option Addr) (n c g P : Nat) (N : Nat → Nat) (J : Nat → Nat → Int) (d : Nat → Int) (ls : Int) (w : World) (h : Recs 4 w A n J) (hok : okJ n J = true) (hP : P = 2 ^ n) (hR : RowI w g P d) (hd : ∀ s, -200 ≤ d s ∧ d s ≤ 161) :
    Calls Try.prog 63 #[.agg #[.slice A n c, .int .i64 ((N 0 : Nat) : Int), .int .i64 ((N 1 : Nat) : Int), .int .i64 ((N 2 : Nat) : Int), .int .i64 ((N 3 : Nat) : Int), .int .i64 ((N 4 : Nat) : Int), .int .i64 ((N 5 : Nat) : Int), .int .i64 ((N 6 : Nat) : Int), .int .i64 ((N 7 : Nat) : Int)], .slice (some ⟨g, 0, none⟩) P P, .int .i64 ls] w fun e w' => ∃ v, e = .returned v ∧ OwnL w' w.heap.size v (frF n J N d ls n).2 ∧ Below w.heap.size w w' := by
  have H := Lib.hid h
  have HOk := Lib.hid hok
  have HR := Lib.hid hR
  have HDr := Lib.hid hd
  have HPn := Lib.hid hP
  obtain ⟨⟨h1, h8⟩, -⟩ := okJ_iff.1 hok
  have hP256 : P ≤ 256 := by
    rw [hP]
    have := Nat.pow_le_pow_right (n := 2) (by omega) h8
    omega
  have HFr := Lib.hid (fun i => frF_rng (n := n) (J := J) (N := N) (d := d) (ls := ls) i)
  have H0 : Hid (frF n J N d ls 0 = (0, [])) := Lib.hid rfl
  obtain ⟨i1, hi1, hz01, hz11, hz21⟩ := info_parts infoInt
  have hb0 := (Below.refl w.heap.size w).alloc (Nat.le_refl _) (.cells #[.slice A n c, .int .i64 ((N 0 : Nat) : Int), .int .i64 ((N 1 : Nat) : Int), .int .i64 ((N 2 : Nat) : Int), .int .i64 ((N 3 : Nat) : Int), .int .i64 ((N 4 : Nat) : Int), .int .i64 ((N 5 : Nat) : Int), .int .i64 ((N 6 : Nat) : Int), .int .i64 ((N 7 : Nat) : Int)] 95)
  have hrg : (w.alloc (.cells #[.slice A n c, .int .i64 ((N 0 : Nat) : Int), .int .i64 ((N 1 : Nat) : Int), .int .i64 ((N 2 : Nat) : Int), .int .i64 ((N 3 : Nat) : Int), .int .i64 ((N 4 : Nat) : Int), .int .i64 ((N 5 : Nat) : Int), .int .i64 ((N 6 : Nat) : Int), .int .i64 ((N 7 : Nat) : Int)] 95)).rangeAt w.heap.size 0 [.slice A n c, .int .i64 ((N 0 : Nat) : Int), .int .i64 ((N 1 : Nat) : Int), .int .i64 ((N 2 : Nat) : Int), .int .i64 ((N 3 : Nat) : Int), .int .i64 ((N 4 : Nat) : Int), .int .i64 ((N 5 : Nat) : Int), .int .i64 ((N 6 : Nat) : Int), .int .i64 ((N 7 : Nat) : Int)] := fun j v hv => by
    rw [Nat.zero_add]
    simpa [World.cell?_alloc_at] using hv
  have hsz : w.heap.size < (w.alloc (.cells #[.slice A n c, .int .i64 ((N 0 : Nat) : Int), .int .i64 ((N 1 : Nat) : Int), .int .i64 ((N 2 : Nat) : Int), .int .i64 ((N 3 : Nat) : Int), .int .i64 ((N 4 : Nat) : Int), .int .i64 ((N 5 : Nat) : Int), .int .i64 ((N 6 : Nat) : Int), .int .i64 ((N 7 : Nat) : Int)] 95)).heap.size := by simp
  have hcb := hrg 0 _ rfl
  clear h hok hP hR hd
  go_enter Try.func63, Try.ntmps63
  go_wp2
  clear hcb
  have HB0 := Lib.hid hb0
  have HRg := Lib.hid hrg
  have HSz := Lib.hid hsz
  clear hb0 hrg hsz
  generalize w.alloc (.cells #[.slice A n c, .int .i64 ((N 0 : Nat) : Int), .int .i64 ((N 1 : Nat) : Int), .int .i64 ((N 2 : Nat) : Int), .int .i64 ((N 3 : Nat) : Int), .int .i64 ((N 4 : Nat) : Int), .int .i64 ((N 5 : Nat) : Int), .int .i64 ((N 6 : Nat) : Int), .int .i64 ((N 7 : Nat) : Int)] 95) = W0 at *
  go_loopw [7, 8, 13] (fun v dn i wr => ∃ k : Nat, k ≤ n ∧ i = .int .i64 k ∧ OwnL wr W0.heap.size v (frF n J N d ls k).2 ∧ dn = .int .i64 (((frF n J N d ls k).1 : Nat) : Int) ∧ Below W0.heap.size W0 wr) (fun _ _ i _ => n - (intOf i).toNat)
  case atStart => exact ⟨0, Nat.zero_le _, rfl, by rw [H0.out]; exact OwnL.nil_ _ _, by rw [H0.out]; rfl, Below.refl _ _⟩
  case round =>
    obtain ⟨k, hk, rfl, hO, rfl, hB⟩ := hrel
    have HO := Lib.hid hO
    have HB := Lib.hid hB
    have hfr := HFr.out k
    have HNo := Lib.hid (fun hh => frF_none (n := n) (J := J) (N := N) (d := d) (ls := ls) (i := k) hh)
    have HSo := Lib.hid (fun j hh => frF_some (n := n) (J := J) (N := N) (d := d) (ls := ls) (i := k) (k := j) hh)
    generalize hfk : frF n J N d ls k = fk at *
    obtain ⟨s, L⟩ := fk
    have HFk := Lib.hid hfk
    clear hfk hO
    simp only at hfr HO
    obtain ⟨hsP, hLn⟩ := hfr
    have hs256 : s < 256 := by have := HPn.out; omega
    have hcb := (hB.cell (by show w.heap.size < _; exact HSz.out)).trans (HRg.out 0 _ rfl)
    clear hB
    by_cases hlt : k < n
    · show Code.wp _ _ _ _ _
      go_wp2
      clear hcb
      go_loopw [7, 8, 18] (fun v dn i wx => ∃ j : Nat, j ≤ n ∧ i = .int .i64 j ∧ dn = .int .i64 ((s : Nat) : Int) ∧ AllLt (fun a => !pkP n J N d ls s a) j ∧ OwnL wx W0.heap.size v L ∧ Below W0.heap.size W0 wx) (fun _ _ i _ => n - (intOf i).toNat)
      case atStart => exact ⟨0, Nat.zero_le _, rfl, rfl, AllLt.zero, HO.out, HB.out⟩
      case round =>
        obtain ⟨j, hj, rfl, rfl, hA, hO, hB⟩ := hrel
        have HA := Lib.hid hA
        have HO2 := Lib.hid hO
        have HB2 := Lib.hid hB
        have HG2 : Hid (wr.rangeAt w.heap.size 0 [.slice A n c, .int .i64 ((N 0 : Nat) : Int), .int .i64 ((N 1 : Nat) : Int), .int .i64 ((N 2 : Nat) : Int), .int .i64 ((N 3 : Nat) : Int), .int .i64 ((N 4 : Nat) : Int), .int .i64 ((N 5 : Nat) : Int), .int .i64 ((N 6 : Nat) : Int), .int .i64 ((N 7 : Nat) : Int)]) := Lib.hid (fun q v hv => (hB.cell (by show w.heap.size < _; exact HSz.out)).trans (HRg.out q v hv))
        have HBw := Lib.hid (HB0.out.trans (hB.mono HB0.out.size))
        clear hA hO hB
        by_cases hjn : j < n
        · have hj8 : j < 8 := by omega
          go_wp2_with (first
            | (refine wpList_load_mid rfl 95 _ rfl w.heap.size 0 rfl [.slice A n c, .int .i64 ((N 0 : Nat) : Int), .int .i64 ((N 1 : Nat) : Int), .int .i64 ((N 2 : Nat) : Int), .int .i64 ((N 3 : Nat) : Int), .int .i64 ((N 4 : Nat) : Int), .int .i64 ((N 5 : Nat) : Int), .int .i64 ((N 6 : Nat) : Int), .int .i64 ((N 7 : Nat) : Int)] _ HG2.out Try.underlying95 rfl infoRow ?_)
            | fail)
          refine (canFollow_any A n c N s j _ hj8).use fun w2 hb2 => ?_
          have HO3 := Lib.hid (HO2.out.below hb2)
          have HB3 := Lib.hid (HB2.out.trans (hb2.mono HB2.out.size))
          have HG3 := Lib.hid (range_keep HG2.out hb2)
          have HBw3 := Lib.hid (HBw.out.trans (hb2.mono HBw.out.size))
          clear hb2
          cases hc : cfB N s j with
          | false =>
            have HN := Lib.hid (show (!pkP n J N d ls s j) = true by unfold pkP; rw [hc]; rfl)
            go_wp2
            go_roundw
            case rel => exact ⟨j + 1, by omega, by go_num, rfl, HA.out.succ HN.out, HO3.out, HB3.out⟩
            case measure => simp [intOf]; omega
          | true =>
            have hno := cf_no hc
            have hoP : orX s j < P := by rw [HPn.out]; exact orX_lt hsP hjn
            have b0 : w2.cell? ⟨w.heap.size, 0, none⟩ = some (.slice A n c) := HG3.out 0 _ rfl
            have b1 : w2.cell? ⟨w.heap.size, 1, none⟩ = some (.int .i64 ((N 0 : Nat) : Int)) := HG3.out 1 _ rfl
            have b2 : w2.cell? ⟨w.heap.size, 2, none⟩ = some (.int .i64 ((N 1 : Nat) : Int)) := HG3.out 2 _ rfl
            have b3 : w2.cell? ⟨w.heap.size, 3, none⟩ = some (.int .i64 ((N 2 : Nat) : Int)) := HG3.out 3 _ rfl
            have b4 : w2.cell? ⟨w.heap.size, 4, none⟩ = some (.int .i64 ((N 3 : Nat) : Int)) := HG3.out 4 _ rfl
            have b5 : w2.cell? ⟨w.heap.size, 5, none⟩ = some (.int .i64 ((N 4 : Nat) : Int)) := HG3.out 5 _ rfl
            have b6 : w2.cell? ⟨w.heap.size, 6, none⟩ = some (.int .i64 ((N 5 : Nat) : Int)) := HG3.out 6 _ rfl
            have b7 : w2.cell? ⟨w.heap.size, 7, none⟩ = some (.int .i64 ((N 6 : Nat) : Int)) := HG3.out 7 _ rfl
            have b8 : w2.cell? ⟨w.heap.size, 8, none⟩ = some (.int .i64 ((N 7 : Nat) : Int)) := HG3.out 8 _ rfl
            go_wp2_with fail
            clear b0 b1 b2 b3 b4 b5 b6 b7 b8
            refine (delayR_any A n c N J s j g P d w2 (H.out.keep HBw3.out) HOk.out hs256 hjn hoP (HR.out.keep HBw3.out) (HDr.out _)).use fun w3 hb3 => ?_
            have HO4 := Lib.hid (HO3.out.below hb3)
            have HB4 := Lib.hid (HB3.out.trans (hb3.mono HB3.out.size))
            have HPk : Hid (pkP n J N d ls s j = decide (dlV n J d s j ≤ ls)) := Lib.hid (by unfold pkP; rw [hc]; rfl)
            clear hb3 hc hno
            generalize dlV n J d s j = dv at *
            by_cases hle : dv ≤ ls
            · have hdl : decide (dv ≤ ls) = true := decide_eq_true hle
              have HF := Lib.hid (show (List.range n).find? (pkP n J N d ls s) = some j from List.find?_range_eq_some.2 ⟨by rw [HPk.out, hdl], List.mem_range.2 hjn, fun a ha => HA.out a ha⟩)
              have HNx := Lib.hid (HSo.out j HF.out)
              have hw1 := pow_fit j (by omega)
              obtain ⟨hw2, ho256⟩ := bit_or j hj8 s hs256
              have hwl : w3.ownsRow W0.heap.size 3 1 u7 L.length (L.map (Value.int .i64)) := HO4.out
              have HWL := Lib.hid hwl
              have hs0 : W0.heap.size ≤ w3.heap.size := HB4.out.size
              clear hwl hle
              generalize orX s j = s' at *
              generalize (2 : Nat) ^ j = pw at *
              go_wp2_with (at_builtin; go_loud (refine wpList_append_own _ rfl _ _ 23 rfl W0.heap.size 3 i1 (.int .i64 0) 1 8 Try.underlying23 hi1 hz01 hz11 hz21 rfl (by decide) _ _ _ rfl (World.ownsRow.alloc HWL.out _) ⟨w3.heap.size, 0, none⟩ 1 1 [.int .i64 j] rfl rfl (news1 _ _ _) (one1 rfl) (by unfold maxLen; omega) (by omega) (by simp; omega) ?_))
              intro v' w5 hown hgrow _
              have HO5 := Lib.hid hown
              have HG5 := Lib.hid hgrow
              clear hown hgrow
              go_wp2
              go_roundw
              case rel =>
                refine ⟨k + 1, by omega, by go_num, ?_, ?_, ?_⟩
                · rw [HNx.out]
                  show OwnL _ _ _ (L ++ [(j : Int)])
                  unfold OwnL
                  rw [List.length_append, List.map_append]
                  exact HO5.out
                · rw [HNx.out]
                · refine (HB4.out.alloc hs0 _).grown HG5.out (by simp; omega) ?_
                  intro g' hg'
                  exact (World.ownsRow.lt HO4.out g' hg').1
              case measure => simp [intOf]; omega
            · have hdl : decide (dv ≤ ls) = false := decide_eq_false hle
              have HN := Lib.hid (show (!pkP n J N d ls s j) = true by rw [HPk.out, hdl]; rfl)
              clear hle
              go_wp2
              go_roundw
              case rel => exact ⟨j + 1, by omega, by go_num, rfl, HA.out.succ HN.out, HO4.out, HB4.out⟩
              case measure => simp [intOf]; omega
        · have hjn2 : n = j := by omega
          have HF := Lib.hid (show (List.range n).find? (pkP n J N d ls s) = none from List.find?_range_eq_none.2 (fun a ha => HA.out a (by omega)))
          have HNx := Lib.hid (HNo.out HF.out)
          clear hjn2
          go_wp2
          go_roundw
          case rel => exact ⟨k + 1, by omega, by go_num, by rw [HNx.out]; exact HO2.out, by rw [HNx.out], HB2.out⟩
          case measure => simp [intOf]; omega
    · have hkn : n = k := by omega
      subst hkn
      have hse := HB0.out.size
      have HO3 := Lib.hid (show OwnL wr w.heap.size u7 (frF n J N d ls n).2 by rw [HFk.out]; exact HO.out.rebase hse)
      go_wp2
      go_ret
      exact ⟨_, rfl, HO3.out, HB0.out.trans (HB.out.mono HB0.out.size)⟩
end Go.Proofs.Ytbgekacfimgkeaa
