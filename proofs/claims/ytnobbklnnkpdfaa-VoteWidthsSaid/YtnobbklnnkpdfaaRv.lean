/- The reference: rank, IsOrder, Valid, Margin, size. -/
import Derived.Test.YtnobbklnnkpdfaaVp
import Derived.Test.YtnobbklnnkpdfaaBs
namespace Go.Proofs.Ytnobbklnnkpdfaa
open Go.RowKit

set_option maxHeartbeats 1000000 in
set_option maxRecDepth 1000000 in
theorem rank_any (A : Option Addr) (n c : Nat) (f : Nat → Int) (x : Int) (w : World) (h : ArgI w A n c f) :
    Ro 42 #[.slice A n c, .int .i64 x] w (.int .i64 (idxI f x n)) := by
  refine Ro.of ?_
  obtain ⟨hnc, hcm, -, hI⟩ := h
  have hsz : n ≤ 9223372036854775807 := by unfold maxLen at hcm; omega
  have H := Lib.hid hI
  clear hI hcm
  go_enter Try.func42, Try.ntmps42
  go_wp2
  go_loopw [9] (fun i wr => ∃ k : Nat, k ≤ n ∧ i = .int .i64 k ∧ (∀ j, j < k → f j ≠ x) ∧ Dn w wr) (fun i _ => n - (intOf i).toNat)
  case atStart => exact ⟨0, Nat.zero_le _, rfl, fun j hj => absurd hj (by omega), Dn.refl _⟩
  case round =>
    obtain ⟨k, hk, rfl, he, hD⟩ := hrel
    have HE := Lib.hid he
    clear he
    by_cases hlt : k < n
    · obtain ⟨b, o, rfl, hc⟩ := (H.out.dn hD).at hlt
      by_cases hx : f k = x
      · have hB := beq_t hx.symm
        have HR : Hid (idxI f x n = k) := Lib.hid (idxI_some HE.out hx n hlt)
        clear hx
        go_wp2
        go_ret
        exact ⟨ret_int HR.out.symm, hD⟩
      · have hB := beq_f (fun e => hx (Eq.symm e) : ¬ x = f k)
        have HE2 : Hid (∀ j, j < k + 1 → f j ≠ x) := Lib.hid (fun j hj => by
          rcases Nat.lt_or_ge j k with hl | hl
          · exact HE.out j hl
          · obtain rfl : j = k := by omega
            exact hx)
        clear hx
        go_wp2
        go_roundw
        case rel => exact ⟨k + 1, by omega, by go_num, HE2.out, hD⟩
        case measure => simp [intOf]; omega
    · obtain rfl : k = n := by omega
      go_wp2
      go_ret
      exact ⟨ret_int (idxI_none HE.out).symm, hD⟩

theorem idxI_bdV (f : Nat → Int) (x : Int) (n : Nat) : -1 ≤ idxI f x n ∧ idxI f x n < n := by
  rcases idxI_cases f x n with ⟨e, -⟩ | ⟨k, hk, e, -⟩ <;> omega

set_option maxHeartbeats 1000000 in
set_option maxRecDepth 1000000 in
theorem isOrderR_any (A : Option Addr) (n cp c : Nat) (f : Nat → Int) (w : World) (h : ArgI w A n cp f) (hc : c ≤ 9223372036854775807) :
    Ro 39 #[.slice A n cp, .int .i64 c] w (.bool (ordR c n f)) := by
  refine Ro.of ?_
  have HU : Hid (ordR c n f = (allB (fun x => hasB f (x : Int) n) c && decide (n = c))) := Lib.hid rfl
  have H := Lib.hid h
  have hn : n ≤ 9223372036854775807 := by
    have h1 := h.1
    have h2 := h.2.1
    unfold maxLen at h2
    omega
  clear h
  go_enter Try.func39, Try.ntmps39
  go_wp2
  go_loopw [7] (fun i wr => ∃ k : Nat, k ≤ c ∧ i = .int .i64 k ∧ AllLt (fun x => hasB f (x : Int) n) k ∧ Dn w wr) (fun i _ => c - (intOf i).toNat)
  case atStart => exact ⟨0, Nat.zero_le _, rfl, AllLt.zero, Dn.refl _⟩
  case round =>
    obtain ⟨k, hk, rfl, hA, hD⟩ := hrel
    have HA := Lib.hid hA
    clear hA
    by_cases hlt : k < c
    · have HRk := Lib.hid (rank_any A n cp f (k : Int) wr (by obtain ⟨m, rfl⟩ := hD; exact H.out))
      have HS : Hid (hasB f (k : Int) n = decide (0 ≤ idxI f (k : Int) n)) := Lib.hid rfl
      have hbd := idxI_bdV f (k : Int) n
      generalize idxI f (k : Int) n = r at *
      go_wp2_with fail
      refine Ro.use HRk.out ?_
      intro w3 hd3
      have HD := Lib.hid (hD.trans hd3)
      clear hd3 hD HRk
      rcases Int.lt_or_le r 0 with h0 | h0
      · have HF := Lib.hid (allB_f (p := fun x => hasB f (x : Int) n) hlt (by show hasB f (k : Int) n = false; rw [HS.out]; exact decide_eq_false (by omega)))
        go_wp2
        go_ret
        exact ⟨ret_bool (by rw [HU.out, HF.out]; rfl), HD.out⟩
      · have HN := Lib.hid (HA.out.succ (show hasB f (k : Int) n = true by rw [HS.out]; exact decide_eq_true h0))
        go_wp2
        go_roundw
        case rel => exact ⟨k + 1, by omega, by go_num, HN.out, HD.out⟩
        case measure => simp [intOf]; omega
    · obtain rfl : k = c := by omega
      have HT := Lib.hid (allB_t HA.out)
      by_cases e : n = k
      · have hB := beq_t (a := (n : Int)) (b := (k : Int)) (by omega)
        have HV : Hid (ordR k n f = true) := Lib.hid (by rw [HU.out, HT.out, decide_eq_true e]; rfl)
        clear e
        go_wp2
        go_ret
        exact ⟨ret_bool HV.out.symm, hD⟩
      · have hB := beq_f (a := (n : Int)) (b := (k : Int)) (by omega)
        have HV : Hid (ordR k n f = false) := Lib.hid (by rw [HU.out, decide_eq_false e, Bool.and_false])
        clear e
        go_wp2
        go_ret
        exact ⟨ret_bool HV.out.symm, hD⟩

def okBalR (n : Nat) (L : Nat → Nat) (v : Nat → Nat → Int) : Bool := decide (1 ≤ n ∧ n ≤ 9) && (allB (fun i => ordR (L 0) (L i) (v i)) n && decide (1 ≤ L 0 ∧ L 0 ≤ 5))
theorem okBalR_eq (n : Nat) (L : Nat → Nat) (v : Nat → Nat → Int) : okBalR n L v = okBal n L v := by
  unfold okBalR okBal
  rw [Bool.and_comm (allB _ n)]
  congr 2
  exact allB_congr (fun i _ => ordR_eq _ _ _)

set_option maxHeartbeats 1000000 in
set_option maxRecDepth 1000000 in
theorem validR_any (A : Option Addr) (n c : Nat) (L : Nat → Nat) (v : Nat → Nat → Int) (w : World) {c0 : Nat} (h : ArgR w A n c0 L v) :
    Ro 14 #[.slice A n c] w (.bool (okBal n L v)) := by
  rw [← okBalR_eq]
  refine Ro.of ?_
  have hn : n ≤ 17592186044416 := Nat.le_trans h.1 h.2.1
  have H := Lib.hid h
  clear h
  have HU : Hid (okBalR n L v = (decide (1 ≤ n ∧ n ≤ 9) && (allB (fun i => ordR (L 0) (L i) (v i)) n && decide (1 ≤ L 0 ∧ L 0 ≤ 5)))) := Lib.hid rfl
  by_cases h1 : 1 ≤ n ∧ n ≤ 9
  · obtain ⟨h1a, h1b⟩ := h1
    obtain ⟨b, o, A0, c0, rfl, hc0, hA0⟩ := H.out.at (show 0 < n by omega)
    have hL0 : L 0 ≤ 9223372036854775807 := by
      have h3 := hA0.1
      have h2 := hA0.2.1
      unfold maxLen at h2
      omega
    have hc0' : w.cell? ⟨b, o, none⟩ = some (.slice A0 (L 0) c0) := hc0
    clear hA0 hc0
    have HV : Hid (okBalR n L v = (allB (fun i => ordR (L 0) (L i) (v i)) n && decide (1 ≤ L 0 ∧ L 0 ≤ 5))) := Lib.hid (by rw [HU.out, decide_eq_true ⟨h1a, h1b⟩, Bool.true_and])
    clear HU
    go_enter Try.func14, Try.ntmps14
    go_wp2
    go_loopw [20] (fun i wr => ∃ k : Nat, k ≤ n ∧ i = .int .i64 k ∧ AllLt (fun i => ordR (L 0) (L i) (v i)) k ∧ Dn w wr) (fun i _ => n - (intOf i).toNat)
    case atStart => exact ⟨0, Nat.zero_le _, rfl, AllLt.zero, Dn.refl _⟩
    case round =>
      obtain ⟨k, hk, rfl, hA, hD⟩ := hrel
      have HA := Lib.hid hA
      clear hA
      by_cases hlt : k < n
      · obtain ⟨b', o', A', c', e, hc', hAI⟩ := (H.out.below (hD.below _)).at hlt
        injection e with e
        injection e with e1 e2
        subst e1 e2
        have HO := Lib.hid (isOrderR_any A' (L k) c' (L 0) (v k) wr hAI hL0)
        clear hAI
        go_wp2_with fail
        refine Ro.use HO.out ?_
        intro w3 hd3
        have HD := Lib.hid (hD.trans hd3)
        clear hd3 HO
        cases hb : ordR (L 0) (L k) (v k) with
        | true =>
          have HA2 := Lib.hid (HA.out.succ hb)
          clear hb
          go_wp2
          go_roundw
          case rel => exact ⟨k + 1, by omega, by go_num, HA2.out, HD.out⟩
          case measure => simp [intOf]; omega
        | false =>
          have HF := Lib.hid (allB_f (p := fun i => ordR (L 0) (L i) (v i)) hlt hb)
          clear hb
          go_wp2
          go_ret
          exact ⟨ret_bool (by rw [HV.out, HF.out]; rfl), HD.out⟩
      · obtain rfl : k = n := by omega
        have HT := Lib.hid (allB_t HA.out)
        by_cases h2 : 1 ≤ L 0
        · by_cases h3 : L 0 ≤ 5
          · have HW : Hid (okBalR k L v = true) := Lib.hid (by rw [HV.out, HT.out, decide_eq_true ⟨h2, h3⟩]; rfl)
            go_wp2
            go_ret
            exact ⟨ret_bool (by first | (rw [HW.out]; done) | (rw [HW.out]; rfl) | (rw [HW.out]; simp; omega)), hD⟩
          · have HW : Hid (okBalR k L v = false) := Lib.hid (by rw [HV.out, decide_eq_false (fun h => h3 h.2), Bool.and_false])
            have h3' : 5 < L 0 := by omega
            clear h3
            go_wp2
            go_ret
            exact ⟨ret_bool (by first | (rw [HW.out]; done) | (rw [HW.out]; rfl) | (rw [HW.out]; simp; omega)), hD⟩
        · have HW : Hid (okBalR k L v = false) := Lib.hid (by rw [HV.out, decide_eq_false (fun h => h2 h.1), Bool.and_false])
          have h2' : L 0 < 1 := by omega
          clear h2
          go_wp2
          go_ret
          exact ⟨ret_bool (by first | (rw [HW.out]; done) | (rw [HW.out]; rfl) | (rw [HW.out]; simp; omega)), hD⟩
  · have HV : Hid (okBalR n L v = false) := Lib.hid (by rw [HU.out, decide_eq_false h1, Bool.false_and])
    have h3 : n < 1 ∨ 9 < n := by omega
    clear HU h1
    rcases h3 with h3 | h3
    · go_enter Try.func14, Try.ntmps14
      go_wp2
      go_ret
      exact ⟨ret_bool HV.out.symm, Dn.refl _⟩
    · go_enter Try.func14, Try.ntmps14
      go_wp2
      go_ret
      exact ⟨ret_bool HV.out.symm, Dn.refl _⟩

set_option maxHeartbeats 1000000 in
set_option maxRecDepth 1000000 in
theorem margin_any (A : Option Addr) (n cA c a b : Nat) (L : Nat → Nat) (v : Nat → Nat → Int) (w : World) {cR : Nat} (h : ArgR w A n cR L v) (hn : n ≤ 9) (hL : ∀ i, i < n → L i = c) :
    Ro 72 #[.slice A n cA, .int .i64 a, .int .i64 b] w (.int .i64 (mrg v c a b n)) := by
  refine Ro.of ?_
  have H := Lib.hid h
  have HL := Lib.hid hL
  clear h hL
  go_enter Try.func72, Try.ntmps72
  go_wp2
  go_loopw [7, 12] (fun s i wr => ∃ k : Nat, k ≤ n ∧ i = .int .i64 k ∧ s = .int .i64 (mrg v c a b k) ∧ Dn w wr) (fun _ i _ => n - (intOf i).toNat)
  case atStart => exact ⟨0, Nat.zero_le _, rfl, rfl, Dn.refl _⟩
  case round =>
    obtain ⟨k, hk, rfl, rfl, hD⟩ := hrel
    by_cases hlt : k < n
    · obtain ⟨bb, oo, A', c', rfl, hc', hAI⟩ := (H.out.below (hD.below _)).at hlt
      rw [HL.out k hlt] at hc' hAI
      have HRa : Hid (∀ w', Dn wr w' → Ro 42 #[.slice A' c c', .int .i64 a] w' (.int .i64 (idxI (v k) a c))) := Lib.hid (fun w' hd => rank_any A' c c' (v k) a w' (hAI.below (hd.below _)))
      have HRb : Hid (∀ w', Dn wr w' → Ro 42 #[.slice A' c c', .int .i64 b] w' (.int .i64 (idxI (v k) b c))) := Lib.hid (fun w' hd => rank_any A' c c' (v k) b w' (hAI.below (hd.below _)))
      have hm := mrg_bd v c a b k
      have HM : Hid (mrg v c a b (k + 1) = mrg v c a b k + sg (idxI (v k) a c) (idxI (v k) b c)) := Lib.hid rfl
      clear hAI
      generalize mrg v c a b k = M at *
      obtain ⟨hm1, hm2⟩ := hm
      generalize idxI (v k) (a : Int) c = ra at *
      generalize idxI (v k) (b : Int) c = rb at *
      go_wp2_with fail
      refine Ro.use (HRa.out _ (Dn.refl _)) ?_
      intro w1 hd1
      go_wp2_with fail
      refine Ro.use (HRb.out _ hd1) ?_
      intro w2 hd2
      have hd12 := hd1.trans hd2
      clear hd1 hd2
      rcases Int.lt_or_le ra rb with hl | hl
      · have HS : Hid (sg ra rb = 1) := Lib.hid (by unfold sg; rw [if_pos hl])
        go_wp2
        go_roundw
        case rel => exact ⟨k + 1, by omega, by go_num, by rw [HM.out, HS.out], hD.trans hd12⟩
        case measure => simp [intOf]; omega
      · go_wp2_with fail
        refine Ro.use (HRb.out _ hd12) ?_
        intro w3 hd3
        go_wp2_with fail
        refine Ro.use (HRa.out _ (hd12.trans hd3)) ?_
        intro w4 hd4
        have HD := Lib.hid (((hD.trans hd12).trans hd3).trans hd4)
        clear hd12 hd3 hd4
        rcases Int.lt_or_le rb ra with hl2 | hl2
        · have HS : Hid (sg ra rb = -1) := Lib.hid (by unfold sg; rw [if_neg (by omega), if_pos hl2])
          go_wp2
          go_roundw
          case rel => exact ⟨k + 1, by omega, by go_num, (by rw [HM.out, HS.out] <;> rfl), HD.out⟩
          case measure => simp [intOf]; omega
        · have HS : Hid (sg ra rb = 0) := Lib.hid (by unfold sg; rw [if_neg (by omega), if_neg (by omega)])
          go_wp2
          go_roundw
          case rel => exact ⟨k + 1, by omega, by go_num, (by first | (rw [HM.out, HS.out]; done) | (rw [HM.out, HS.out]; simp)), HD.out⟩
          case measure => simp [intOf]; omega
    · obtain rfl : k = n := by omega
      go_wp2
      go_ret
      exact ⟨rfl, hD⟩
end Go.Proofs.Ytnobbklnnkpdfaa
