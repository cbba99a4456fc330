/- The reference: Valid, ends, plan. -/
import Derived.Test.YtbgekacfimgkeaaQh
namespace Go.Proofs.Ytbgekacfimgkeaa
open Go.RowKit

set_option maxHeartbeats 1000000 in
set_option maxRecDepth 1000000 in
theorem refValid_any (A : Option Addr) (n c : Nat) (J : Nat → Nat → Int) (w : World) (h : Recs 4 w A n J) (hn : n ≤ maxLen) :
    Lr 20 #[.slice A n c] w (.bool (okJ n J)) := by
  unfold Lr
  have hm : n ≤ 9223372036854775807 := by unfold maxLen at hn; omega
  have H := Lib.hid h
  clear h hn
  have HF : Hid (∀ k, k < n → okOne J k = false → okJ n J = false) := Lib.hid (fun k hk h => by unfold okJ; rw [allB_f hk h, Bool.and_false])
  have HT : Hid (AllLt (okOne J) n → okJ n J = (decide (1 ≤ n) && decide (n ≤ 8))) := Lib.hid (fun h => by unfold okJ; rw [allB_t h, Bool.and_true]; by_cases h1 : 1 ≤ n <;> by_cases h2 : n ≤ 8 <;> simp [h1, h2])
  go_enter Try.func20, Try.ntmps20
  go_wp2
  go_loopw [7] (fun i wr => ∃ k : Nat, k ≤ n ∧ i = .int .i64 k ∧ AllLt (okOne J) k ∧ Below w.heap.size w wr) (fun i _ => n - (intOf i).toNat)
  case atStart => exact ⟨0, Nat.zero_le _, rfl, AllLt.zero, Below.refl _ _⟩
  case round =>
    obtain ⟨k, hk, rfl, hA, hD⟩ := hrel
    by_cases hlt : k < n
    · obtain ⟨b, o, rfl, c0, c1, c2, c3⟩ := (H.out.keep hD).four hlt
      have HA := Lib.hid hA
      clear hA
      cases ho : okOne J k with
      | true =>
        have h8 : (1 ≤ J k 0 ∧ J k 0 ≤ 20) ∧ (0 ≤ J k 1 ∧ J k 1 ≤ 100) ∧ (0 ≤ J k 2 ∧ J k 2 ≤ 200) ∧ (0 ≤ J k 3 ∧ J k 3 ≤ 20) := by
          simp only [okOne, witB, Bool.and_eq_true, decide_eq_true_iff] at ho
          omega
        obtain ⟨⟨h1, h2⟩, ⟨h3, h4⟩, ⟨h5, h6⟩, ⟨h7, h8⟩⟩ := h8
        have HOk := Lib.hid ho
        have d1 : decide (J k 0 < 1) = false := decide_eq_false (by omega)
        have d2 : decide (20 < J k 0) = false := decide_eq_false (by omega)
        have d3 : decide (J k 1 < 0) = false := decide_eq_false (by omega)
        have d4 : decide (100 < J k 1) = false := decide_eq_false (by omega)
        have d5 : decide (J k 2 < 0) = false := decide_eq_false (by omega)
        have d6 : decide (200 < J k 2) = false := decide_eq_false (by omega)
        have d7 : decide (J k 3 < 0) = false := decide_eq_false (by omega)
        have d8 : decide (20 < J k 3) = false := decide_eq_false (by omega)
        clear ho
        go_wp2
        go_roundw
        case rel => exact ⟨k + 1, by omega, by go_num, HA.out.succ HOk.out, hD.alloc hD.size _⟩
        case measure => simp [intOf]; omega
      | false =>
        have HOk := Lib.hid (HF.out k hlt ho)
        have hbad : J k 0 < 1 ∨ 20 < J k 0 ∨ J k 1 < 0 ∨ 100 < J k 1 ∨ J k 2 < 0 ∨ 200 < J k 2 ∨ J k 3 < 0 ∨ 20 < J k 3 := by
          simp only [okOne, witB, Bool.and_eq_false_iff, decide_eq_false_iff_not] at ho
          omega
        clear ho
        go_wp2
        all_goals
          go_ret
          exact ⟨ret_bool HOk.out.symm, hD.alloc hD.size _⟩
    · obtain rfl : k = n := by omega
      have hT := HT.out hA
      by_cases h1 : 1 ≤ k
      · have HE := Lib.hid (show okJ k J = decide ((k : Int) ≤ 8) by rw [hT, decide_eq_true h1, Bool.true_and]; exact decide_eq_decide.2 (by omega))
        clear hT
        go_wp2
        go_ret
        exact ⟨ret_bool HE.out.symm, hD⟩
      · have HE := Lib.hid (show okJ k J = false by rw [hT, decide_eq_false h1]; rfl)
        clear hT
        go_wp2
        go_ret
        exact ⟨ret_bool HE.out.symm, hD⟩

end Go.Proofs.Ytbgekacfimgkeaa
