/- within, valid, timesOf, endsOf, the ranks. -/
import Derived.Test.YtbgekacfimgkeaaQa
import Derived.Test.YtbgekacfimgkeaaBool
import Derived.BigRegion
namespace Go.Proofs.Ytbgekacfimgkeaa
open Go.RowKit

def witB (x a b : Int) : Bool := decide (a ≤ x) && decide (x ≤ b)
theorem within_any (x a b : Int) (w : World) : Ro 76 #[.int .i64 x, .int .i64 a, .int .i64 b] w (.bool (witB x a b)) := by
  refine Ro.of ?_
  have e : witB x a b = (decide (a ≤ x) && decide (x ≤ b)) := rfl
  by_cases h1 : a ≤ x
  · by_cases h2 : x ≤ b
    · have E := Lib.hid (show witB x a b = true by rw [e, decide_eq_true h1, decide_eq_true h2]; rfl)
      clear e
      go_enter Try.func76, Try.ntmps76
      go_wp2
      go_ret
      exact ⟨ret_bool E.out.symm, Dn.refl _⟩
    · have E := Lib.hid (show witB x a b = false by rw [e, decide_eq_true h1, decide_eq_false h2]; rfl)
      clear e
      go_enter Try.func76, Try.ntmps76
      go_wp2
      go_ret
      exact ⟨ret_bool E.out.symm, Dn.refl _⟩
  · have E := Lib.hid (show witB x a b = false by rw [e, decide_eq_false h1]; rfl)
    clear e
    go_enter Try.func76, Try.ntmps76
    go_wp2
    go_ret
    exact ⟨ret_bool E.out.symm, Dn.refl _⟩

/-- A job's numbers are in bounds. -/
def okOne (J : Nat → Nat → Int) (k : Nat) : Bool := witB (J k 0) 1 20 && (witB (J k 1) 0 100 && (witB (J k 2) 0 200 && witB (J k 3) 0 20))
def okJ (n : Nat) (J : Nat → Nat → Int) : Bool := decide (1 ≤ n ∧ n ≤ 8) && allB (okOne J) n

set_option maxHeartbeats 1000000 in
set_option maxRecDepth 1000000 in
theorem valid_any (A : Option Addr) (n c : Nat) (J : Nat → Nat → Int) (w : World) (h : Recs 4 w A n J) (hn : n ≤ maxLen) :
    Lr 54 #[.slice A n c] w (.bool (okJ n J)) := by
  unfold Lr
  have hm : n ≤ 9223372036854775807 := by unfold maxLen at hn; omega
  have H := Lib.hid h
  clear h hn
  have HF : Hid (∀ k, k < n → okOne J k = false → okJ n J = false) := Lib.hid (fun k hk h => by unfold okJ; rw [allB_f hk h, Bool.and_false])
  have HT : Hid (AllLt (okOne J) n → 1 ≤ n → n ≤ 8 → okJ n J = true) := Lib.hid (fun h h1 h2 => by unfold okJ; rw [allB_t h]; simp [h1, h2])
  go_enter Try.func54, Try.ntmps54
  by_cases h1 : n < 1
  · have E := Lib.hid (show okJ n J = false by unfold okJ; rw [decide_eq_false (by omega), Bool.false_and])
    go_wp2
    go_ret
    exact ⟨ret_bool E.out.symm, Below.refl _ _⟩
  · by_cases h8 : 8 < n
    · have E := Lib.hid (show okJ n J = false by unfold okJ; rw [decide_eq_false (by omega), Bool.false_and])
      go_wp2
      go_ret
      exact ⟨ret_bool E.out.symm, Below.refl _ _⟩
    · go_wp2
      go_loopw [15] (fun i wr => ∃ k : Nat, k ≤ n ∧ i = .int .i64 k ∧ AllLt (okOne J) k ∧ Below w.heap.size w wr) (fun i _ => n - (intOf i).toNat)
      case atStart => exact ⟨0, Nat.zero_le _, rfl, AllLt.zero, Below.refl _ _⟩
      case round =>
        obtain ⟨k, hk, rfl, hA, hD⟩ := hrel
        by_cases hlt : k < n
        · obtain ⟨b, o, rfl, c0, c1, c2, c3⟩ := (H.out.keep hD).four hlt
          have HA := Lib.hid hA
          clear hA
          go_wp2
          all_goals first
            | (go_ret
               exact ⟨ret_bool (HF.out k hlt (by simp only [okOne, witB, Bool.and_eq_false_iff, decide_eq_false_iff_not]; omega)).symm, hD.alloc hD.size _⟩)
            | exact ⟨⟨k + 1, by omega, by go_num, HA.out.succ (by simp only [okOne, witB, Bool.and_eq_true, decide_eq_true_iff]; omega), hD.alloc hD.size _⟩, by simp [intOf]; omega⟩
            | (have hq : 20 < J k 3 := by
                 have hq : (!decide (J k 3 ≤ 20)) = true := by assumption
                 simpa using hq
               go_ret
               exact ⟨ret_bool (HF.out k hlt (by simp only [okOne, witB, Bool.and_eq_false_iff, decide_eq_false_iff_not]; omega)).symm, hD.alloc hD.size _⟩)
            | (have hq : J k 3 ≤ 20 := by
                 have hq : (!decide (J k 3 ≤ 20)) = false := by assumption
                 simpa using hq
               exact ⟨⟨k + 1, by omega, by go_num, HA.out.succ (by simp only [okOne, witB, Bool.and_eq_true, decide_eq_true_iff]; omega), hD.alloc hD.size _⟩, by simp [intOf]; omega⟩)
        · obtain rfl : k = n := by omega
          go_wp2
          go_ret
          exact ⟨ret_bool (HT.out hA (by omega) (by omega)).symm, hD⟩

set_option maxHeartbeats 1000000 in
set_option maxRecDepth 1000000 in
/-- The Times. -/
theorem timesOf_any (A : Option Addr) (n c : Nat) (J : Nat → Nat → Int) (w : World) (h : Recs 4 w A n J) (hn : n ≤ 10000) :
    Calls Try.prog 85 #[.slice A n c] w fun e w' => ∃ c', e = .returned (.slice (some ⟨w.heap.size, 0, none⟩) n c') ∧ n ≤ c' ∧ RowI w' w.heap.size n (fun k => J k 0) ∧ Below w.heap.size w w' := by
  have H := Lib.hid h
  clear h
  have hmk := mk_ints n hn w
  go_enter Try.func85, Try.ntmps85
  go_wp2
  have hM := RowI.made w n
  have hB0 := (Below.refl w.heap.size w).alloc (Nat.le_refl _) (.cells (madeCells #[.int .i64 0] n) 3)
  clear hmk
  generalize w.alloc (.cells (madeCells #[.int .i64 0] n) 3) = W0 at *
  go_loopw [11] (fun i wr => ∃ (k : Nat) (f : Nat → Int), k ≤ n ∧ i = .int .i64 k ∧ RowI wr w.heap.size n f ∧ (∀ a, a < k → f a = J a 0) ∧ Below w.heap.size w wr) (fun i _ => n - (intOf i).toNat)
  case atStart => exact ⟨0, _, Nat.zero_le _, rfl, hM, fun a h => absurd h (by omega), hB0⟩
  case round =>
    obtain ⟨k, f, hk, rfl, hR, hf, hD⟩ := hrel
    have HF := Lib.hid hf
    have HR := Lib.hid hR
    clear hf hR hM hB0
    by_cases hlt : k < n
    · obtain ⟨b, o, rfl, c0, c1, c2, c3⟩ := (H.out.keep hD).four hlt
      have hA1 := HR.out.alloc (.cells #[.int .i64 (J k 0), .int .i64 (J k 1), .int .i64 (J k 2), .int .i64 (J k 3)] 83)
      have hcell := hA1.cell hlt
      have hfr := hA1.frozen k
      have HS := Lib.hid (hA1.set k (J k 0))
      have hB1 : Below w.heap.size w (wr.alloc (.cells #[.int .i64 (J k 0), .int .i64 (J k 1), .int .i64 (J k 2), .int .i64 (J k 3)] 83)) := hD.alloc hD.size _
      have HB := Lib.hid (hB1.setCell (p := ⟨w.heap.size, k, none⟩) (Nat.le_refl _) (.int .i64 (J k 0)))
      clear hA1 hB1
      go_wp2
      go_roundw
      case rel => exact ⟨k + 1, _, by omega, by go_num, HS.out, fun a ha => by
          unfold upd
          by_cases e : a = k
          · rw [if_pos e, e]
          · rw [if_neg e]
            exact HF.out a (by omega), HB.out⟩
      case measure => simp [intOf]; omega
    · obtain rfl : k = n := by omega
      go_wp2
      go_ret
      exact ⟨_, rfl, Nat.le_refl _, HR.out.congr (fun a ha => HF.out a ha), hD⟩
end Go.Proofs.Ytbgekacfimgkeaa
