/- The reference's Valid of a map. -/
import Derived.Test.YtclhamemlpbpiaaHa
namespace Go.Proofs.Ytclhamemlpbpiaa
open Go.RowKit

set_option maxHeartbeats 2000000 in
set_option maxRecDepth 1000000 in
theorem refValidM_any (A : Option Addr) (m c : Nat) (N : Int) (F : Nat → Nat → Int) (w : World) (h : Recs 3 w A m F) (hm : m ≤ maxLen) :
    Lr 12 #[.agg #[.int .i64 N, .slice A m c]] w (.bool (okM N m F)) := by
  unfold Lr
  have hm2 : m ≤ 9223372036854775807 := by unfold maxLen at hm; omega
  have H := Lib.hid h
  clear h hm
  have HF : Hid (∀ k, k < m → rdP N F k = false → okM N m F = false) := Lib.hid (fun k hk h => by unfold okM; rw [allB_f hk h, Bool.and_false, Bool.and_false])
  have HT : Hid (AllLt (rdP N F) m → 1 ≤ N → N ≤ 8 → m ≤ 16 → okM N m F = true) := Lib.hid (fun h h1 h2 h3 => by unfold okM; rw [allB_t h]; simp [h1, h2, h3])
  obtain ⟨W1, hW1⟩ : ∃ W1, W1 = w.alloc (.cells #[.int .i64 N, .slice A m c] 24) := ⟨_, rfl⟩
  have hb0 : Below w.heap.size w W1 := by
    rw [hW1]
    exact (Below.refl _ _).alloc (Nat.le_refl _) _
  have hx0 : W1.cell? ⟨w.heap.size, 0, none⟩ = some (.int .i64 N) := by rw [hW1]; simp [World.cell?_alloc_at]
  have HX : Hid (∀ w', Below W1.heap.size W1 w' → w'.cell? ⟨w.heap.size, 0, none⟩ = some (.int .i64 N)) := Lib.hid (fun w' hb => (hb.cell (World.block_lt_of_cell? _ _ hx0)).trans hx0)
  have HBW : Hid (∀ w', Below W1.heap.size W1 w' → Below w.heap.size w w') := Lib.hid (fun w' hb => hb0.trans (hb.mono hb0.size))
  have HB1 := Lib.hid (show Below W1.heap.size W1 (w.alloc (.cells #[.int .i64 N, .slice A m c] 24)) by rw [hW1]; exact Below.refl _ _)
  clear hW1 hb0 hx0
  go_enter Try.func12, Try.ntmps12
  by_cases h1 : N < 1
  · have E := Lib.hid (show okM N m F = false by unfold okM; rw [decide_eq_false (show ¬ 1 ≤ N by omega), Bool.false_and, Bool.false_and])
    have d1 : decide (N < 1) = true := decide_eq_true h1
    go_wp2
    go_ret
    exact ⟨ret_bool E.out.symm, HBW.out _ HB1.out⟩
  have d1 : decide (N < 1) = false := decide_eq_false h1
  by_cases h8 : 8 < N
  · have E := Lib.hid (show okM N m F = false by unfold okM; rw [decide_eq_false (show ¬ N ≤ 8 by omega), Bool.and_false, Bool.false_and])
    have d2 : decide (8 < N) = true := decide_eq_true h8
    go_wp2
    go_ret
    exact ⟨ret_bool E.out.symm, HBW.out _ HB1.out⟩
  have d2 : decide (8 < N) = false := decide_eq_false h8
  by_cases h16 : 16 < m
  · have E := Lib.hid (show okM N m F = false by unfold okM; rw [decide_eq_false (show ¬ m ≤ 16 by omega), Bool.false_and, Bool.and_false])
    have d3 : decide (16 < (m : Int)) = true := decide_eq_true (by omega)
    go_wp2
    go_ret
    exact ⟨ret_bool E.out.symm, HBW.out _ HB1.out⟩
  have d3 : decide (16 < (m : Int)) = false := decide_eq_false (by omega)
  go_wp2
  go_loopw [22] (fun i wr => ∃ k : Nat, k ≤ m ∧ i = .int .i64 k ∧ AllLt (rdP N F) k ∧ Below W1.heap.size W1 wr) (fun i _ => m - (intOf i).toNat)
  case atStart => exact ⟨0, Nat.zero_le _, rfl, AllLt.zero, HB1.out⟩
  case round =>
    obtain ⟨k, hk, rfl, hA, hD⟩ := hrel
    by_cases hlt : k < m
    · obtain ⟨b, o, rfl, c0, c1, c2⟩ := (H.out.keep (HBW.out _ hD)).three hlt
      have HA := Lib.hid hA
      have hs : W1.heap.size ≤ wr.heap.size := hD.size
      have hD2 := hD.alloc hs (.cells #[.int .i64 (F k 0), .int .i64 (F k 1), .int .i64 (F k 2)] 65)
      have HD2 := Lib.hid hD2
      have hbx0 := HX.out _ hD
      have hby0 := HX.out _ hD2
      have HI := Lib.hid (@rdP_iff N F k)
      have HNo : Hid (∀ P : Prop, ¬ ((0 ≤ F k 0 ∧ F k 0 < N) ∧ (0 ≤ F k 1 ∧ F k 1 < N) ∧ F k 0 ≠ F k 1 ∧ 1 ≤ F k 2 ∧ F k 2 ≤ 50) → okM N m F = false) := Lib.hid (fun _ h => HF.out k hlt (by
        cases hr : rdP N F k with
        | false => rfl
        | true => exact absurd (rdP_iff.1 hr) h))
      clear hA hD hD2 hs
      by_cases e0 : F k 0 < 0
      · have d : decide (F k 0 < 0) = true := decide_eq_true e0
        have E := Lib.hid (HNo.out True (by omega))
        go_wp2
        go_ret
        exact ⟨ret_bool E.out.symm, HBW.out _ HD2.out⟩
      have d4 : decide (F k 0 < 0) = false := decide_eq_false e0
      by_cases e1 : N ≤ F k 0
      · have d : decide (N ≤ F k 0) = true := decide_eq_true e1
        have E := Lib.hid (HNo.out True (by omega))
        go_wp2
        go_ret
        exact ⟨ret_bool E.out.symm, HBW.out _ HD2.out⟩
      have d5 : decide (N ≤ F k 0) = false := decide_eq_false e1
      by_cases e2 : F k 1 < 0
      · have d : decide (F k 1 < 0) = true := decide_eq_true e2
        have E := Lib.hid (HNo.out True (by omega))
        go_wp2
        go_ret
        exact ⟨ret_bool E.out.symm, HBW.out _ HD2.out⟩
      have d6 : decide (F k 1 < 0) = false := decide_eq_false e2
      by_cases e3 : N ≤ F k 1
      · have d : decide (N ≤ F k 1) = true := decide_eq_true e3
        have E := Lib.hid (HNo.out True (by omega))
        go_wp2
        go_ret
        exact ⟨ret_bool E.out.symm, HBW.out _ HD2.out⟩
      have d7 : decide (N ≤ F k 1) = false := decide_eq_false e3
      by_cases e4 : F k 0 = F k 1
      · have d := beq_t e4
        have E := Lib.hid (HNo.out True (by omega))
        clear e4
        go_wp2
        go_ret
        exact ⟨ret_bool E.out.symm, HBW.out _ HD2.out⟩
      have d8 := beq_f e4
      by_cases e5 : F k 2 < 1
      · have d : decide (F k 2 < 1) = true := decide_eq_true e5
        have E := Lib.hid (HNo.out True (by omega))
        clear e4
        go_wp2
        go_ret
        exact ⟨ret_bool E.out.symm, HBW.out _ HD2.out⟩
      have d9 : decide (F k 2 < 1) = false := decide_eq_false e5
      by_cases e6 : 50 < F k 2
      · have d : decide (50 < F k 2) = true := decide_eq_true e6
        have E := Lib.hid (HNo.out True (by omega))
        clear e4
        go_wp2
        go_ret
        exact ⟨ret_bool E.out.symm, HBW.out _ HD2.out⟩
      have d10 : decide (50 < F k 2) = false := decide_eq_false e6
      have HN := Lib.hid (HI.out.2 (by omega))
      clear e4
      go_wp2
      go_roundw
      case rel => exact ⟨k + 1, by omega, by go_num, HA.out.succ HN.out, HD2.out⟩
      case measure => simp [intOf]; omega
    · obtain rfl : k = m := by omega
      have E := Lib.hid (HT.out hA (by omega) (by omega) (by omega))
      clear hA
      go_wp2
      go_ret
      exact ⟨ret_bool E.out.symm, HBW.out _ hD⟩
end Go.Proofs.Ytclhamemlpbpiaa
