/- isPlan. -/
import Derived.Test.YthbahfmcmbjglaaQl
import Derived.Test.YthbahfmcmbjglaaQo
namespace Go.Proofs.Ythbahfmcmbjglaa
open Go.RowKit

/-- The piece before; ahead of the first: none, ended at 0. -/
def pvF (p : Nat → Nat → Int) : Nat → Nat → Int
  | 0 => fun i => if i = 0 then -1 else 0
  | k + 1 => p k
def plP (n : Nat) (p : Nat → Nat → Int) (k : Nat) : Bool := decide (0 ≤ p k 0 ∧ p k 0 < n ∧ pvF p k 2 ≤ p k 1 ∧ p k 1 < p k 2 ∧ p k 2 ≤ 1000 ∧ ¬ (p k 0 = pvF p k 0 ∧ p k 1 = pvF p k 2))

set_option maxHeartbeats 2000000 in
set_option maxRecDepth 1000000 in
theorem isPlan_any (A : Option Addr) (m c n : Nat) (p : Nat → Nat → Int) (w : World) (h : Recs 3 w A m p) (hn : 1 ≤ n ∧ n ≤ 8) (hm : m ≤ maxLen) :
    Lr 50 #[.slice A m c, .int .i64 n] w (.bool (allB (plP n p) m)) := by
  unfold Lr
  have H := Lib.hid h
  have hm2 : m ≤ 9223372036854775807 := by unfold maxLen at hm; omega
  obtain ⟨hn1, hn8⟩ := hn
  have hM : (w.alloc (.cells #[.int .i64 (-1), .int .i64 0, .int .i64 0] 65)).rowIs w.heap.size 65 3 (fun i => .int .i64 (pvF p 0 i)) := ⟨_, heap_alloc_new w _, rfl, fun i hi => by
    have : i = 0 ∨ i = 1 ∨ i = 2 := by omega
    rcases this with rfl | rfl | rfl <;> rfl⟩
  have hB0 := (Below.refl w.heap.size w).alloc (Nat.le_refl _) (.cells #[.int .i64 (-1), .int .i64 0, .int .i64 0] 65)
  clear h hm
  go_enter Try.func50, Try.ntmps50
  go_wp2
  generalize w.alloc (.cells #[.int .i64 (-1), .int .i64 0, .int .i64 0] 65) = W0 at *
  go_loopw [11] (fun i wr => ∃ k : Nat, k ≤ m ∧ i = .int .i64 k ∧ AllLt (plP n p) k ∧ wr.rowIs w.heap.size 65 3 (fun i => .int .i64 (pvF p k i)) ∧ Below w.heap.size w wr) (fun i _ => m - (intOf i).toNat)
  case atStart => exact ⟨0, Nat.zero_le _, rfl, AllLt.zero, hM, hB0⟩
  case round =>
    obtain ⟨k, hk, rfl, hA, hR, hD⟩ := hrel
    have HA := Lib.hid hA
    have HR := Lib.hid hR
    have HD := Lib.hid hD
    clear hA hR hM hB0
    by_cases hlt : k < m
    · obtain ⟨b, o, rfl, c0, c1, c2⟩ := (H.out.keep hD).three hlt
      have hR1 := World.rowIs.alloc HR.out (.cells #[.int .i64 (p k 0), .int .i64 (p k 1), .int .i64 (p k 2)] 65)
      have b0 := World.rowIs.cell hR1 (show 0 < 3 by omega)
      have b1 := World.rowIs.cell hR1 (show 1 < 3 by omega)
      have b2 := World.rowIs.cell hR1 (show 2 < 3 by omega)
      have f0 := World.rowIs.frozen hR1 0
      have f1 := World.rowIs.frozen hR1 1
      have f2 := World.rowIs.frozen hR1 2
      have HD1 := Lib.hid (hD.alloc hD.size (.cells #[.int .i64 (p k 0), .int .i64 (p k 1), .int .i64 (p k 2)] 65))
      have HR1 := Lib.hid hR1
      have hmi : IntKind.i64.wrap ((n : Int) - 1) = (n : Int) - 1 := IntWalk.i64_in _ ⟨by omega, by omega⟩
      clear hR1 hD
      cases hq : plP n p k with
      | true =>
        have HQ := Lib.hid hq
        have h6 := of_decide_eq_true hq
        obtain ⟨h1, h2, h3, h4, h5, h6⟩ := h6
        have d1 : decide (p k 1 < pvF p k 2) = false := decide_eq_false (by omega)
        have d2 : decide (p k 2 ≤ p k 1) = false := decide_eq_false (by omega)
        have d3 : decide (1000 < p k 2) = false := decide_eq_false (by omega)
        have d4 : (0 : Int) ≤ p k 0 := h1
        have d5 : p k 0 ≤ (n : Int) - 1 := by omega
        have hp1 : pvF p (k + 1) = p k := rfl
        have HP1 := Lib.hid hp1
        have HRs := Lib.hid (((World.rowIs.set (World.rowIs.set (World.rowIs.set HR1.out 0 (.int .i64 (p k 0))) 1 (.int .i64 (p k 1))) 2 (.int .i64 (p k 2)))).congr (g := fun i => .int .i64 (pvF p (k + 1) i)) (fun i hi => by
          have : i = 0 ∨ i = 1 ∨ i = 2 := by omega
          rcases this with rfl | rfl | rfl <;> rfl))
        have HDs := Lib.hid (((HD1.out.setCell (p := ⟨w.heap.size, 0, none⟩) (Nat.le_refl _) (.int .i64 (p k 0))).setCell (p := ⟨w.heap.size, 1, none⟩) (Nat.le_refl _) (.int .i64 (p k 1))).setCell (p := ⟨w.heap.size, 2, none⟩) (Nat.le_refl _) (.int .i64 (p k 2)))
        clear hq hp1 h1 h2
        by_cases e1 : p k 0 = pvF p k 0
        · have e2 : ¬ p k 1 = pvF p k 2 := fun e => h6 ⟨e1, e⟩
          have q1 := beq_t e1
          have q2 := beq_f e2
          clear h6 e1
          generalize pvF p k 0 = x0 at *
          generalize pvF p k 1 = x1 at *
          generalize pvF p k 2 = x2 at *
          go_wp2
          go_roundw
          case rel => exact ⟨k + 1, by omega, by go_num, HA.out.succ HQ.out, HRs.out, HDs.out⟩
          case measure => simp [intOf]; omega
        · have q1 := beq_f e1
          clear h6
          generalize pvF p k 0 = x0 at *
          generalize pvF p k 1 = x1 at *
          generalize pvF p k 2 = x2 at *
          go_wp2
          go_roundw
          case rel => exact ⟨k + 1, by omega, by go_num, HA.out.succ HQ.out, HRs.out, HDs.out⟩
          case measure => simp [intOf]; omega
      | false =>
        have HE := Lib.hid (allB_f hlt hq)
        have hbad := of_decide_eq_false hq
        clear hq
        generalize pvF p k 0 = x0 at *
        generalize pvF p k 1 = x1 at *
        generalize pvF p k 2 = x2 at *
        have h6 : p k 0 < 0 ∨ (0 ≤ p k 0 ∧ (n : Int) - 1 < p k 0) ∨ ((0 ≤ p k 0 ∧ p k 0 ≤ (n : Int) - 1) ∧ p k 1 < x2) ∨ ((0 ≤ p k 0 ∧ p k 0 ≤ (n : Int) - 1) ∧ x2 ≤ p k 1 ∧ p k 2 ≤ p k 1) ∨ ((0 ≤ p k 0 ∧ p k 0 ≤ (n : Int) - 1) ∧ (x2 ≤ p k 1 ∧ p k 1 < p k 2) ∧ 1000 < p k 2) ∨ ((0 ≤ p k 0 ∧ p k 0 ≤ (n : Int) - 1) ∧ (x2 ≤ p k 1 ∧ p k 1 < p k 2) ∧ p k 2 ≤ 1000 ∧ p k 0 = x0 ∧ p k 1 = x2) := by omega
        clear hbad
        rcases h6 with h | ⟨h1, h⟩ | ⟨⟨h1, h2⟩, h⟩ | ⟨⟨h1, h2⟩, h3, h⟩ | ⟨⟨h1, h2⟩, ⟨h3, h4⟩, h⟩ | ⟨⟨h1, h2⟩, ⟨h3, h4⟩, h5, rfl, rfl⟩
        · go_wp2
          go_ret
          exact ⟨ret_bool HE.out.symm, HD1.out⟩
        · go_wp2
          go_ret
          exact ⟨ret_bool HE.out.symm, HD1.out⟩
        · have d1 : decide (p k 1 < x2) = true := decide_eq_true h
          go_wp2
          go_ret
          exact ⟨ret_bool HE.out.symm, HD1.out⟩
        · have d1 : decide (p k 1 < x2) = false := decide_eq_false (by omega)
          have d2 : decide (p k 2 ≤ p k 1) = true := decide_eq_true h
          go_wp2
          go_ret
          exact ⟨ret_bool HE.out.symm, HD1.out⟩
        · have d1 : decide (p k 1 < x2) = false := decide_eq_false (by omega)
          have d2 : decide (p k 2 ≤ p k 1) = false := decide_eq_false (by omega)
          have d3 : decide (1000 < p k 2) = true := decide_eq_true h
          go_wp2
          go_ret
          exact ⟨ret_bool HE.out.symm, HD1.out⟩
        · have d2 : decide (p k 2 ≤ p k 1) = false := decide_eq_false (by omega)
          have d3 : decide (1000 < p k 2) = false := decide_eq_false (by omega)
          go_wp2
          go_ret
          exact ⟨ret_bool HE.out.symm, HD1.out⟩
    · obtain rfl : k = m := by omega
      go_wp2
      go_ret
      exact ⟨ret_bool (allB_t HA.out).symm, HD.out⟩
end Go.Proofs.Ythbahfmcmbjglaa
