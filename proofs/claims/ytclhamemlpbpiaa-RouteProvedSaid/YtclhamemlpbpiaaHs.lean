/- What Distances and Potentials refuse. -/
import Derived.Test.YtclhamemlpbpiaaHm
namespace Go.Proofs.Ytclhamemlpbpiaa
open Go.RowKit

theorem okM_min {N : Int} {m : Nat} {F : Nat → Nat → Int} : okM N (min m 18) F = okM N m F := by
  by_cases h : m ≤ 18
  · rw [show min m 18 = m by omega]
  · unfold okM
    rw [decide_eq_false (show ¬ min m 18 ≤ 16 by omega), decide_eq_false (show ¬ m ≤ 16 by omega)]
    rfl

set_option maxHeartbeats 2000000 in
set_option maxRecDepth 1000000 in
theorem Distances_bad (A : Option Addr) (m c : Nat) (N : Int) (F : Nat → Nat → Int) (w : World) (h : Recs 3 w A m F) (hm : m ≤ 10000) (hok : okM N m F = false) :
    Calls Try.prog 9 #[.agg #[.int .i64 N, .slice A m c]] w fun e w' => e = .returned (.tuple #[.slice none 0 0, .int .i64 2]) ∧ Below w.heap.size w w' := by
  have Hb1 := (Below.refl w.heap.size w).alloc (Nat.le_refl _) (.cells #[.int .i64 N, .slice A m c] 31)
  obtain ⟨W1, hW1⟩ : ∃ W1, W1 = w.alloc (.cells #[.int .i64 N, .slice A m c] 31) := ⟨_, rfl⟩
  rw [← hW1] at Hb1
  have HV := Lib.hid (fun w' (hb : Below W1.heap.size W1 w') => validM_any A m c N F w' (h.keep (Hb1.trans (hb.mono Hb1.size))) (by unfold maxLen; omega))
  have HOk := Lib.hid hok
  have HWW : Hid (w.alloc (.cells #[.int .i64 N, .slice A m c] 31) = W1) := Lib.hid hW1.symm
  have HB := Lib.hid (fun w' (hb : Below W1.heap.size W1 w') => Hb1.trans (hb.mono Hb1.size))
  clear Hb1 hW1 h hok
  go_enter Try.func9, Try.ntmps9
  go_wp2_with fail
  rw [HWW.out]
  clear HWW
  refine (HV.out W1 (Below.refl _ _)).use fun w2 hb2 => ?_
  rw [HOk.out]
  have HB2 := Lib.hid (HB.out w2 hb2)
  clear hb2
  go_wp2
  go_returns
  exact ⟨rfl, HB2.out⟩

set_option maxHeartbeats 2000000 in
set_option maxRecDepth 1000000 in
theorem Potentials_bad (A : Option Addr) (m c : Nat) (N : Int) (a : Int) (F : Nat → Nat → Int) (w : World) (h : Recs 3 w A m F) (hm : m ≤ 10000) (hok : okM N m F = false) :
    Calls Try.prog 22 #[.agg #[.int .i64 N, .slice A m c], .int .i64 a] w fun e w' => e = .returned (.tuple #[.slice none 0 0, .int .i64 2]) ∧ Below w.heap.size w w' := by
  have Hb1 := (Below.refl w.heap.size w).alloc (Nat.le_refl _) (.cells #[.int .i64 N, .slice A m c] 31)
  obtain ⟨W1, hW1⟩ : ∃ W1, W1 = w.alloc (.cells #[.int .i64 N, .slice A m c] 31) := ⟨_, rfl⟩
  rw [← hW1] at Hb1
  have HV := Lib.hid (fun w' (hb : Below W1.heap.size W1 w') => validM_any A m c N F w' (h.keep (Hb1.trans (hb.mono Hb1.size))) (by unfold maxLen; omega))
  have HOk := Lib.hid hok
  have HWW : Hid (w.alloc (.cells #[.int .i64 N, .slice A m c] 31) = W1) := Lib.hid hW1.symm
  have HB := Lib.hid (fun w' (hb : Below W1.heap.size W1 w') => Hb1.trans (hb.mono Hb1.size))
  clear Hb1 hW1 h hok
  go_enter Try.func22, Try.ntmps22
  go_wp2_with fail
  rw [HWW.out]
  clear HWW
  refine (HV.out W1 (Below.refl _ _)).use fun w2 hb2 => ?_
  rw [HOk.out]
  have HB2 := Lib.hid (HB.out w2 hb2)
  clear hb2
  go_wp2
  go_returns
  exact ⟨rfl, HB2.out⟩

set_option maxHeartbeats 2000000 in
set_option maxRecDepth 1000000 in
theorem Potentials_out (A : Option Addr) (m c n : Nat) (a : Int) (F : Nat → Nat → Int) (w : World) (h : Recs 3 w A m F) (hm : m ≤ 10000) (hok : okM n m F = true) (ha : inB n a = false) :
    Calls Try.prog 22 #[.agg #[.int .i64 n, .slice A m c], .int .i64 a] w fun e w' => e = .returned (.tuple #[.slice none 0 0, .int .i64 2]) ∧ Below w.heap.size w w' := by
  have HB1 := MapB.new w n (.slice A m c)
  have Hb1 := (Below.refl w.heap.size w).alloc (Nat.le_refl _) (.cells #[.int .i64 n, .slice A m c] 31)
  obtain ⟨W1, hW1⟩ : ∃ W1, W1 = w.alloc (.cells #[.int .i64 n, .slice A m c] 31) := ⟨_, rfl⟩
  rw [← hW1] at HB1 Hb1
  have HV := Lib.hid (fun w' (hb : Below W1.heap.size W1 w') => validM_any A m c n F w' (h.keep (Hb1.trans (hb.mono Hb1.size))) (by unfold maxLen; omega))
  have HI := Lib.hid ha
  have HOk := Lib.hid hok
  have HMB : Hid (∀ w', Below W1.heap.size W1 w' → MapB w' w.heap.size n (.slice A m c) ∧ Below w.heap.size w w') := Lib.hid (fun w' hb => ⟨HB1.keep hb, Hb1.trans (hb.mono Hb1.size)⟩)
  have HWW : Hid (w.alloc (.cells #[.int .i64 n, .slice A m c] 31) = W1) := Lib.hid hW1.symm
  clear HB1 Hb1 hW1 h hok ha
  go_enter Try.func22, Try.ntmps22
  go_wp2_with fail
  rw [HWW.out]
  clear HWW
  refine (HV.out W1 (Below.refl _ _)).use fun w2 hb2 => ?_
  rw [HOk.out]
  have HB2 := Lib.hid hb2
  obtain ⟨q0, q1⟩ : w2.cell? ⟨w.heap.size, 0, none⟩ = some (.int .i64 n) ∧ w2.cell? ⟨w.heap.size, 1, none⟩ = some (.slice A m c) := ⟨(HMB.out w2 hb2).1.c0, (HMB.out w2 hb2).1.c1⟩
  clear hb2
  go_wp2_with fail
  refine (isStop_any A m c n a w2).use fun w3 hb3 => ?_
  rw [HI.out]
  have HB3 := Lib.hid (HMB.out w3 (HB2.out.trans (hb3.mono HB2.out.size))).2
  clear hb3 q0 q1
  go_wp2
  go_returns
  exact ⟨rfl, HB3.out⟩
end Go.Proofs.Ytclhamemlpbpiaa
