/- A part of the proof: Awz. -/
import Derived.Test.YtiigcjcolpmafaaLW
import Derived.Test.YtiigcjcolpmafaaEq
namespace Go.Proofs.Ytiigcjcolpmafaa
open Go.RowKit

theorem eqB_id (n : Nat) (f : Nat → Int) : eqB n n f f = true := by
  simp only [eqB, decide_true, Bool.true_and]
  exact allB_t (fun g _ => by simp [eqP])

set_option maxHeartbeats 2000000 in
set_option maxRecDepth 1000000 in
theorem awake_any (w : World) : Calls Try.prog 20 #[] w fun e w' => e = .returned (.bool true) ∧ Below w.heap.size w w' := by
  obtain ⟨W1, hW1⟩ : ∃ W1, W1 = w.alloc (.cells #[.int .i64 0] 3) := ⟨_, rfl⟩
  obtain ⟨W2, hW2⟩ : ∃ W2, W2 = W1.alloc (.cells #[.slice (some ⟨w.heap.size, 0, none⟩) 1 1] 23) := ⟨_, rfl⟩
  obtain ⟨W3, hW3⟩ : ∃ W3, W3 = W2.alloc (.cells #[.int .i64 0] 3) := ⟨_, rfl⟩
  obtain ⟨W4, hW4⟩ : ∃ W4, W4 = W3.alloc (.cells #[.slice (some ⟨w.heap.size + 2, 0, none⟩) 1 1] 23) := ⟨_, rfl⟩
  obtain ⟨W5, hW5⟩ : ∃ W5, W5 = W4.alloc (.cells #[.int .i64 1] 3) := ⟨_, rfl⟩
  have s1 : W1.heap.size = w.heap.size + 1 := by rw [hW1]; simp
  have s2 : W2.heap.size = w.heap.size + 2 := by rw [hW2]; simp [s1]
  have s3 : W3.heap.size = w.heap.size + 3 := by rw [hW3]; simp [s2]
  have s4 : W4.heap.size = w.heap.size + 4 := by rw [hW4]; simp [s3]
  have b1 : Below w.heap.size w W1 := by rw [hW1]; exact below_box _ _
  have b2 : Below W1.heap.size W1 W2 := by rw [hW2]; exact below_box _ _
  have b3 : Below W2.heap.size W2 W3 := by rw [hW3]; exact below_box _ _
  have b4 : Below W3.heap.size W3 W4 := by rw [hW4]; exact below_box _ _
  have b5 : Below W4.heap.size W4 W5 := by rw [hW5]; exact below_box _ _
  have c1 : W1.cell? ⟨w.heap.size, 0, none⟩ = some (.int .i64 0) := by rw [hW1]; simp [World.cell?_alloc_at]
  have c2 : W2.cell? ⟨w.heap.size + 1, 0, none⟩ = some (.slice (some ⟨w.heap.size, 0, none⟩) 1 1) := by rw [hW2, ← s1]; simp [World.cell?_alloc_at]
  have c3 : W3.cell? ⟨w.heap.size + 2, 0, none⟩ = some (.int .i64 0) := by rw [hW3, ← s2]; simp [World.cell?_alloc_at]
  have c4 : W4.cell? ⟨w.heap.size + 3, 0, none⟩ = some (.slice (some ⟨w.heap.size + 2, 0, none⟩) 1 1) := by rw [hW4, ← s3]; simp [World.cell?_alloc_at]
  have c5 : W5.cell? ⟨w.heap.size + 4, 0, none⟩ = some (.int .i64 1) := by rw [hW5, ← s4]; simp [World.cell?_alloc_at]
  have d1 := old_cell (old_cell (old_cell (old_cell c1 b2) b3) b4) b5
  have d2 := old_cell (old_cell (old_cell c2 b3) b4) b5
  have d3 := old_cell (old_cell c3 b4) b5
  have d4 := old_cell c4 b5
  have hpl : PlanIn W5 (some ⟨w.heap.size + 1, 0, none⟩) (some ⟨w.heap.size + 3, 0, none⟩) (some ⟨w.heap.size + 4, 0, none⟩) p1 := by
    refine ⟨fun _ => ⟨_, _, rfl, fun i hi => ?_⟩, fun _ => ⟨_, _, rfl, fun i hi => ?_⟩, fun _ => ⟨_, _, rfl, fun i hi => ?_⟩, by decide, by decide, by decide, fun i hi => by show 1 ≤ 9; omega, fun i hi => by show 1 ≤ 9; omega⟩
    · obtain rfl : i = 0 := by
        have : i < 1 := hi
        omega
      refine ⟨_, 1, d2, Nat.le_refl 1, fun _ => ⟨_, _, rfl, fun k hk => ?_⟩⟩
      obtain rfl : k = 0 := by
        have : k < 1 := hk
        omega
      exact d1
    · obtain rfl : i = 0 := by
        have : i < 1 := hi
        omega
      refine ⟨_, 1, d4, Nat.le_refl 1, fun _ => ⟨_, _, rfl, fun k hk => ?_⟩⟩
      obtain rfl : k = 0 := by
        have : k < 1 := hk
        omega
      exact d3
    · obtain rfl : i = 0 := by
        have : i < 1 := hi
        omega
      exact c5
  have hb : Below w.heap.size w W5 := (((b1.trans (b2.mono b1.size)).trans (b3.mono (by omega))).trans (b4.mono (by omega))).trans (b5.mono (by omega))
  have HF := Lib.hid (First_one (some ⟨w.heap.size + 1, 0, none⟩) (some ⟨w.heap.size + 3, 0, none⟩) (some ⟨w.heap.size + 4, 0, none⟩) 1 1 1 W5 hpl)
  have Hb := Lib.hid hb
  have HW : Hid (W5 = ((((w.alloc (.cells #[.int .i64 0] 3)).alloc (.cells #[.slice (some ⟨w.heap.size, 0, none⟩) 1 1] 23)).alloc (.cells #[.int .i64 0] 3)).alloc (.cells #[.slice (some ⟨w.heap.size + 2, 0, none⟩) 1 1] 23)).alloc (.cells #[.int .i64 1] 3)) := Lib.hid (by rw [hW5, hW4, hW3, hW2, hW1])
  clear hpl hb hW1 hW2 hW3 hW4 hW5 s1 s2 s3 s4 b1 b2 b3 b4 b5 c1 c2 c3 c4 c5 d1 d2 d3 d4
  go_enter Try.func20, Try.ntmps20
  go_wp2_with fail
  rw [← HW.out]
  refine HF.out.mono ?_
  rintro e w1 ⟨g, rfl, hR, hb1⟩
  have hb2 := below_box w1 (.cells #[.int .i64 0] 3)
  have HE := Lib.hid (equal_any (some ⟨g, 0, none⟩) (some ⟨w1.heap.size, 0, none⟩) 1 1 1 1 (fun _ => 0) (fun _ => 0) (w1.alloc (.cells #[.int .i64 0] 3)) (hR.ints.keep hb2) (fun _ => ⟨_, _, rfl, fun k hk => by
    obtain rfl : k = 0 := by omega
    simp [World.cell?_alloc_at]⟩) (by omega) (by omega))
  have Hb1 := Lib.hid (Hb.out.trans (hb1.mono Hb.out.size))
  have Hb2 := Lib.hid (Hb1.out.trans (hb2.mono Hb1.out.size))
  clear hR hb1 hb2 HF
  go_wp2_with fail
  refine Ro.use HE.out ?_
  intro w3 hd3
  rw [eqB_id]
  have Hb3 := Lib.hid (Hb2.out.trans (hd3.below _))
  clear hd3
  go_wp2
  go_ret
  exact ⟨rfl, Hb3.out⟩
end Go.Proofs.Ytiigcjcolpmafaa

