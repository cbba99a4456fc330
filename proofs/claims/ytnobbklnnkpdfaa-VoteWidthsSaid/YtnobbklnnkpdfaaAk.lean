/- awake: of two candidates the one with the majority wins. -/
import Derived.Test.YtnobbklnnkpdfaaWv
namespace Go.Proofs.Ytnobbklnnkpdfaa
open Go.RowKit

def awV : Nat → Nat → Int := fun i k => if i = 1 then (k : Int) else 1 - (k : Int)
theorem old_cellV {w w' : World} {a : Addr} {v : Value} (h : w.cell? a = some v) (hb : Below w.heap.size w w') : w'.cell? a = some v := (hb.cell (World.block_lt_of_cell? _ _ h)).trans h
theorem box_belowV (w : World) (o : Obj) : Below w.heap.size w (w.alloc o) := (Below.refl _ _).alloc (Nat.le_refl _) _
theorem cell_two (w : World) (x y : Value) (t : TypeId) : (w.alloc (.cells #[x, y] t)).cell? ⟨w.heap.size, 0, none⟩ = some x ∧ (w.alloc (.cells #[x, y] t)).cell? ⟨w.heap.size, 1, none⟩ = some y := by
  constructor <;> simp [World.cell?_alloc_at]
theorem cell_three (w : World) (x y z : Value) (t : TypeId) : (w.alloc (.cells #[x, y, z] t)).cell? ⟨w.heap.size, 0, none⟩ = some x ∧ (w.alloc (.cells #[x, y, z] t)).cell? ⟨w.heap.size, 1, none⟩ = some y ∧ (w.alloc (.cells #[x, y, z] t)).cell? ⟨w.heap.size, 2, none⟩ = some z := by
  refine ⟨?_, ?_, ?_⟩ <;> simp [World.cell?_alloc_at]
theorem aw_ok : okBal 3 (fun _ => 2) awV = true := by decide
theorem aw_one : strB (wT 2 (mAll awV 2 3) 2) 2 1 = true := by decide +kernel
theorem aw_zero : strB (wT 2 (mAll awV 2 3) 2) 2 0 = false := by decide +kernel

set_option maxHeartbeats 1000000 in
set_option maxRecDepth 1000000 in
theorem awake_any (w : World) : Lr 13 #[] w (.bool true) := by
  obtain ⟨W1, hW1⟩ : ∃ W1, W1 = w.alloc (.cells #[.int .i64 1, .int .i64 0] 3) := ⟨_, rfl⟩
  obtain ⟨W2, hW2⟩ : ∃ W2, W2 = W1.alloc (.cells #[.int .i64 0, .int .i64 1] 3) := ⟨_, rfl⟩
  obtain ⟨W3, hW3⟩ : ∃ W3, W3 = W2.alloc (.cells #[.int .i64 1, .int .i64 0] 3) := ⟨_, rfl⟩
  obtain ⟨W4, hW4⟩ : ∃ W4, W4 = W3.alloc (.cells #[.slice (some ⟨w.heap.size, 0, none⟩) 2 2, .slice (some ⟨w.heap.size + 1, 0, none⟩) 2 2, .slice (some ⟨w.heap.size + 1 + 1, 0, none⟩) 2 2] 23) := ⟨_, rfl⟩
  have s1 : W1.heap.size = w.heap.size + 1 := by rw [hW1]; simp
  have s2 : W2.heap.size = w.heap.size + 1 + 1 := by rw [hW2]; simp [s1]
  have s3 : W3.heap.size = w.heap.size + 1 + 1 + 1 := by rw [hW3]; simp [s2]
  have b1 : Below w.heap.size w W1 := by rw [hW1]; exact box_belowV _ _
  have b2 : Below W1.heap.size W1 W2 := by rw [hW2]; exact box_belowV _ _
  have b3 : Below W2.heap.size W2 W3 := by rw [hW3]; exact box_belowV _ _
  have b4 : Below W3.heap.size W3 W4 := by rw [hW4]; exact box_belowV _ _
  have c1 := cell_two w (.int .i64 1) (.int .i64 0) 3
  rw [← hW1] at c1
  have c2 := cell_two W1 (.int .i64 0) (.int .i64 1) 3
  rw [← hW2, s1] at c2
  have c3 := cell_two W2 (.int .i64 1) (.int .i64 0) 3
  rw [← hW3, s2] at c3
  have c4 := cell_three W3 (.slice (some ⟨w.heap.size, 0, none⟩) 2 2) (.slice (some ⟨w.heap.size + 1, 0, none⟩) 2 2) (.slice (some ⟨w.heap.size + 1 + 1, 0, none⟩) 2 2) 23
  rw [← hW4, s3] at c4
  have hr : RowsK W4 (some ⟨w.heap.size + 1 + 1 + 1, 0, none⟩) 3 (fun _ => 2) awV := fun _ => ⟨_, 0, rfl, fun i hi => by
    have : i = 0 ∨ i = 1 ∨ i = 2 := by omega
    rcases this with rfl | rfl | rfl
    · refine ⟨_, 2, c4.1, Nat.le_refl _, fun _ => ⟨_, 0, rfl, fun k hk => ?_⟩⟩
      have : k = 0 ∨ k = 1 := by
        have : k < 2 := hk
        omega
      rcases this with rfl | rfl
      · exact old_cellV (old_cellV (old_cellV c1.1 b2) b3) b4
      · exact old_cellV (old_cellV (old_cellV c1.2 b2) b3) b4
    · refine ⟨_, 2, c4.2.1, Nat.le_refl _, fun _ => ⟨_, 0, rfl, fun k hk => ?_⟩⟩
      have : k = 0 ∨ k = 1 := by
        have : k < 2 := hk
        omega
      rcases this with rfl | rfl
      · exact old_cellV (old_cellV c2.1 b3) b4
      · exact old_cellV (old_cellV c2.2 b3) b4
    · refine ⟨_, 2, c4.2.2, Nat.le_refl _, fun _ => ⟨_, 0, rfl, fun k hk => ?_⟩⟩
      have : k = 0 ∨ k = 1 := by
        have : k < 2 := hk
        omega
      rcases this with rfl | rfl
      · exact old_cellV c3.1 b4
      · exact old_cellV c3.2 b4⟩
  have Hb : Hid (Below w.heap.size w W4) := Lib.hid (((b1.trans (b2.mono (by omega))).trans (b3.mono (by omega))).trans (b4.mono (by omega)))
  have HW := Lib.hid (Win_paths (some ⟨w.heap.size + 1 + 1 + 1, 0, none⟩) 3 3 1 (fun _ => 2) awV W4 hr aw_ok (Nat.le_refl _) (by decide) aw_one (fun a ha => by
    obtain rfl : a = 0 := by omega
    exact aw_zero))
  rw [hW4, hW3, hW2, hW1] at HW Hb
  clear hr c1 c2 c3 c4 b1 b2 b3 b4 s1 s2 s3 hW1 hW2 hW3 hW4
  show Calls _ _ _ _ _
  go_enter Try.func13, Try.ntmps13
  go_wp2_with fail
  refine Lr.use HW.out ?_
  intro w5 hb5
  have HB5 := Lib.hid (Hb.out.trans (hb5.mono Hb.out.size))
  clear hb5 HW Hb
  go_wp2
  go_ret
  exact ⟨rfl, HB5.out⟩
end Go.Proofs.Ytnobbklnnkpdfaa
