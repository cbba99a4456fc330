/- awake: of two candidates the one with the majority wins. -/
import Derived.Test.YtdbeblmlikkjhaaWv
namespace Go.Proofs.Ytdbeblmlikkjhaa
open Go.RowKit

def awV : Nat → Nat → Int := fun i k => if i = 1 then (k : Int) else 1 - (k : Int)
theorem old_cellV {w w' : World} {a : Addr} {v : Value} (h : w.cell? a = some v) (hb : Below w.heap.size w w') : w'.cell? a = some v := (hb.cell (World.block_lt_of_cell? _ _ h)).trans h
theorem box_belowV (w : World) (o : Obj) : Below w.heap.size w (w.alloc o) := (Below.refl _ _).alloc (Nat.le_refl _) _
theorem cell_two (w : World) (x y : Value) (t : TypeId) : (w.alloc (.cells #[x, y] t)).cell? ⟨w.heap.size, 0, none⟩ = some x ∧ (w.alloc (.cells #[x, y] t)).cell? ⟨w.heap.size, 1, none⟩ = some y := by
  constructor <;> simp [World.cell?_alloc_at]
theorem cell_three (w : World) (x y z : Value) (t : TypeId) : (w.alloc (.cells #[x, y, z] t)).cell? ⟨w.heap.size, 0, none⟩ = some x ∧ (w.alloc (.cells #[x, y, z] t)).cell? ⟨w.heap.size, 1, none⟩ = some y ∧ (w.alloc (.cells #[x, y, z] t)).cell? ⟨w.heap.size, 2, none⟩ = some z := by
  refine ⟨?_, ?_, ?_⟩ <;> simp [World.cell?_alloc_at]
theorem aw_ok : okBal 3 (fun _ => 2) awV = true := by decide
theorem aw_one : strB (wT 2 (mAll awV 2 3) 2) 2 1 = true := by decide +kernel
theorem aw_zero : strB (wT 2 (mAll awV 2 3) 2) 2 0 = false := by decide +kernel

end Go.Proofs.Ytdbeblmlikkjhaa
