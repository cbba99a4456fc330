/- A law's map in two cells of a block; rows that can be read. -/
import Derived.Test.YtclhamemlpbpiaaWe
import Derived.Test.YtclhamemlpbpiaaHs
namespace Go.Proofs.Ytclhamemlpbpiaa
open Go.RowKit

def MapBR (w : World) (g : Nat) (N : Int) (v : Value) : Prop := w.rowIs g 24 2 (fun i => if i = 0 then .int .i64 N else v)
theorem MapBR.c0 {w : World} {g : Nat} {N : Int} {v : Value} (h : MapBR w g N v) : w.cell? ⟨g, 0, none⟩ = some (.int .i64 N) := World.rowIs.cell h (show 0 < 2 by omega)
theorem MapBR.c1 {w : World} {g : Nat} {N : Int} {v : Value} (h : MapBR w g N v) : w.cell? ⟨g, 1, none⟩ = some v := World.rowIs.cell h (show 1 < 2 by omega)
theorem MapBR.keep {w w' : World} {g : Nat} {N : Int} {v : Value} (h : MapBR w g N v) (hb : Below w.heap.size w w') : MapBR w' g N v := World.rowIs.of_block h (hb.block g (World.rowIs.lt h))
theorem MapBR.new (w : World) (N : Int) (v : Value) : MapBR (w.alloc (.cells #[.int .i64 N, v] 24)) w.heap.size N v :=
  World.rowIs_alloc w #[.int .i64 N, v] _ _ (fun i hi => by
    match i, hi with
    | 0, _ => rfl
    | 1, _ => rfl)
/-- n rows of n numbers in a block G, to be read. -/
def RowsD (w : World) (G n : Nat) (D : Nat → Nat → Int) : Prop := ∀ j, j < n → ∃ b o c, w.cell? ⟨G, j, none⟩ = some (.slice (some ⟨b, o, none⟩) n c) ∧ ∀ i, i < n → w.cell? ⟨b, o + i, none⟩ = some (.int .i64 (D j i))
theorem RowsD.keep {w w' : World} {G n : Nat} {D : Nat → Nat → Int} (h : RowsD w G n D) (hb : Below w.heap.size w w') : RowsD w' G n D := fun j hj => by
  obtain ⟨b, o, c, h1, h2⟩ := h j hj
  exact ⟨b, o, c, (hb.cell (World.block_lt_of_cell? _ _ h1)).trans h1, fun i hi => (hb.cell (World.block_lt_of_cell? _ _ (h2 i hi))).trans (h2 i hi)⟩
theorem RowsD.of {w : World} {G n : Nat} {V : Nat → Value} {D : Nat → Nat → Int} (hn : 0 < n) (hg : w.rowIs G 33 n V) (ho : ∀ j, j < n → OwnL w (G + 1) (V j) (lst n (D j))) : RowsD w G n D := fun j hj => by
  obtain ⟨A, c, e, -, hI, hb, -⟩ := (ho j hj).form
  rw [lst_len] at e hI
  obtain ⟨b, o, rfl, h2⟩ := hI hn
  exact ⟨b, o, c, by rw [World.rowIs.cell hg hj, e], fun i hi => by rw [h2 i hi]; exact congrArg (fun z => some (Value.int .i64 z)) (lst_getD _ _ _ hi)⟩
end Go.Proofs.Ytclhamemlpbpiaa
