import Derived.Test.YtoeimngbpagegaaDoorRowI
namespace Go.Proofs.YtoeimngbpagegaaDoor
open Go.RowKit

/-- w' is w but for block G, new blocks, draws. -/
def Exc (G : Nat) (w w' : World) : Prop := w.grownBy w' (some G)
section
variable {G : Nat} {a w w' : World}
theorem Exc.refl (G : Nat) (w : World) : Exc G w w := World.grownBy.refl w _
theorem Exc.trans (h : Exc G a w) (k : Exc G w w') : Exc G a w' :=
  ⟨k.os.trans h.os, k.tape.trans h.tape, k.output.trans h.output, Nat.le_trans h.size k.size, fun i hi hne => (k.block i (Nat.lt_of_lt_of_le hi h.size) hne).trans (h.block i hi hne)⟩
theorem Exc.drew (h : Exc G a w) : Exc G a w.drew := h.trans ⟨rfl, rfl, rfl, Nat.le_refl _, fun _ _ _ => rfl⟩
theorem Exc.set (h : Exc G a w) (i : Nat) (x : Value) : Exc G a (w.setCell ⟨G, i, none⟩ x) :=
  h.trans ⟨rfl, rfl, rfl, by simp, fun k _ hne => Below.heap_setCell w _ x k (fun e => hne (by rw [e]))⟩
theorem Exc.of_below (h : Below w.heap.size w w') : Exc G w w' := ⟨h.os, h.tape, h.output, h.size, fun k hk _ => h.block k hk⟩
theorem Exc.below {B : Nat} (h : Exc G w w') (hB : B ≤ G) (hw : B ≤ w.heap.size) : Below B w w' := ⟨h.os, h.tape, h.output, h.size, fun k hk => h.block k (by omega) (fun e => by injection e; omega)⟩
theorem Exc.row {g n : Nat} {f : Nat → Int} (h : Exc G w w') (hr : RowI w g n f) (hg : g ≠ G) : RowI w' g n f := World.rowIs.of_block hr (h.block g hr.lt (fun e => hg (by injection e)))
theorem Exc.cell {p : Addr} {x : Value} (h : Exc G w w') (hc : w.cell? p = some x) (hg : p.block ≠ G) : w'.cell? p = some x :=
  World.grownBy.cell h hc (fun e => hg (by injection e))
theorem Exc.ownL {base : Nat} {v : Value} {xs : List Int} (h : Exc G w w') (ho : OwnL w base v xs) (hne : v.ownBlock = none ∨ v.ownBlock ≠ some G) : OwnL w' base v xs := World.ownsRow.kept ho h hne
end
end Go.Proofs.YtoeimngbpagegaaDoor
