/- What Way's closure finds in memory. -/
import Derived.Test.YtclhamemlpbpiaaHn
import Derived.Test.YtclhamemlpbpiaaHs
import Derived.Test.YtclhamemlpbpiaaHp
namespace Go.Proofs.Ytclhamemlpbpiaa
open Go.RowKit

/-- The blocks that Way's closure reads. -/
structure GEnv (w : World) (mB bB sB fB gB n m c : Nat) (A : Option Addr) (b : Nat) (S T : Nat → Int) (fn : Value) : Prop where
  map : MapB w mB n (.slice A m c)
  end_ : w.cell? ⟨bB, 0, none⟩ = some (.int .i64 b)
  st : TabI w sB S
  fa : TabI w fB T
  fn : w.cell? ⟨gB, 0, none⟩ = some fn
theorem GEnv.kp {w w' : World} {mB bB sB fB gB n m c : Nat} {A : Option Addr} {b : Nat} {S T : Nat → Int} {fn : Value} (h : GEnv w mB bB sB fB gB n m c A b S T fn) {bs : List Nat} (hk : Kp bs w w')
    (h1 : mB ∉ bs) (h2 : bB ∉ bs) (h3 : sB ∉ bs) (h4 : fB ∉ bs) (h5 : gB ∉ bs) : GEnv w' mB bB sB fB gB n m c A b S T fn :=
  ⟨World.rowIs.of_block h.map (hk.block _ h.map.lt h1), (World.cell?_of_block (hk.block _ (World.block_lt_of_cell? _ _ h.end_) h2)).trans h.end_, World.rowIs.of_block h.st (hk.block _ h.st.lt h3), World.rowIs.of_block h.fa (hk.block _ h.fa.lt h4), (World.cell?_of_block (hk.block _ (World.block_lt_of_cell? _ _ h.fn) h5)).trans h.fn⟩
/-- The best way so far. -/
def BestW (w : World) (v : Value) : Option (List Int) → Prop
  | none => v = .slice none 0 0
  | some L => OwnL w 0 v L ∧ 0 < L.length
theorem BestW.kp {w w' : World} {v : Value} {B : Option (List Int)} {bs : List Nat} (h : BestW w v B) (hk : Kp bs w w') (hne : ∀ g, v.ownBlock = some g → g ∉ bs) : BestW w' v B := by
  cases B with
  | none => exact h
  | some L => exact ⟨hk.ownL h.1 hne, h.2⟩
theorem BestW.form {w : World} {v : Value} {B : Option (List Int)} (h : BestW w v B) : ∃ A c, v = .slice A ((B.getD []).length) c ∧ (A = none ↔ B = none) := by
  cases B with
  | none => exact ⟨none, 0, h, by simp⟩
  | some L =>
    obtain ⟨A, c, e, hnil, -, -, -⟩ := h.1.form
    refine ⟨A, c, e, by
      simp only [reduceCtorEq, iff_false]
      intro e2
      rw [hnil e2] at e
      injection e with e1 e2 e3
      have := h.2
      omega⟩
theorem BestW.lt {w : World} {v : Value} {B : Option (List Int)} (h : BestW w v B) {g : Nat} (hg : v.ownBlock = some g) : g < w.heap.size := by
  cases B with
  | none =>
    have h : v = .slice none 0 0 := h
    subst h
    cases hg
  | some L => exact (World.ownsRow.lt h.1 g hg).2
/-- The cell of the best way. -/
def BoxV (w : World) (g : Nat) (v : Value) : Prop := w.rowIs g 33 1 (fun _ => v)
theorem BoxV.set {w : World} {g : Nat} {v : Value} (h : BoxV w g v) (u : Value) : BoxV (w.setCell ⟨g, 0, none⟩ u) g u := World.rowIs.congr (World.rowIs.set h 0 u) (fun j hj => by
  obtain rfl : j = 0 := by omega
  simp)
theorem BoxV.c {w : World} {g : Nat} {v : Value} (h : BoxV w g v) : w.cell? ⟨g, 0, none⟩ = some v := World.rowIs.cell h (show 0 < 1 by omega)
end Go.Proofs.Ytclhamemlpbpiaa
