/- Distances, as they are returned, are a metric. -/
import Derived.Test.YtclhamemlpbpiaaHl
import Derived.Test.YtclhamemlpbpiaaHm
namespace Go.Proofs.Ytclhamemlpbpiaa

theorem rowD_met {n m : Nat} {F : Nat → Nat → Int} (hok : okM n m F = true) {a b : Nat} (ha : a < n) (hb : b < n) :
    rowD (dsT n m F) a b = rowD (dsT n m F) b a ∧ (rowD (dsT n m F) a b = 0 ↔ a = b) ∧ -1 ≤ rowD (dsT n m F) a b ∧ rowD (dsT n m F) a b ≤ 399 ∧
    ∀ c, c < n → 0 ≤ rowD (dsT n m F) a c → 0 ≤ rowD (dsT n m F) c b → 0 ≤ rowD (dsT n m F) a b ∧ rowD (dsT n m F) a b ≤ rowD (dsT n m F) a c + rowD (dsT n m F) c b := by
  have hM := dsT_met hok
  have hB := dsT_bd hok
  have hj := fun c (hc : c < n) => dsT_joins hok ha hc
  have hd : ∀ x y, x < n → y < n → (rowD (dsT n m F) x y = -1 ∧ dsT n m F (8 * x + y) = 400) ∨ (rowD (dsT n m F) x y = dsT n m F (8 * x + y) ∧ 0 ≤ dsT n m F (8 * x + y) ∧ dsT n m F (8 * x + y) < 400) := fun x y hx hy => by
    have h1 := hM.nn (8 * x + y)
    have h2 := hB (8 * x + y)
    unfold rowD dOf
    by_cases h : dsT n m F (8 * x + y) = 400
    · rw [if_pos h]
      exact .inl ⟨rfl, h⟩
    · rw [if_neg h]
      exact .inr ⟨rfl, h1, by omega⟩
  have h1 := hd a b ha hb
  have h2 := hd b a hb ha
  have h3 := hM.sym a b ha hb
  have h4 : dsT n m F (8 * a + b) = 0 ↔ a = b := ⟨fun e => by
    by_cases h : a = b
    · exact h
    · have := hM.off a b ha hb h
      omega, fun e => by
    subst e
    exact hM.diag a ha⟩
  refine ⟨by omega, ⟨fun e => h4.1 (by omega), fun e => by have := h4.2 e; omega⟩, by omega, by omega, fun c hc h5 h6 => ?_⟩
  have h7 := hd a c ha hc
  have h8 := hd c b hc hb
  have h9 := hM.tri c hc a b ha hb
  have h10 := hj c hc (by omega) b hb (by omega)
  omega
end Go.Proofs.Ytclhamemlpbpiaa
