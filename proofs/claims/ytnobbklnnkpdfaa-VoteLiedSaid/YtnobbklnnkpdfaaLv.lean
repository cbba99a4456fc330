/- What list leaves of a slice; owned slices read as integers. -/
import Derived.Test.YtnobbklnnkpdfaaVg
namespace Go.Proofs.Ytnobbklnnkpdfaa
open Go.RowKit

theorem listW {A : Option Addr} {m c : Nat} {o : Nat → Int} {w : World} (h : ArgI w A m c o) :
    Calls Try.prog 15 #[.slice A m c] w fun e w' => ∃ A' k c', e = .returned (.slice A' k c') ∧ k = min m 11 ∧ OwnL w' w.heap.size (.slice A' k c') (lst k o) ∧ k ≤ c' ∧ Below w.heap.size w w' := by
  refine (list_any A m c o w h).mono ?_
  rintro e w' ⟨x, rfl, hx, hb⟩
  obtain ⟨A', c', rfl, -, -, -, hc⟩ := hx.form
  rw [lst_len] at hc hx
  exact ⟨A', _, c', by rw [lst_len], rfl, hx, hc, hb⟩
theorem ownL_ints {w : World} {base n c : Nat} {A : Option Addr} {f : Nat → Int} (h : OwnL w base (.slice A n c) (lst n f)) : Ints w A n f := by
  obtain ⟨A', c', e, hI⟩ := h.sl0
  injection e with e1
  rw [e1]
  exact hI
end Go.Proofs.Ytnobbklnnkpdfaa
