/- What list leaves of a slice; owned slices read as integers. -/
import Derived.Test.YtjomkbdelgnkcaaVg
namespace Go.Proofs.Ytjomkbdelgnkcaa
open Go.RowKit

theorem ownL_ints {w : World} {base n c : Nat} {A : Option Addr} {f : Nat → Int} (h : OwnL w base (.slice A n c) (lst n f)) : Ints w A n f := by
  obtain ⟨A', c', e, hI⟩ := h.sl0
  injection e with e1
  rw [e1]
  exact hI
end Go.Proofs.Ytjomkbdelgnkcaa
