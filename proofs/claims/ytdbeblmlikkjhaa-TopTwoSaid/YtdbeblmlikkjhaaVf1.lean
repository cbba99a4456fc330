/- Margins and Best of ballots that are not valid; what Few leaves of ballots. -/
import Derived.Test.YtdbeblmlikkjhaaMg
namespace Go.Proofs.Ytdbeblmlikkjhaa
open Go.RowKit

theorem okBal_few (n : Nat) (L : Nat → Nat) (v : Nat → Nat → Int) : okBal (min n 11) (fun i => min (L i) 11) v = okBal n L v := by
  rw [Bool.eq_iff_iff, okBal_iff, okBal_iff]
  constructor
  · rintro ⟨h1, h2, h3⟩
    have h2' : 1 ≤ min (L 0) 11 ∧ min (L 0) 11 ≤ 5 := h2
    have e0 : min (L 0) 11 = L 0 := by omega
    have h3' : ∀ i, i < min n 11 → min (L i) 11 = min (L 0) 11 ∧ Ord (min (L 0) 11) (v i) := h3
    refine ⟨by omega, by omega, fun i hi => ?_⟩
    have h4 := h3' i (by omega)
    rw [e0] at h4
    exact ⟨by omega, h4.2⟩
  · rintro ⟨h1, h2, h3⟩
    have e0 : min (L 0) 11 = L 0 := by omega
    have hn : min n 11 = n := by omega
    refine ⟨by omega, by show 1 ≤ min (L 0) 11 ∧ min (L 0) 11 ≤ 5; omega, fun i hi => ?_⟩
    have h4 := h3 i (by omega)
    show min (L i) 11 = min (L 0) 11 ∧ Ord (min (L 0) 11) (v i)
    rw [e0]
    exact ⟨by omega, h4.2⟩


end Go.Proofs.Ytdbeblmlikkjhaa
