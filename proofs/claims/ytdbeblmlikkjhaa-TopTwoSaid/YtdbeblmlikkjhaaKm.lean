/- Kemeny, whole. -/
import Derived.Test.YtdbeblmlikkjhaaKe
import Derived.Test.YtdbeblmlikkjhaaDb
import Derived.Test.YtdbeblmlikkjhaaVg
namespace Go.Proofs.Ytdbeblmlikkjhaa
open Go.RowKit

theorem RowC.cap_le {w : World} {g cap m : Nat} {D : Nat → Int} (h : RowC w g cap m D) : m ≤ cap := by
  obtain ⟨F, hr, hc, hF⟩ := h
  exact hc
theorem bal_bd {n : Nat} {L : Nat → Nat} {v : Nat → Nat → Int} (hok : okBal n L v = true) : ∀ a b, a < L 0 → b < L 0 → -(n : Int) ≤ mAll v (L 0) n (5 * a + b) ∧ mAll v (L 0) n (5 * a + b) ≤ n := by
  obtain ⟨⟨hn1, hn9⟩, ⟨hc1, hc5⟩, hO⟩ := okBal_iff.1 hok
  intro a b ha hb
  rw [mAll_at hc5 ha hb n (fun i hi => (hO i hi).2)]
  exact mrg_bd v (L 0) a b n



end Go.Proofs.Ytdbeblmlikkjhaa
