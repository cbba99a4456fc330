/- Margins and Best of what Few leaves. -/
import Derived.Test.YtdbeblmlikkjhaaVf1
import Derived.Test.YtdbeblmlikkjhaaAk
namespace Go.Proofs.Ytdbeblmlikkjhaa
open Go.RowKit

theorem OwnR.rowsKc {w : World} {base n : Nat} {x : Value} {L : Nat → Nat} {v : Nat → Nat → Int} (h : OwnR w base x n L v) : ∃ A c, x = .slice A n c ∧ RowsK w A n L v ∧ n ≤ c := by
  obtain ⟨A, c, e, h1⟩ := h.rowsK
  obtain ⟨A', c', e', -, h2⟩ := h.rows
  rw [e] at e'
  injection e' with e1 e2 e3
  subst e1 e3
  exact ⟨A, c, e, h1, h2⟩
theorem Rows2.congrV {w : World} {A : Option Addr} {n : Nat} {L : Nat → Nat} {v v' : Nat → Nat → Int} (h : Rows2 w A n L v) (e : ∀ i k, i < n → k < L i → v i k = v' i k) : Rows2 w A n L v' := fun hn => by
  obtain ⟨b, o, hA, hc⟩ := h hn
  refine ⟨b, o, hA, fun i hi => ?_⟩
  obtain ⟨A', c', h1, h2⟩ := hc i hi
  exact ⟨A', c', h1, h2.congr (fun k hk => e i k hi hk)⟩
theorem bal_few {n : Nat} {L : Nat → Nat} {v : Nat → Nat → Int} (hok : okBal n L v = true) : min n 11 = n ∧ min (L 0) 11 = L 0 ∧ ∀ i, i < n → min (L i) 11 = L i := by
  obtain ⟨h1, h2, h3⟩ := okBal_iff.1 hok
  exact ⟨by omega, by omega, fun i hi => by have := (h3 i hi).1; omega⟩
theorem mAll_anti {n : Nat} {L : Nat → Nat} {v : Nat → Nat → Int} (hok : okBal n L v = true) : Anti (mAll v (L 0) n) (L 0) := by
  obtain ⟨h1, h2, h3⟩ := okBal_iff.1 hok
  intro a b ha hb
  rw [mAll_at (by omega) ha hb n (fun i hi => (h3 i hi).2), mAll_at (by omega) hb ha n (fun i hi => (h3 i hi).2), mrg_anti]
end Go.Proofs.Ytdbeblmlikkjhaa
