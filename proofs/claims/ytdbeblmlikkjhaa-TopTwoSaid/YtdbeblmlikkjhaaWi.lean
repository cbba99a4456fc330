/- Widths of ballots. -/
import Derived.Test.YtdbeblmlikkjhaaSw
import Derived.Test.YtdbeblmlikkjhaaVg
import Derived.Deep.RegionHeld3
namespace Go.Proofs.Ytdbeblmlikkjhaa
open Go.RowKit

theorem wpOp_of {P : Program} {ops : Array Oper} {Q : Exit → Act → World → Prop} {i : Nat} {K : Act → World → Prop} {a : Act} {w : World} {o : Oper} (hi : ops[i]? = some o) (hw : Region.wanted o (yielded ops a.tmps) = true) (h : o.wp P a w K Q) : wpOp P ops Q i K a w := by
  unfold wpOp
  rw [hi]
  simp only [hw, if_true]
  exact .inl h


/-- Widths and Win of what Few leaves. -/
theorem mAll_dia {n : Nat} {L : Nat → Nat} {v : Nat → Nat → Int} (hok : okBal n L v = true) : ∀ a, a < L 0 → mAll v (L 0) n (5 * a + a) = 0 := by
  intro a ha
  have := mAll_anti hok a a ha ha
  omega
theorem WinF {n k0 : Nat} {L : Nat → Nat} {v : Nat → Nat → Int} {A : Option Addr} {k cA : Nat} {w : World} (h : RowsK w A k (fun i => min (L i) 11) v) (hk : k = min n 11) (hA : k ≤ cA) (hok : okBal n L v = true) (hk0 : k0 < L 0)
    (h1 : strB (wT (L 0) (mAll v (L 0) n) (L 0)) (L 0) k0 = true) (h2 : ∀ a, a < k0 → strB (wT (L 0) (mAll v (L 0) n) (L 0)) (L 0) a = false) :
    Lr 6 #[.slice A k cA, .int .i64 2] w (.tuple #[.int .i64 k0, .int .i64 0]) := by
  subst hk
  obtain ⟨e1, e2, e3⟩ := bal_few hok
  exact Win_paths A (min n 11) cA k0 (fun i => min (L i) 11) v w h (by rw [okBal_few]; exact hok) hA (by simp only [e2]; exact hk0) (by simp only [e1, e2]; exact h1) (by simp only [e1, e2]; exact h2)
end Go.Proofs.Ytdbeblmlikkjhaa
