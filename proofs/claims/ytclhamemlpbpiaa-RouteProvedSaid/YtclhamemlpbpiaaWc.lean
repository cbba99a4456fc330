/- Way's closure, from wherever it has come. -/
import Derived.Test.YtclhamemlpbpiaaWb
namespace Go.Proofs.Ytclhamemlpbpiaa
open Go.RowKit

theorem grow_any (lo mB bB sB fB gB eB n m c : Nat) (A : Option Addr) (b : Nat) (S T : Nat → Int) (hb : b < n) (hn8 : n ≤ 8) (hS0 : ∀ i, 0 ≤ S i ∧ S i ≤ 400) (hT0 : ∀ i, 0 ≤ T i ∧ T i ≤ 400) (hSp : ∀ x y, x < n → y < n → x ≠ y → 1 ≤ S (8 * x + y)) (hTp : ∀ x y, x < n → y < n → x ≠ y → 1 ≤ T (8 * x + y))
    (hd1 : mB < lo ∧ mB ≠ eB) (hd2 : bB < lo ∧ bB ≠ eB) (hd3 : sB < lo ∧ sB ≠ eB) (hd4 : fB < lo ∧ fB ≠ eB) (hd5 : gB < lo ∧ gB ≠ eB) (heg : eB < lo) : ∀ f, GrowOk lo mB bB sB fB gB eB n m c A b S T f := by
  intro f
  induction f with
  | zero =>
    intro g cp x L v B w hE hlo hO hL hx hxn hTf hlen hV hB hsep
    obtain rfl : x = b := by
      by_cases e : x = b
      · exact e
      · have := hTp x b hxn hb e
        omega
    rw [wyF_end]
    exact grow_leaf lo mB bB sB fB gB eB n m c A x S T 0 hb hn8 g cp L v B w hE hlo hO hL hx (by omega) hV hB hsep heg
  | succ f ih =>
    intro g cp x L v B w hE hlo hO hL hx hxn hTf hlen hV hB hsep
    by_cases e : x = b
    · subst e
      rw [wyF_end]
      exact grow_leaf lo mB bB sB fB gB eB n m c A x S T f hb hn8 g cp L v B w hE hlo hO hL hx (by omega) hV hB hsep heg
    · rw [wyF_step e]
      exact grow_step lo mB bB sB fB gB eB n m c A b S T f hb hn8 hS0 hT0 hSp hd1 hd2 hd3 hd4 hd5 heg ih g cp x L v B w hE hlo hO hL hx hxn e hTf (by omega) hV hB hsep
end Go.Proofs.Ytclhamemlpbpiaa
