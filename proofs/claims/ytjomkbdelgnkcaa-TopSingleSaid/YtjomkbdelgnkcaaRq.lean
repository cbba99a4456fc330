/- The reference: size, Margins; equal rows. -/
import Derived.Test.YtjomkbdelgnkcaaRv
import Derived.Test.YtjomkbdelgnkcaaShift
import Derived.Test.YtjomkbdelgnkcaaEq
import Derived.Maps.AppendAt
namespace Go.Proofs.Ytjomkbdelgnkcaa
open Go.RowKit

theorem and_low : ∀ t : Nat, t < 512 → 0 < t → bits .and .i64 (t : Int) ((t : Int) - 1) = ((t &&& (t - 1) : Nat) : Int) := by decide +kernel


theorem eqB_id (n : Nat) (f : Nat → Int) : eqB n n f f = true := by
  simp only [eqB, decide_true, Bool.true_and]
  exact allB_t (fun g _ => by simp [eqP])


end Go.Proofs.Ytjomkbdelgnkcaa
