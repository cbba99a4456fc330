import Derived.Test.YtjomkbdelgnkcaaOwn
import Derived.Test.YtjomkbdelgnkcaaBool
namespace Go.Proofs.Ytjomkbdelgnkcaa
open Go.RowKit

def eqP (f g : Nat → Int) (k : Nat) : Bool := decide (f k = g k)
def eqB (n n' : Nat) (f g : Nat → Int) : Bool := decide (n = n') && allB (eqP f g) n

end Go.Proofs.Ytjomkbdelgnkcaa
