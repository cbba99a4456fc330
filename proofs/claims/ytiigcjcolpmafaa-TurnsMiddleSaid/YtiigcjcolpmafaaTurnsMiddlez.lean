/- TurnsMiddle, walked. -/
import Derived.Test.YtiigcjcolpmafaaYR
namespace Go.Proofs.Ytiigcjcolpmafaa
open Go.RowKit

theorem turnsMiddle_walk (AH AS AP : Option Addr) (cH cS cP : Nat) (p : PlanD) (q : Int) (w : World) (hp : PlanArg w AH AS AP cH cS cP p) (_ : (Lit.int .i64 q).wf = true) :
    Calls Try.prog 13 #[.agg #[.slice AH p.nH cH, .slice AS p.nS cS, .slice AP p.nP cP], .int .i64 q] w fun e w' => e = .returned (.bool true) ∧ Below w.heap.size w w' :=
  turnsMiddle_from AH AS AP cH cS cP p q w hp (fun hok k w hk hp => rMiddle_any AH AS AP cH cS cP p k w hp hok hk)
end Go.Proofs.Ytiigcjcolpmafaa

