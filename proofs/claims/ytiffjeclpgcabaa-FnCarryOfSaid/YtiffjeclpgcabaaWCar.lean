/- The law FnCarryOf: the walk. -/
import Derived.Test.YtiffjeclpgcabaaLCarry
import Derived.Test.YtiffjeclpgcabaaCarI
namespace Go.Proofs.Ytiffjeclpgcabaa
open Go.RowKit

theorem FnCarryOf_walk (a : Option Addr) (n cap : Nat) (w : World) (h : IsBytes w a n) (hc : n ≤ cap) :
    Calls Try.prog 10 #[.slice a n cap] w fun e w' => e = .returned (.bool true) ∧ Below w.heap.size w w' :=
  FnCarryOf_of CarryOf_impl a n cap w h hc

end Go.Proofs.Ytiffjeclpgcabaa
