/- The law FnExchange: the walk. -/
import Derived.Test.YtiffjeclpgcabaaLExch
import Derived.Test.YtiffjeclpgcabaaCarI
namespace Go.Proofs.Ytiffjeclpgcabaa
open Go.RowKit

theorem FnExchange_walk (a : Option Addr) (n cap : Nat) (w : World) (h : IsBytes w a n) (hc : n ≤ cap) :
    Calls Try.prog 7 #[.slice a n cap] w fun e w' => e = .returned (.bool true) ∧ Below w.heap.size w w' :=
  FnExchange_of Exchange_impl a n cap w h hc

end Go.Proofs.Ytiffjeclpgcabaa
