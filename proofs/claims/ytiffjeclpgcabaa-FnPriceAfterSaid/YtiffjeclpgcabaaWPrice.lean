/- The law FnPriceAfter: the walk. -/
import Derived.Test.YtiffjeclpgcabaaLPrice
import Derived.Test.YtiffjeclpgcabaaPrcI
namespace Go.Proofs.Ytiffjeclpgcabaa
open Go.RowKit

theorem FnPriceAfter_walk (a : Option Addr) (n cap : Nat) (w : World) (h : IsBytes w a n) (hc : n ≤ cap) :
    Calls Try.prog 8 #[.slice a n cap] w fun e w' => e = .returned (.bool true) ∧ Below w.heap.size w w' :=
  FnPriceAfter_of PriceAfter_impl a n cap w h hc

end Go.Proofs.Ytiffjeclpgcabaa
