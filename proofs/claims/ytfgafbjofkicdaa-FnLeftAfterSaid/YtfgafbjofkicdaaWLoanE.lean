/- The law FnLeftAfter, walked. -/
import Derived.Test.YtfgafbjofkicdaaLLeftAfter
import Derived.Test.YtfgafbjofkicdaaLoanF
import Derived.Test.YtfgafbjofkicdaaBkX
namespace Go.Proofs.Ytfgafbjofkicdaa
open Go.RowKit

theorem FnLeftAfter_walk (a : Option Addr) (n cap : Nat) (w : World) (h : IsBytes w a n) (hc : n ≤ cap) :
    Calls Try.prog 5 #[.slice a n cap] w fun e w' => e = .returned (.bool true) ∧ Below w.heap.size w w' :=
  FnLeftAfter_of DrawLeftAfter_any LeftAfter_impl PaidOf_impl a n cap w h hc

end Go.Proofs.Ytfgafbjofkicdaa
