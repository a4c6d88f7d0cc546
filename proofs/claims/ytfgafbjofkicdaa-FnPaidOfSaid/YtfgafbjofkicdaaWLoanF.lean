/- The law FnPaidOf, walked. -/
import Derived.Test.YtfgafbjofkicdaaLPaidOf
import Derived.Test.YtfgafbjofkicdaaLoanF
import Derived.Test.YtfgafbjofkicdaaBkS
namespace Go.Proofs.Ytfgafbjofkicdaa
open Go.RowKit

theorem FnPaidOf_walk (a : Option Addr) (n cap : Nat) (w : World) (h : IsBytes w a n) (hc : n ≤ cap) :
    Calls Try.prog 7 #[.slice a n cap] w fun e w' => e = .returned (.bool true) ∧ Below w.heap.size w w' :=
  FnPaidOf_of DrawPaidOf_any LeftAfter_impl PaidOf_impl LeastPay_impl a n cap w h hc

end Go.Proofs.Ytfgafbjofkicdaa
