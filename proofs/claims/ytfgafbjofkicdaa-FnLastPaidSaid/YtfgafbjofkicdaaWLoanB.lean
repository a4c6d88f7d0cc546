/- The laws FnLeastPay and FnLastPaid, walked. -/
import Derived.Test.YtfgafbjofkicdaaLLeast
import Derived.Test.YtfgafbjofkicdaaLLastPaid
import Derived.Test.YtfgafbjofkicdaaBkS
namespace Go.Proofs.Ytfgafbjofkicdaa
open Go.RowKit

theorem FnLeastPay_walk (a : Option Addr) (n cap : Nat) (w : World) (h : IsBytes w a n) (hc : n ≤ cap) :
    Calls Try.prog 6 #[.slice a n cap] w fun e w' => e = .returned (.bool true) ∧ Below w.heap.size w w' := FnLeastPay_of LeastPay_impl LeftAfter_impl a n cap w h hc

theorem FnLastPaid_walk (a : Option Addr) (n cap : Nat) (w : World) (h : IsBytes w a n) (hc : n ≤ cap) :
    Calls Try.prog 8 #[.slice a n cap] w fun e w' => e = .returned (.bool true) ∧ Below w.heap.size w w' := FnLastPaid_of LastPaid_impl a n cap w h hc

end Go.Proofs.Ytfgafbjofkicdaa
