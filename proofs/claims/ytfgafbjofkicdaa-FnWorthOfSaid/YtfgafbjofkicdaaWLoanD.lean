/- The law FnWorthOf, walked. -/
import Derived.Test.YtfgafbjofkicdaaLWorth
import Derived.Test.YtfgafbjofkicdaaBkV
namespace Go.Proofs.Ytfgafbjofkicdaa
open Go.RowKit

theorem FnWorthOf_walk (a : Option Addr) (n cap : Nat) (w : World) (h : IsBytes w a n) (hc : n ≤ cap) :
    Calls Try.prog 9 #[.slice a n cap] w fun e w' => e = .returned (.bool true) ∧ Below w.heap.size w w' :=
  FnWorthOf_of (fun v xs p b wx hi hl => WorthOf_impl v xs p b wx hi (by omega)) a n cap w h hc

end Go.Proofs.Ytfgafbjofkicdaa
