/- The laws FnGroupsOf, walked. -/
import Derived.Test.YtbedjebnllimpaaLGroupsOf
import Derived.Test.YtbedjebnllimpaaGrpI
namespace Go.Proofs.Ytbedjebnllimpaa
open Go.RowKit

theorem FnGroupsOf_walk (a : Option Addr) (n cap : Nat) (w : World) (h : IsBytes w a n) (hc : n ≤ cap) :
    Calls Try.prog 6 #[.slice a n cap] w fun e w' => e = .returned (.bool true) ∧ Below w.heap.size w w' := FnGroupsOf_of GroupsOf_impl a n cap w h hc

end Go.Proofs.Ytbedjebnllimpaa
