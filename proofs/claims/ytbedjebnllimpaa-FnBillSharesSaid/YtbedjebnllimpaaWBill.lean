/- The law FnBillShares, walked. -/
import Derived.Test.YtbedjebnllimpaaLBill
import Derived.Test.YtbedjebnllimpaaBillI
import Derived.Test.YtbedjebnllimpaaGrpI
namespace Go.Proofs.Ytbedjebnllimpaa
open Go.RowKit

theorem FnBillShares_walk (a : Option Addr) (n cap : Nat) (w : World) (h : IsBytes w a n) (hc : n ≤ cap) :
    Calls Try.prog 10 #[.slice a n cap] w fun e w' => e = .returned (.bool true) ∧ Below w.heap.size w w' := FnBillShares_of (fun v xs w hv hl => (BillShares_impl v xs w hv hl).mono (by rintro e w' ⟨v', rfl, ho, hb⟩; exact ⟨v', rfl, ho.ints, hb⟩)) GroupsOf_impl a n cap w h hc

end Go.Proofs.Ytbedjebnllimpaa
