/- The laws FnFewestPays and FnPayPlan, walked. -/
import Derived.Test.YtbedjebnllimpaaLFewest
import Derived.Test.YtbedjebnllimpaaLPayPlan
import Derived.Test.YtbedjebnllimpaaPlanI
import Derived.Test.YtbedjebnllimpaaAftI
import Derived.Test.YtbedjebnllimpaaGrpI
namespace Go.Proofs.Ytbedjebnllimpaa
open Go.RowKit

theorem planC : PlanC := fun v xs w hv hl => (PayPlan_impl v xs w hv hl).mono (by rintro e w' ⟨v', rfl, ho, hb⟩; exact ⟨v', rfl, ho.pays, hb⟩)
theorem afterC : AfterC := fun v u xs st w hv hl hu hlu => (AfterPays_impl v u xs st w hv hl hu hlu).mono (by rintro e w' ⟨v', rfl, ho, hb⟩; exact ⟨v', rfl, ho.ints, hb⟩)

theorem FnFewestPays_walk (a : Option Addr) (n cap : Nat) (w : World) (h : IsBytes w a n) (hc : n ≤ cap) :
    Calls Try.prog 7 #[.slice a n cap] w fun e w' => e = .returned (.bool true) ∧ Below w.heap.size w w' := FnFewestPays_of GroupsOf_impl FewestPays_impl planC a n cap w h hc

theorem FnPayPlan_walk (a : Option Addr) (n cap : Nat) (w : World) (h : IsBytes w a n) (hc : n ≤ cap) :
    Calls Try.prog 8 #[.slice a n cap] w fun e w' => e = .returned (.bool true) ∧ Below w.heap.size w w' := FnPayPlan_of GroupsOf_impl planC afterC a n cap w h hc

end Go.Proofs.Ytbedjebnllimpaa
