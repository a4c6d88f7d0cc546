/- The laws FnValidDebts and FnBalancesOf, walked. -/
import Derived.Test.YtbedjebnllimpaaLDebts
import Derived.Test.YtbedjebnllimpaaDebtI
namespace Go.Proofs.Ytbedjebnllimpaa
open Go.RowKit

theorem debtsC : DebtsC := fun v g w hv hl hr _ => (ValidDebts_impl v g w hv hl hr).mono (by rintro e w' ⟨rfl, rfl⟩; exact ⟨rfl, Below.refl _ _⟩)

theorem balancesC : BalancesC := fun v g w hv hl hr _ => (BalancesOf_impl v g w hv hl hr).mono (by rintro e w' ⟨v', rfl, ho, hb⟩; exact ⟨v', rfl, ho.ints, hb⟩)

theorem FnValidDebts_walk (a : Option Addr) (n cap : Nat) (w : World) (h : IsBytes w a n) (hc : n ≤ cap) :
    Calls Try.prog 3 #[.slice a n cap] w fun e w' => e = .returned (.bool true) ∧ Below w.heap.size w w' := FnValidDebts_of debtsC a n cap w h hc

theorem FnBalancesOf_walk (a : Option Addr) (n cap : Nat) (w : World) (h : IsBytes w a n) (hc : n ≤ cap) :
    Calls Try.prog 4 #[.slice a n cap] w fun e w' => e = .returned (.bool true) ∧ Below w.heap.size w w' := FnBalancesOf_of balancesC a n cap w h hc

end Go.Proofs.Ytbedjebnllimpaa
