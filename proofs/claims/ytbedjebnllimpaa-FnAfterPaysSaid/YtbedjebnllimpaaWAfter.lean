/- The law FnAfterPays, walked. -/
import Derived.Test.YtbedjebnllimpaaLAfter
import Derived.Test.YtbedjebnllimpaaAftI
namespace Go.Proofs.Ytbedjebnllimpaa
open Go.RowKit

theorem FnAfterPays_walk (a : Option Addr) (n cap : Nat) (w : World) (h : IsBytes w a n) (hc : n ≤ cap) :
    Calls Try.prog 9 #[.slice a n cap] w fun e w' => e = .returned (.bool true) ∧ Below w.heap.size w w' := FnAfterPays_of (fun v u xs st w hv hl hu hlu => (AfterPays_impl v u xs st w hv hl hu hlu).mono (by rintro e w' ⟨v', rfl, ho, hb⟩; exact ⟨v', rfl, ho.ints, hb⟩)) a n cap w h hc

end Go.Proofs.Ytbedjebnllimpaa
