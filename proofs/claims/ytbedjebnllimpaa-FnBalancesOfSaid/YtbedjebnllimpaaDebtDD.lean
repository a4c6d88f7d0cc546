/- The drawn arguments of the laws of debts. -/
import Derived.Test.YtbedjebnllimpaaDebtD
namespace Go.Proofs.Ytbedjebnllimpaa
open Go.RowKit

set_option maxHeartbeats 800000 in
theorem DrawValidDebts_any (a : Option Addr) (n cap : Nat) (w : World) (h : IsBytes w a n) (hc : n ≤ cap) :
    Calls Try.prog 19 #[.slice a n cap] w fun e w' => ∃ v g, e = .returned v ∧ IsGrid w' v g ∧ Rows67 g ∧ Below w.heap.size w w' := by
  go_enter Try.func19, Try.ntmps19
  go_wp2_with fail
  refine (newReader_any a n cap _ h hc).mono ?_
  rintro e w1 ⟨rfl, h1, b1⟩
  go_wp2_with fail
  refine (someDebts_any _ _ _ _ _ h1 (by omega)).mono ?_
  rintro e w2 ⟨v, vs, g, rfl, st2, r67⟩
  have b2 := below_reader b1 st2.gr
  have H := Lib.hid st2.tb.table.grid
  clear st2 h1
  go_wp2
  go_ret
  exact ⟨_, _, rfl, H.out, r67, b2⟩

set_option maxHeartbeats 800000 in
theorem DrawBalancesOf_any (a : Option Addr) (n cap : Nat) (w : World) (h : IsBytes w a n) (hc : n ≤ cap) :
    Calls Try.prog 23 #[.slice a n cap] w fun e w' => ∃ v g, e = .returned v ∧ IsGrid w' v g ∧ Rows67 g ∧ Below w.heap.size w w' := by
  go_enter Try.func23, Try.ntmps23
  go_wp2_with fail
  refine (newReader_any a n cap _ h hc).mono ?_
  rintro e w1 ⟨rfl, h1, b1⟩
  go_wp2_with fail
  refine (someDebts_any _ _ _ _ _ h1 (by omega)).mono ?_
  rintro e w2 ⟨v, vs, g, rfl, st2, r67⟩
  have b2 := below_reader b1 st2.gr
  have H := Lib.hid st2.tb.table.grid
  clear st2 h1
  go_wp2
  go_ret
  exact ⟨_, _, rfl, H.out, r67, b2⟩

set_option maxHeartbeats 800000 in
theorem DrawNetDebts_any (a : Option Addr) (n cap : Nat) (w : World) (h : IsBytes w a n) (hc : n ≤ cap) :
    Calls Try.prog 28 #[.slice a n cap] w fun e w' => ∃ v g, e = .returned v ∧ IsGrid w' v g ∧ Rows67 g ∧ Below w.heap.size w w' := by
  go_enter Try.func28, Try.ntmps28
  go_wp2_with fail
  refine (newReader_any a n cap _ h hc).mono ?_
  rintro e w1 ⟨rfl, h1, b1⟩
  go_wp2_with fail
  refine (someDebts_any _ _ _ _ _ h1 (by omega)).mono ?_
  rintro e w2 ⟨v, vs, g, rfl, st2, r67⟩
  have b2 := below_reader b1 st2.gr
  have H := Lib.hid st2.tb.table.grid
  clear st2 h1
  go_wp2
  go_ret
  exact ⟨_, _, rfl, H.out, r67, b2⟩

end Go.Proofs.Ytbedjebnllimpaa
