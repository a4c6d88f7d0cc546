/- The drawn arguments of the functions of taxes. -/
import Derived.Test.YtmeejaafbbabaaaDrawS
namespace Go.Proofs.Ytmeejaafbbabaaa
open Go.RowKit

set_option maxHeartbeats 800000 in
theorem DrawValidSteps_any (a : Option Addr) (n cap : Nat) (w : World) (h : IsBytes w a n) (hc : n ≤ cap) :
    Calls Try.prog 19 #[.slice a n cap] w fun e w' => ∃ (v : Value) (st : List (Int × Int)), e = .returned v ∧ OwnS w' w.heap.size v st ∧ st.length ≤ 6 ∧ Below w.heap.size w w' := by
  go_enter Try.func19, Try.ntmps19
  go_wp2_with fail
  refine (newReader_any a n cap _ h hc).mono ?_
  rintro e w1 ⟨rfl, h1, b1⟩
  go_wp2_with fail
  refine (someSteps_any _ _ _ _ _ h1 (by omega)).mono ?_
  rintro e w2 ⟨v, st, rfl, o2, l2, h2, g2⟩
  have b2 := below_reader b1 g2
  have of := o2.base b1.size
  go_wp2
  go_ret
  exact ⟨_, _, rfl, of, l2, b2⟩

set_option maxHeartbeats 800000 in
theorem DrawIsRising_any (a : Option Addr) (n cap : Nat) (w : World) (h : IsBytes w a n) (hc : n ≤ cap) :
    Calls Try.prog 34 #[.slice a n cap] w fun e w' => ∃ (v : Value) (st : List (Int × Int)), e = .returned v ∧ OwnS w' w.heap.size v st ∧ st.length ≤ 6 ∧ Below w.heap.size w w' := by
  go_enter Try.func34, Try.ntmps34
  go_wp2_with fail
  refine (newReader_any a n cap _ h hc).mono ?_
  rintro e w1 ⟨rfl, h1, b1⟩
  go_wp2_with fail
  refine (someSteps_any _ _ _ _ _ h1 (by omega)).mono ?_
  rintro e w2 ⟨v, st, rfl, o2, l2, h2, g2⟩
  have b2 := below_reader b1 g2
  have of := o2.base b1.size
  go_wp2
  go_ret
  exact ⟨_, _, rfl, of, l2, b2⟩

set_option maxHeartbeats 800000 in
theorem DrawHundredTax_any (a : Option Addr) (n cap : Nat) (w : World) (h : IsBytes w a n) (hc : n ≤ cap) :
    Calls Try.prog 22 #[.slice a n cap] w fun e w' => ∃ (v : Value) (st : List (Int × Int)) (x0 : Int), e = .returned (.tuple #[v, .int .i64 x0]) ∧ OwnS w' w.heap.size v st ∧ st.length ≤ 6 ∧ (-1 ≤ x0 ∧ x0 ≤ 2001) ∧ Below w.heap.size w w' := by
  go_enter Try.func22, Try.ntmps22
  go_wp2_with fail
  refine (newReader_any a n cap _ h hc).mono ?_
  rintro e w1 ⟨rfl, h1, b1⟩
  go_wp2_with fail
  refine (someSteps_any _ _ _ _ _ h1 (by omega)).mono ?_
  rintro e w2 ⟨v, st, rfl, o2, l2, h2, g2⟩
  have b2 := below_reader b1 g2
  have ne0 := o2.neBlock (show w.heap.size < w1.heap.size from h1.lt.2)
  go_wp2_with fail
  refine (anIncome_any _ _ _ _ _ h2 (by omega)).mono ?_
  rintro e w3 ⟨x0, rfl, hx0, h3, g3⟩
  have b3 := below_reader b2 g3
  have o3 := o2.kept g3 (.inr ne0)
  have of := o3.base b1.size
  go_wp2
  go_ret2
  exact ⟨_, _, _, rfl, of, l2, hx0, b3⟩

set_option maxHeartbeats 800000 in
theorem DrawNetOf_any (a : Option Addr) (n cap : Nat) (w : World) (h : IsBytes w a n) (hc : n ≤ cap) :
    Calls Try.prog 26 #[.slice a n cap] w fun e w' => ∃ (v : Value) (st : List (Int × Int)) (x0 : Int), e = .returned (.tuple #[v, .int .i64 x0]) ∧ OwnS w' w.heap.size v st ∧ st.length ≤ 6 ∧ (-1 ≤ x0 ∧ x0 ≤ 2001) ∧ Below w.heap.size w w' := by
  go_enter Try.func26, Try.ntmps26
  go_wp2_with fail
  refine (newReader_any a n cap _ h hc).mono ?_
  rintro e w1 ⟨rfl, h1, b1⟩
  go_wp2_with fail
  refine (someSteps_any _ _ _ _ _ h1 (by omega)).mono ?_
  rintro e w2 ⟨v, st, rfl, o2, l2, h2, g2⟩
  have b2 := below_reader b1 g2
  have ne0 := o2.neBlock (show w.heap.size < w1.heap.size from h1.lt.2)
  go_wp2_with fail
  refine (anIncome_any _ _ _ _ _ h2 (by omega)).mono ?_
  rintro e w3 ⟨x0, rfl, hx0, h3, g3⟩
  have b3 := below_reader b2 g3
  have o3 := o2.kept g3 (.inr ne0)
  have of := o3.base b1.size
  go_wp2
  go_ret2
  exact ⟨_, _, _, rfl, of, l2, hx0, b3⟩

set_option maxHeartbeats 800000 in
theorem DrawGrossFor_any (a : Option Addr) (n cap : Nat) (w : World) (h : IsBytes w a n) (hc : n ≤ cap) :
    Calls Try.prog 29 #[.slice a n cap] w fun e w' => ∃ (v : Value) (st : List (Int × Int)) (x0 : Int), e = .returned (.tuple #[v, .int .i64 x0]) ∧ OwnS w' w.heap.size v st ∧ st.length ≤ 6 ∧ (-1 ≤ x0 ∧ x0 ≤ 2001) ∧ Below w.heap.size w w' := by
  go_enter Try.func29, Try.ntmps29
  go_wp2_with fail
  refine (newReader_any a n cap _ h hc).mono ?_
  rintro e w1 ⟨rfl, h1, b1⟩
  go_wp2_with fail
  refine (someSteps_any _ _ _ _ _ h1 (by omega)).mono ?_
  rintro e w2 ⟨v, st, rfl, o2, l2, h2, g2⟩
  have b2 := below_reader b1 g2
  have ne0 := o2.neBlock (show w.heap.size < w1.heap.size from h1.lt.2)
  go_wp2_with fail
  refine (anIncome_any _ _ _ _ _ h2 (by omega)).mono ?_
  rintro e w3 ⟨x0, rfl, hx0, h3, g3⟩
  have b3 := below_reader b2 g3
  have o3 := o2.kept g3 (.inr ne0)
  have of := o3.base b1.size
  go_wp2
  go_ret2
  exact ⟨_, _, _, rfl, of, l2, hx0, b3⟩

set_option maxHeartbeats 800000 in
theorem DrawRateAt_any (a : Option Addr) (n cap : Nat) (w : World) (h : IsBytes w a n) (hc : n ≤ cap) :
    Calls Try.prog 32 #[.slice a n cap] w fun e w' => ∃ (v : Value) (st : List (Int × Int)) (x0 : Int), e = .returned (.tuple #[v, .int .i64 x0]) ∧ OwnS w' w.heap.size v st ∧ st.length ≤ 6 ∧ (-1 ≤ x0 ∧ x0 ≤ 2001) ∧ Below w.heap.size w w' := by
  go_enter Try.func32, Try.ntmps32
  go_wp2_with fail
  refine (newReader_any a n cap _ h hc).mono ?_
  rintro e w1 ⟨rfl, h1, b1⟩
  go_wp2_with fail
  refine (someSteps_any _ _ _ _ _ h1 (by omega)).mono ?_
  rintro e w2 ⟨v, st, rfl, o2, l2, h2, g2⟩
  have b2 := below_reader b1 g2
  have ne0 := o2.neBlock (show w.heap.size < w1.heap.size from h1.lt.2)
  go_wp2_with fail
  refine (anIncome_any _ _ _ _ _ h2 (by omega)).mono ?_
  rintro e w3 ⟨x0, rfl, hx0, h3, g3⟩
  have b3 := below_reader b2 g3
  have o3 := o2.kept g3 (.inr ne0)
  have of := o3.base b1.size
  go_wp2
  go_ret2
  exact ⟨_, _, _, rfl, of, l2, hx0, b3⟩

set_option maxHeartbeats 800000 in
theorem DrawPairTax_any (a : Option Addr) (n cap : Nat) (w : World) (h : IsBytes w a n) (hc : n ≤ cap) :
    Calls Try.prog 38 #[.slice a n cap] w fun e w' => ∃ (v : Value) (st : List (Int × Int)) (x0 : Int) (x1 : Int), e = .returned (.tuple #[v, .int .i64 x0, .int .i64 x1]) ∧ OwnS w' w.heap.size v st ∧ st.length ≤ 6 ∧ (-1 ≤ x0 ∧ x0 ≤ 2001) ∧ (-1 ≤ x1 ∧ x1 ≤ 2001) ∧ Below w.heap.size w w' := by
  go_enter Try.func38, Try.ntmps38
  go_wp2_with fail
  refine (newReader_any a n cap _ h hc).mono ?_
  rintro e w1 ⟨rfl, h1, b1⟩
  go_wp2_with fail
  refine (someSteps_any _ _ _ _ _ h1 (by omega)).mono ?_
  rintro e w2 ⟨v, st, rfl, o2, l2, h2, g2⟩
  have b2 := below_reader b1 g2
  have ne0 := o2.neBlock (show w.heap.size < w1.heap.size from h1.lt.2)
  go_wp2_with fail
  refine (anIncome_any _ _ _ _ _ h2 (by omega)).mono ?_
  rintro e w3 ⟨x0, rfl, hx0, h3, g3⟩
  have b3 := below_reader b2 g3
  have o3 := o2.kept g3 (.inr ne0)
  have ne1 := o3.neBlock (show w.heap.size < w1.heap.size from h1.lt.2)
  go_wp2_with fail
  refine (anIncome_any _ _ _ _ _ h3 (by omega)).mono ?_
  rintro e w4 ⟨x1, rfl, hx1, h4, g4⟩
  have b4 := below_reader b3 g4
  have o4 := o3.kept g4 (.inr ne1)
  have of := o4.base b1.size
  go_wp2
  refine bodyPost_ret (by simp [results, Try.results38, go_sem]; rfl) rfl ?_
  exact ⟨_, _, _, _, rfl, of, l2, hx0, hx1, b4⟩

end Go.Proofs.Ytmeejaafbbabaaa
