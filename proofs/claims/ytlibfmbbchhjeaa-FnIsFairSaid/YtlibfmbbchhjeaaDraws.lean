/- The drawn arguments of the functions of shares. -/
import Derived.Test.YtlibfmbbchhjeaaDraw
import Derived.OwnWalk
namespace Go.Proofs.Ytlibfmbbchhjeaa
open Go.RowKit

set_option maxHeartbeats 800000 in
theorem DrawValidParts_any (a : Option Addr) (n cap : Nat) (w : World) (h : IsBytes w a n) (hc : n ≤ cap) :
    Calls Try.prog 17 #[.slice a n cap] w fun e w' => ∃ v xs, e = .returned v ∧ Own w' w.heap.size v xs ∧ Weights xs ∧ Below w.heap.size w w' := by
  go_enter Try.func17, Try.ntmps17
  go_wp2_with fail
  refine (newReader_any a n cap _ h hc).mono ?_
  rintro e w1 ⟨rfl, h1, b1⟩
  go_wp2_with fail
  refine (someWeights_any _ _ _ _ _ h1 (by omega)).mono ?_
  rintro e w2 ⟨v, xs, rfl, o2, wx, h2, g2⟩
  have b2 := below_reader b1 g2
  have o3 := o2.base b1.size
  go_wp2
  go_ret
  exact ⟨_, _, rfl, o3, wx, b2⟩

set_option maxHeartbeats 800000 in
theorem DrawShareByRest_any (a : Option Addr) (n cap : Nat) (w : World) (h : IsBytes w a n) (hc : n ≤ cap) :
    Calls Try.prog 20 #[.slice a n cap] w fun e w' => ∃ t v xs, e = .returned (.tuple #[.int .i64 t, v]) ∧ (-1 ≤ t ∧ t ≤ 100001) ∧ Own w' w.heap.size v xs ∧ Weights xs ∧ Below w.heap.size w w' := by
  go_enter Try.func20, Try.ntmps20
  go_wp2_with fail
  refine (newReader_any a n cap _ h hc).mono ?_
  rintro e w1 ⟨rfl, h1, b1⟩
  go_wp2_with fail
  refine (aTotal_any _ _ _ _ _ h1 (by omega)).mono ?_
  rintro e w2 ⟨t, rfl, ht, h2, g2⟩
  have b2 := below_reader b1 g2
  go_wp2_with fail
  refine (someWeights_any _ _ _ _ _ h2 (by omega)).mono ?_
  rintro e w3 ⟨v, xs, rfl, o3, wx, h3, g3⟩
  have b3 := below_reader b2 g3
  have o4 := o3.base b2.size
  go_wp2
  go_ret2
  exact ⟨_, _, _, rfl, ht, o4, wx, b3⟩

set_option maxHeartbeats 800000 in
theorem DrawShareBySums_any (a : Option Addr) (n cap : Nat) (w : World) (h : IsBytes w a n) (hc : n ≤ cap) :
    Calls Try.prog 26 #[.slice a n cap] w fun e w' => ∃ t v xs, e = .returned (.tuple #[.int .i64 t, v]) ∧ (-1 ≤ t ∧ t ≤ 100001) ∧ Own w' w.heap.size v xs ∧ Weights xs ∧ Below w.heap.size w w' := by
  go_enter Try.func26, Try.ntmps26
  go_wp2_with fail
  refine (newReader_any a n cap _ h hc).mono ?_
  rintro e w1 ⟨rfl, h1, b1⟩
  go_wp2_with fail
  refine (aTotal_any _ _ _ _ _ h1 (by omega)).mono ?_
  rintro e w2 ⟨t, rfl, ht, h2, g2⟩
  have b2 := below_reader b1 g2
  go_wp2_with fail
  refine (someWeights_any _ _ _ _ _ h2 (by omega)).mono ?_
  rintro e w3 ⟨v, xs, rfl, o3, wx, h3, g3⟩
  have b3 := below_reader b2 g3
  have o4 := o3.base b2.size
  go_wp2
  go_ret2
  exact ⟨_, _, _, rfl, ht, o4, wx, b3⟩

set_option maxHeartbeats 800000 in
theorem DrawSplitEven_any (a : Option Addr) (n cap : Nat) (w : World) (h : IsBytes w a n) (hc : n ≤ cap) :
    Calls Try.prog 29 #[.slice a n cap] w fun e w' => ∃ t m, e = .returned (.tuple #[.int .i64 t, .int .i64 m]) ∧ (-1 ≤ t ∧ t ≤ 100001) ∧ (0 ≤ m ∧ m ≤ 9) ∧ Below w.heap.size w w' := by
  go_enter Try.func29, Try.ntmps29
  go_wp2_with fail
  refine (newReader_any a n cap _ h hc).mono ?_
  rintro e w1 ⟨rfl, h1, b1⟩
  go_wp2_with fail
  refine (aTotal_any _ _ _ _ _ h1 (by omega)).mono ?_
  rintro e w2 ⟨t, rfl, ht, h2, g2⟩
  have b2 := below_reader b1 g2
  go_wp2_with fail
  refine (one_lit [3, 4, 2, 7, 1, 8, 0, 9] _ 8 rfl rfl _ _ _ _ _ _ h2 (by omega) (by simp) (by simp) rfl).mono ?_
  rintro e w3 ⟨m, rfl, hm, h3, g3⟩
  have hmb : 0 ≤ m ∧ m ≤ 9 := by
    simp only [List.mem_cons, List.not_mem_nil, or_false] at hm
    omega
  have b3 := below_reader b2 g3
  clear hm
  go_wp2
  go_ret2
  exact ⟨_, _, rfl, ht, hmb, b3⟩

end Go.Proofs.Ytlibfmbbchhjeaa
