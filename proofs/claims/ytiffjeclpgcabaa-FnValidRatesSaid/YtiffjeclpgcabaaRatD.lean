/- The drawn arguments of the laws of rates. -/
import Derived.Test.YtiffjeclpgcabaaDrwR
import Derived.OwnWalk
namespace Go.Proofs.Ytiffjeclpgcabaa
open Go.RowKit

theorem Rows45.sized {g : List (List (Int × Int))} (h : Rows45 g) : g.length ≤ 9223372036854775807 ∧ ∀ i, i < g.length → (rowR g i).length ≤ 9223372036854775807 := ⟨Nat.le_trans h.1 (by decide), fun i hi => Nat.le_trans (h.2 i hi) (by decide)⟩

set_option maxHeartbeats 800000 in
theorem DrawValidRates_any (a : Option Addr) (n cap : Nat) (w : World) (h : IsBytes w a n) (hc : n ≤ cap) :
    Calls Try.prog 19 #[.slice a n cap] w fun e w' => ∃ v g, e = .returned v ∧ IsGridR w' v g ∧ Rows45 g ∧ Below w.heap.size w w' := by
  go_enter Try.func19, Try.ntmps19
  go_wp2_with fail
  refine (newReader_any a n cap _ h hc).mono ?_
  rintro e w1 ⟨rfl, h1, b1⟩
  go_wp2_with fail
  refine (someRates_any _ _ _ _ _ h1 (by omega)).mono ?_
  rintro e w2 ⟨v, vs, g, rfl, st2, r45⟩
  have b2 := below_reader b1 st2.gr
  have H := Lib.hid st2.tb.table.grid
  clear st2 h1
  go_wp2
  go_ret
  exact ⟨_, _, rfl, H.out, r45, b2⟩

set_option maxHeartbeats 800000 in
theorem DrawGainOf_any (a : Option Addr) (n cap : Nat) (w : World) (h : IsBytes w a n) (hc : n ≤ cap) :
    Calls Try.prog 26 #[.slice a n cap] w fun e w' => ∃ v g, e = .returned v ∧ IsGridR w' v g ∧ Rows45 g ∧ Below w.heap.size w w' := by
  go_enter Try.func26, Try.ntmps26
  go_wp2_with fail
  refine (newReader_any a n cap _ h hc).mono ?_
  rintro e w1 ⟨rfl, h1, b1⟩
  go_wp2_with fail
  refine (someRates_any _ _ _ _ _ h1 (by omega)).mono ?_
  rintro e w2 ⟨v, vs, g, rfl, st2, r45⟩
  have b2 := below_reader b1 st2.gr
  have H := Lib.hid st2.tb.table.grid
  clear st2 h1
  go_wp2
  go_ret
  exact ⟨_, _, rfl, H.out, r45, b2⟩

set_option maxHeartbeats 800000 in
theorem DrawIsClosed_any (a : Option Addr) (n cap : Nat) (w : World) (h : IsBytes w a n) (hc : n ≤ cap) :
    Calls Try.prog 29 #[.slice a n cap] w fun e w' => ∃ v g, e = .returned v ∧ IsGridR w' v g ∧ Rows45 g ∧ Below w.heap.size w w' := by
  go_enter Try.func29, Try.ntmps29
  go_wp2_with fail
  refine (newReader_any a n cap _ h hc).mono ?_
  rintro e w1 ⟨rfl, h1, b1⟩
  go_wp2_with fail
  refine (someRates_any _ _ _ _ _ h1 (by omega)).mono ?_
  rintro e w2 ⟨v, vs, g, rfl, st2, r45⟩
  have b2 := below_reader b1 st2.gr
  have H := Lib.hid st2.tb.table.grid
  clear st2 h1
  go_wp2
  go_ret
  exact ⟨_, _, rfl, H.out, r45, b2⟩

set_option maxHeartbeats 1600000 in
theorem DrawBestRate_any (a : Option Addr) (n cap : Nat) (w : World) (h : IsBytes w a n) (hc : n ≤ cap) :
    Calls Try.prog 22 #[.slice a n cap] w fun e w' => ∃ v g x y, e = .returned (.tuple #[v, .int .i64 x, .int .i64 y]) ∧ IsGridR w' v g ∧ Rows45 g ∧ (-1 ≤ x ∧ x ≤ 4) ∧ (0 ≤ y ∧ y ≤ 3) ∧ Below w.heap.size w w' := by
  go_enter Try.func22, Try.ntmps22
  go_wp2_with fail
  refine (newReader_any a n cap _ h hc).mono ?_
  rintro e w1 ⟨rfl, h1, b1⟩
  go_wp2_with fail
  refine (someRates_any _ _ _ _ _ h1 (by omega)).mono ?_
  rintro e w2 ⟨v, vs, g, rfl, st2, r45⟩
  have hR2 := h1.lt.2
  go_wp2_with fail
  refine (one_lit [0, 1, 2, 4, -1] _ 5 rfl rfl _ _ _ a _ _ st2.rd (by omega) (by simp) (by simp) (by first | rfl | simp)).mono ?_
  rintro e w3 ⟨x, rfl, hx, h3, g3⟩
  have hx9 : -1 ≤ x ∧ x ≤ 4 := by
    simp only [List.mem_cons, List.not_mem_nil, or_false] at hx
    omega
  have st3 := st2.pick hR2 h3 g3
  clear hx st2 h3 g3
  go_wp2_with fail
  refine (one_lit [1, 0, 2, 3] _ 4 rfl rfl _ _ _ a _ _ st3.rd (by omega) (by simp) (by simp) (by first | rfl | simp)).mono ?_
  rintro e w4 ⟨y, rfl, hy, h4, g4⟩
  have hy9 : 0 ≤ y ∧ y ≤ 3 := by
    simp only [List.mem_cons, List.not_mem_nil, or_false] at hy
    omega
  have st4 := st3.pick hR2 h4 g4
  have b4 := below_reader b1 st4.gr
  have H := Lib.hid st4.tb.table.grid
  clear hy st3 st4 h4 g4 h1
  go_wp2
  go_ret3
  exact ⟨_, _, _, _, rfl, H.out, r45, hx9, hy9, b4⟩

end Go.Proofs.Ytiffjeclpgcabaa
