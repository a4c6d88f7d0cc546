/- Drawn arguments of the laws of loans: numbers. -/
import Derived.Test.YtfgafbjofkicdaaLoanS
import Derived.Test.YtfgafbjofkicdaaReadH
namespace Go.Proofs.Ytfgafbjofkicdaa
open Go.RowKit

set_option maxHeartbeats 1600000 in
theorem DrawDoublesAfter_any (a : Option Addr) (n cap : Nat) (w : World) (h : IsBytes w a n) (hc : n ≤ cap) :
    Calls Try.prog 43 #[.slice a n cap] w fun e w' => ∃ x y, e = .returned (.tuple #[.int .i64 x, .int .i64 y]) ∧ Below w.heap.size w w' := by
  go_enter Try.func43, Try.ntmps43
  go_wp2_with fail
  refine (newReader_any a n cap _ h hc).mono ?_
  rintro e w1 ⟨rfl, h1, b1⟩
  go_wp2_with fail
  refine (one_lit [1, 2, 3, 5, 10, 0, 11] _ 7 rfl rfl _ _ _ _ _ _ h1 (by omega) (by simp) (by simp) rfl).mono ?_
  rintro e w2 ⟨x, rfl, hx, h2, g2⟩
  clear hx
  go_wp2_with fail
  refine (one_lit [10, 7, 4, 3, 1, 0, 11] _ 7 rfl rfl _ _ _ _ _ _ h2 (by omega) (by simp) (by simp) rfl).mono ?_
  rintro e w3 ⟨y, rfl, hy, h3, g3⟩
  have hb : Below w.heap.size w w3 := below_reader b1 (g2.trans g3)
  clear hy h3 g2 g3 b1 h1 h2
  go_wp2
  go_ret2
  exact ⟨x, y, rfl, hb⟩

set_option maxHeartbeats 1600000 in
theorem DrawLastPaid_any (a : Option Addr) (n cap : Nat) (w : World) (h : IsBytes w a n) (hc : n ≤ cap) :
    Calls Try.prog 36 #[.slice a n cap] w fun e w' => ∃ x y, e = .returned (.tuple #[.int .i64 x, .int .i64 y]) ∧ Below w.heap.size w w' := by
  go_enter Try.func36, Try.ntmps36
  go_wp2_with fail
  refine (newReader_any a n cap _ h hc).mono ?_
  rintro e w1 ⟨rfl, h1, b1⟩
  go_wp2_with fail
  refine (pick_has 256 _ _ a _ _ h1 (by omega) (by omega)).mono ?_
  rintro e w2 ⟨y1, rfl, _, h2, g2⟩
  go_wp2_with fail
  refine (pick_has 250 _ _ a _ _ h2 (by omega) (by omega)).mono ?_
  rintro e w3 ⟨y2, rfl, ⟨p0, p1, _⟩, h3, g3⟩
  have p2 := p1 (by omega)
  go_wp2_with fail
  refine (one_lit [y1, 4 * y2, 1000, 0, 1001, -1] _ 6 rfl rfl _ _ _ _ _ _ h3 (by omega) (by simp) (by simp) rfl).mono ?_
  rintro e w4 ⟨x, rfl, hx, h4, g4⟩
  clear hx
  go_wp2_with fail
  refine (one_lit [3, 4, 7, 8, 1, 0, 9] _ 7 rfl rfl _ _ _ _ _ _ h4 (by omega) (by simp) (by simp) rfl).mono ?_
  rintro e w5 ⟨y, rfl, hy, h5, g5⟩
  have hb : Below w.heap.size w w5 := below_reader b1 (((g2.trans g3).trans g4).trans g5)
  clear hy h5 g2 g3 g4 g5 b1 h1 h2 h3 h4 p0 p1 p2
  go_wp2
  go_ret2
  exact ⟨x, y, rfl, hb⟩

set_option maxHeartbeats 1600000 in
theorem DrawInterestOf_any (a : Option Addr) (n cap : Nat) (w : World) (h : IsBytes w a n) (hc : n ≤ cap) :
    Calls Try.prog 22 #[.slice a n cap] w fun e w' => ∃ x y z, e = .returned (.tuple #[.int .i64 x, .int .i64 y, .int .i64 z]) ∧ Below w.heap.size w w' := by
  go_enter Try.func22, Try.ntmps22
  go_wp2_with fail
  refine (newReader_any a n cap _ h hc).mono ?_
  rintro e w1 ⟨rfl, h1, b1⟩
  go_wp2_with fail
  refine (pick_has 256 _ _ a _ _ h1 (by omega) (by omega)).mono ?_
  rintro e w2 ⟨y1, rfl, _, h2, g2⟩
  go_wp2_with fail
  refine (pick_has 250 _ _ a _ _ h2 (by omega) (by omega)).mono ?_
  rintro e w3 ⟨y2, rfl, ⟨p0, p1, _⟩, h3, g3⟩
  have p2 := p1 (by omega)
  go_wp2_with fail
  refine (one_lit [y1, 4 * y2, 1000, 0, 1001, -1] _ 6 rfl rfl _ _ _ _ _ _ h3 (by omega) (by simp) (by simp) rfl).mono ?_
  rintro e w4 ⟨x, rfl, hx, h4, g4⟩
  clear hx
  go_wp2_with fail
  refine (one_lit [1, 2, 0, 5, 10, 11, -1] _ 7 rfl rfl _ _ _ _ _ _ h4 (by omega) (by simp) (by simp) rfl).mono ?_
  rintro e w5 ⟨y, rfl, hy, h5, g5⟩
  clear hy
  go_wp2_with fail
  refine (one_lit [10, 4, 3, 1, 0, 11] _ 6 rfl rfl _ _ _ _ _ _ h5 (by omega) (by simp) (by simp) rfl).mono ?_
  rintro e w6 ⟨z, rfl, hz, h6, g6⟩
  have hb : Below w.heap.size w w6 := below_reader b1 ((((g2.trans g3).trans g4).trans g5).trans g6)
  clear hz h6 g2 g3 g4 g5 g6 b1 h1 h2 h3 h4 h5 p0 p1 p2
  go_wp2
  go_ret3
  exact ⟨x, y, z, rfl, hb⟩

end Go.Proofs.Ytfgafbjofkicdaa
