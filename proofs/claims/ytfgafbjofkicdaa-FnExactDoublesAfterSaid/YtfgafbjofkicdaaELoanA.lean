/- The exact laws of chapter 4: numbers and loans. -/
import Derived.Test.YtfgafbjofkicdaaBkV
import Derived.Test.YtfgafbjofkicdaaBkS
import Derived.Test.YtfgafbjofkicdaaBkD
import Derived.Test.YtfgafbjofkicdaaLoanL
import Derived.Test.YtfgafbjofkicdaaLoanV
import Derived.Test.YtfgafbjofkicdaaOwn
import Derived.Test.YtfgafbjofkicdaaAp
namespace Go.Proofs.Ytfgafbjofkicdaa
open Go.RowKit

/-- Four cells of the block b hold a loan. -/
def HasL (w : World) (b : Nat) (A P B T : Int) : Prop := w.cell? ⟨b, 0, none⟩ = some (.int .i64 A) ∧ w.cell? ⟨b, 1, none⟩ = some (.int .i64 P) ∧ w.cell? ⟨b, 2, none⟩ = some (.int .i64 B) ∧ w.cell? ⟨b, 3, none⟩ = some (.int .i64 T)

theorem HasL.new (w : World) (A P B T : Int) (t : TypeId) : HasL (w.alloc (.cells #[.int .i64 A, .int .i64 P, .int .i64 B, .int .i64 T] t)) w.heap.size A P B T := by
  have h : (w.alloc (.cells #[.int .i64 A, .int .i64 P, .int .i64 B, .int .i64 T] t)).heap[w.heap.size]? = some (.cells #[.int .i64 A, .int .i64 P, .int .i64 B, .int .i64 T] t (0, 0)) := World.alloc_heap_new w _
  refine ⟨?_, ?_, ?_, ?_⟩
  · rw [cell_of_row _ _ 0 _ _ _ h]; rfl
  · rw [cell_of_row _ _ 1 _ _ _ h]; rfl
  · rw [cell_of_row _ _ 2 _ _ _ h]; rfl
  · rw [cell_of_row _ _ 3 _ _ _ h]; rfl

theorem HasL.below {w w' : World} {b : Nat} {A P B T : Int} (h : HasL w b A P B T) (hb : Below w.heap.size w w') : HasL w' b A P B T :=
  ⟨(hb.cell (p := ⟨b, 0, none⟩) (World.block_lt_of_cell? w _ h.1)).trans h.1, (hb.cell (p := ⟨b, 1, none⟩) (World.block_lt_of_cell? w _ h.2.1)).trans h.2.1, (hb.cell (p := ⟨b, 2, none⟩) (World.block_lt_of_cell? w _ h.2.2.1)).trans h.2.2.1, (hb.cell (p := ⟨b, 3, none⟩) (World.block_lt_of_cell? w _ h.2.2.2)).trans h.2.2.2⟩

theorem HasL.kept {w w' : World} {b : Nat} {A P B T : Int} {row : Option Nat} (h : HasL w b A P B T) (g : w.grownBy w' row) (hne : row ≠ some b) : HasL w' b A P B T :=
  ⟨(g.cell_far ⟨b, 0, none⟩ (World.block_lt_of_cell? w _ h.1) (fun e => hne e.symm)).trans h.1, (g.cell_far ⟨b, 1, none⟩ (World.block_lt_of_cell? w _ h.2.1) (fun e => hne e.symm)).trans h.2.1, (g.cell_far ⟨b, 2, none⟩ (World.block_lt_of_cell? w _ h.2.2.1) (fun e => hne e.symm)).trans h.2.2.1, (g.cell_far ⟨b, 3, none⟩ (World.block_lt_of_cell? w _ h.2.2.2) (fun e => hne e.symm)).trans h.2.2.2⟩

set_option maxHeartbeats 1600000 in
theorem FnExactValidLoan_walk (A P B T : Int) (w : World) :
    Calls Try.prog 11 #[.agg #[.int .i64 A, .int .i64 P, .int .i64 B, .int .i64 T]] w fun e w' => e = .returned (.bool true) ∧ Below w.heap.size w w' := by
  have hb : Below w.heap.size w (w.alloc (.cells #[.int .i64 A, .int .i64 P, .int .i64 B, .int .i64 T] 45)) := (Below.refl _ _).alloc (Nat.le_refl _) _
  have h0 := HasL.new w A P B T 45
  obtain ⟨c0, c1, c2, c3⟩ := id h0
  go_enter Try.func11, Try.ntmps11
  go_wp2_with fail
  generalize w.alloc (.cells #[.int .i64 A, .int .i64 P, .int .i64 B, .int .i64 T] 45) = w0 at *
  refine (toLoan_any A P B T _).mono ?_
  rintro e w1 ⟨rfl, hb1⟩
  have b1 : Below w.heap.size w w1 := hb.trans (hb1.mono hb.size)
  have h1 := h0.below hb1
  clear hb c0 c1 c2 c3 h0
  go_wp2_with fail
  refine (ValidLoan_spec A P B T _).mono ?_
  rintro e w2 ⟨rfl, hb2⟩
  have b2 : Below w.heap.size w w2 := b1.trans (hb2.mono b1.size)
  have h2 := h1.below hb2
  clear hb1 b1 h1
  obtain ⟨c0, c1, c2, c3⟩ := id h2
  go_wp2_with fail
  refine (toLoan_any A P B T _).mono ?_
  rintro e w3 ⟨rfl, hb3⟩
  have b3 : Below w.heap.size w w3 := b2.trans (hb3.mono b2.size)
  clear hb2 b2 h2 c0 c1 c2 c3
  go_wp2_with fail
  refine (ValidLoan_impl A P B T _).mono ?_
  rintro e w4 ⟨rfl, hb4⟩
  have b4 : Below w.heap.size w w4 := b3.trans (hb4.mono b3.size)
  clear hb3 b3 hb4
  generalize vLoan A P B T = V at *
  go_wp2
  go_ret
  exact ⟨rfl, b4⟩

set_option maxHeartbeats 1600000 in
theorem FnExactLeastPay_walk (A P B T : Int) (w : World) :
    Calls Try.prog 14 #[.agg #[.int .i64 A, .int .i64 P, .int .i64 B, .int .i64 T]] w fun e w' => e = .returned (.bool true) ∧ Below w.heap.size w w' := by
  have hb : Below w.heap.size w (w.alloc (.cells #[.int .i64 A, .int .i64 P, .int .i64 B, .int .i64 T] 45)) := (Below.refl _ _).alloc (Nat.le_refl _) _
  have h0 := HasL.new w A P B T 45
  obtain ⟨c0, c1, c2, c3⟩ := id h0
  go_enter Try.func14, Try.ntmps14
  go_wp2_with fail
  generalize w.alloc (.cells #[.int .i64 A, .int .i64 P, .int .i64 B, .int .i64 T] 45) = w0 at *
  refine (toLoan_any A P B T _).mono ?_
  rintro e w1 ⟨rfl, hb1⟩
  have b1 : Below w.heap.size w w1 := hb.trans (hb1.mono hb.size)
  have h1 := h0.below hb1
  clear hb c0 c1 c2 c3 h0
  go_wp2_with fail
  refine (LeastPay_spec A P B T _).mono ?_
  rintro e w2 ⟨rfl, hb2⟩
  have b2 : Below w.heap.size w w2 := b1.trans (hb2.mono b1.size)
  have h2 := h1.below hb2
  clear hb1 b1 h1
  obtain ⟨c0, c1, c2, c3⟩ := id h2
  go_wp2_with fail
  refine (toLoan_any A P B T _).mono ?_
  rintro e w3 ⟨rfl, hb3⟩
  have b3 : Below w.heap.size w w3 := b2.trans (hb3.mono b2.size)
  clear hb2 b2 h2 c0 c1 c2 c3
  go_wp2_with fail
  refine (LeastPay_impl A P B T _).mono ?_
  rintro e w4 ⟨rfl, hb4⟩
  have b4 : Below w.heap.size w w4 := b3.trans (hb4.mono b3.size)
  clear hb3 b3 hb4
  generalize leastV A P B T = V at *
  go_wp2
  go_ret
  exact ⟨rfl, b4⟩

set_option maxHeartbeats 800000 in
theorem FnExactInterestOf_walk (a p b : Int) (w : World) (_ha : -9223372036854775808 ≤ a ∧ a ≤ 9223372036854775807) (_hp : -9223372036854775808 ≤ p ∧ p ≤ 9223372036854775807) (_hb : -9223372036854775808 ≤ b ∧ b ≤ 9223372036854775807) :
    Calls Try.prog 12 #[.int .i64 a, .int .i64 p, .int .i64 b] w fun e w' => e = .returned (.bool true) ∧ Below w.heap.size w w' := by
  go_enter Try.func12, Try.ntmps12
  go_wp2_with fail
  refine (InterestOf_spec a p b _).mono ?_
  rintro e w1 ⟨rfl, rfl⟩
  go_wp2_with fail
  refine (InterestOf_impl a p b _).mono ?_
  rintro e w2 ⟨rfl, rfl⟩
  generalize interestV a p b = V at *
  go_wp2
  go_ret
  exact ⟨rfl, Below.refl _ _⟩

set_option maxHeartbeats 800000 in
theorem FnExactDoublesAfter_walk (p b : Int) (w : World) (_hp : -9223372036854775808 ≤ p ∧ p ≤ 9223372036854775807) (_hb : -9223372036854775808 ≤ b ∧ b ≤ 9223372036854775807) :
    Calls Try.prog 18 #[.int .i64 p, .int .i64 b] w fun e w' => e = .returned (.bool true) ∧ Below w.heap.size w w' := by
  go_enter Try.func18, Try.ntmps18
  go_wp2_with fail
  refine (DoublesAfter_spec p b _).mono ?_
  rintro e w1 ⟨rfl, rfl⟩
  go_wp2_with fail
  refine (DoublesAfter_impl p b _).mono ?_
  rintro e w2 ⟨rfl, rfl⟩
  generalize dblV p b = V at *
  go_wp2
  go_ret
  exact ⟨rfl, Below.refl _ _⟩

end Go.Proofs.Ytfgafbjofkicdaa
