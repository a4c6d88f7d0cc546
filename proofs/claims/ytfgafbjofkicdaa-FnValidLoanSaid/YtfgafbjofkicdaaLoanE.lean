/- Drawn arguments of the laws of loans: loans. -/
import Derived.Test.YtfgafbjofkicdaaLoanA
import Derived.Test.YtfgafbjofkicdaaLoanT
namespace Go.Proofs.Ytfgafbjofkicdaa
open Go.RowKit

theorem bytes_below {w w' : World} {a : Option Addr} {n : Nat} (h : IsBytes w a n) (hb : Below w.heap.size w w') : IsBytes w' a n :=
  h.below hb (fun b hb h0 => by
    obtain ⟨b', off, x, rfl, hcell, _⟩ := h 0 h0
    simp at hb
    subst hb
    exact World.block_lt_of_cell? w _ hcell)

set_option maxHeartbeats 1600000 in
theorem DrawValidLoan_any (a : Option Addr) (n cap : Nat) (w : World) (h : IsBytes w a n) (hc : n ≤ cap) :
    Calls Try.prog 19 #[.slice a n cap] w fun e w' => ∃ A P B T, e = .returned (lv A P B T) ∧ Below w.heap.size w w' := by
  have r0 := IsBoxL.new w 0 0 0 0
  have b0 : Below w.heap.size w (w.alloc (.cells #[.int .i64 0, .int .i64 0, .int .i64 0, .int .i64 0] 24)) := (Below.refl _ _).alloc (Nat.le_refl _) _
  have h0 := bytes_below h b0
  have z0 := b0.size
  go_enter Try.func19, Try.ntmps19
  go_wp2_with fail
  generalize w.alloc (.cells #[.int .i64 0, .int .i64 0, .int .i64 0, .int .i64 0] 24) = w0 at *
  refine (newReader_any a n cap _ h0 hc).mono ?_
  rintro e w1 ⟨rfl, h1, b1⟩
  have hl := r0.lt
  have r1 : IsBoxL w1 w.heap.size 0 0 0 0 := (b1.block _ hl).trans r0
  have b2 : Below w.heap.size w w1 := b0.trans (b1.mono b0.size)
  clear r0 b0 h0
  go_wp2_with fail
  refine (aLoan_any _ _ a 0 _ h1 (by omega)).mono ?_
  rintro e w2 ⟨A, P, B, T, rfl, h2, g2⟩
  have r2 := r1.kept g2 (by simp; omega)
  have b3 : Below w.heap.size w w2 := b2.trans (below_grown g2 b2.size (fun k hk => by cases hk; exact z0))
  clear r1 g2 h2 h1 b2
  go_wp2_with (refine wpList_store_row rfl 24 _ _ rfl w.heap.size #[.int .i64 A, .int .i64 P, .int .i64 B, .int .i64 T] rfl rfl 24 _ r2 (by kernel_rfl) rfl (by simp [Value.oneCell']) ?_)
  exact bodyPost_ret (v := lv A P B T) (results_cell_row rfl _ _ w.heap.size 24 _ (0, 0) _ rfl (setRow_heap _ _ _ _ _ _ r2) Try.underlying24 rfl (by kernel_rfl)) rfl ⟨A, P, B, T, rfl, below_setRow b3 (Nat.le_refl _) _⟩

set_option maxHeartbeats 1600000 in
theorem DrawLeastPay_any (a : Option Addr) (n cap : Nat) (w : World) (h : IsBytes w a n) (hc : n ≤ cap) :
    Calls Try.prog 30 #[.slice a n cap] w fun e w' => ∃ A P B T, e = .returned (lv A P B T) ∧ Below w.heap.size w w' := by
  have r0 := IsBoxL.new w 0 0 0 0
  have b0 : Below w.heap.size w (w.alloc (.cells #[.int .i64 0, .int .i64 0, .int .i64 0, .int .i64 0] 24)) := (Below.refl _ _).alloc (Nat.le_refl _) _
  have h0 := bytes_below h b0
  have z0 := b0.size
  go_enter Try.func30, Try.ntmps30
  go_wp2_with fail
  generalize w.alloc (.cells #[.int .i64 0, .int .i64 0, .int .i64 0, .int .i64 0] 24) = w0 at *
  refine (newReader_any a n cap _ h0 hc).mono ?_
  rintro e w1 ⟨rfl, h1, b1⟩
  have hl := r0.lt
  have r1 : IsBoxL w1 w.heap.size 0 0 0 0 := (b1.block _ hl).trans r0
  have b2 : Below w.heap.size w w1 := b0.trans (b1.mono b0.size)
  clear r0 b0 h0
  go_wp2_with fail
  refine (aLoan_any _ _ a 0 _ h1 (by omega)).mono ?_
  rintro e w2 ⟨A, P, B, T, rfl, h2, g2⟩
  have r2 := r1.kept g2 (by simp; omega)
  have b3 : Below w.heap.size w w2 := b2.trans (below_grown g2 b2.size (fun k hk => by cases hk; exact z0))
  clear r1 g2 h2 h1 b2
  go_wp2_with (refine wpList_store_row rfl 24 _ _ rfl w.heap.size #[.int .i64 A, .int .i64 P, .int .i64 B, .int .i64 T] rfl rfl 24 _ r2 (by kernel_rfl) rfl (by simp [Value.oneCell']) ?_)
  exact bodyPost_ret (v := lv A P B T) (results_cell_row rfl _ _ w.heap.size 24 _ (0, 0) _ rfl (setRow_heap _ _ _ _ _ _ r2) Try.underlying24 rfl (by kernel_rfl)) rfl ⟨A, P, B, T, rfl, below_setRow b3 (Nat.le_refl _) _⟩


end Go.Proofs.Ytfgafbjofkicdaa
