/- Loans: copied by the laws. -/
import Derived.Test.YtfgafbjofkicdaaLoanT
import Derived.Lib.SmallJoins
namespace Go.Proofs.Ytfgafbjofkicdaa
open Go.RowKit

/-- The block b holds a loan alone. -/
def IsBoxL (w : World) (b : Nat) (A P B T : Int) : Prop := w.heap[b]? = some (.cells #[.int .i64 A, .int .i64 P, .int .i64 B, .int .i64 T] 24 (0, 0))

theorem heap_alloc2_newL (w : World) (o o' : Obj) : ((w.alloc o).alloc o').heap[w.heap.size + 1]? = some o' := by
  have := heap_alloc_new (w.alloc o) o'
  rwa [show (w.alloc o).heap.size = w.heap.size + 1 by simp] at this

set_option maxHeartbeats 400000 in
theorem toLoan_any (A P B T : Int) (w : World) :
    Calls Try.prog 46 #[.agg #[.int .i64 A, .int .i64 P, .int .i64 B, .int .i64 T]] w fun e w' => e = .returned (lv A P B T) ∧ Below w.heap.size w w' := by
  go_enter Try.func46, Try.ntmps46
  go_wp2
  have hbx : IsBoxL (((w.alloc (.cells #[.int .i64 A, .int .i64 P, .int .i64 B, .int .i64 T] 45)).alloc (.cells #[.int .i64 A, .int .i64 P, .int .i64 B, .int .i64 T] 24)).alloc (.cells #[.int .i64 A, .int .i64 P, .int .i64 B, .int .i64 T] 24)) (w.heap.size + 1) A P B T :=
    (Below.heap_alloc _ _ _ (by simp)).trans (heap_alloc2_newL _ _ _)
  exact bodyPost_ret (v := lv A P B T) (results_cell_row rfl _ _ (w.heap.size + 1) 24 _ (0, 0) _ rfl hbx Try.underlying24 rfl (by kernel_rfl)) rfl ⟨rfl, (((Below.refl _ _).alloc (Nat.le_refl _) _).alloc (by simp) _).alloc (by simp; omega) _⟩

end Go.Proofs.Ytfgafbjofkicdaa
