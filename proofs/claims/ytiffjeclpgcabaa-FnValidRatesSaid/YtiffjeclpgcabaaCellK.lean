/- Cells that stay as they were: small laws for drawn regions that make one new box. -/
import Derived.Test.YtiffjeclpgcabaaRatP
namespace Go.Proofs.Ytiffjeclpgcabaa
open Go.RowKit

theorem cell_set2 {W : World} {c : Nat} {u v x : Value} {p : Addr} (h : W.cell? p = some x) (hne : p.block ≠ c) : ((W.setCell ⟨c, 0, none⟩ u).setCell ⟨c, 1, none⟩ v).cell? p = some x :=
  (World.cell?_setCell_other _ _ _ _ (by intro e; exact hne (by rw [← e]))).trans ((World.cell?_setCell_other _ _ _ _ (by intro e; exact hne (by rw [← e]))).trans h)
theorem cell_alloc {W : World} {o : Obj} {x : Value} {p : Addr} (h : W.cell? p = some x) : (W.alloc o).cell? p = some x :=
  (Below.cell ((Below.refl W.heap.size W).alloc (Nat.le_refl _) o) (World.block_lt_of_cell? W _ h)).trans h
theorem cell_below {W W' : World} {x : Value} {p : Addr} (h : W.cell? p = some x) (d : Below W.heap.size W W') : W'.cell? p = some x := (d.cell (World.block_lt_of_cell? W _ h)).trans h
theorem below_set2 {n : Nat} {w W : World} {c : Nat} {u v : Value} (h : Below n w W) (hc : n ≤ c) : Below n w ((W.setCell ⟨c, 0, none⟩ u).setCell ⟨c, 1, none⟩ v) := (h.setCell (p := ⟨c, 0, none⟩) hc _).setCell (p := ⟨c, 1, none⟩) hc _
theorem box_set2 {W : World} {c : Nat} {x y : Value} (h : W.heap[c]? = some (.cells #[x, y] 31 (0, 0))) (u d : Int) : IsBoxR ((W.setCell ⟨c, 0, none⟩ (.int .i64 u)).setCell ⟨c, 1, none⟩ (.int .i64 d)) c u d := by
  have h1 := heap_setCell_same W c 0 _ _ (.int .i64 u) h
  have h2 := heap_setCell_same _ c 1 _ _ (.int .i64 d) h1
  unfold IsBoxR
  rw [h2]
  rfl

/-- A box of two cells that was just made is still there behind a call. -/
theorem newbox_after {W w6 : World} {x y : Value} {t : TypeId} (d : Below ((W.alloc (.cells #[x, y] t))).heap.size ((W.alloc (.cells #[x, y] t))) w6) : w6.cell? ⟨W.heap.size, 0, none⟩ = some x ∧ w6.cell? ⟨W.heap.size, 1, none⟩ = some y ∧ w6.frozen? ⟨W.heap.size, 0, none⟩ = false ∧ w6.frozen? ⟨W.heap.size, 1, none⟩ = false ∧ w6.heap[W.heap.size]? = some (.cells #[x, y] t (0, 0)) := by
  have h : (W.alloc (.cells #[x, y] t)).heap[W.heap.size]? = some (.cells #[x, y] t (0, 0)) := heap_alloc_new W _
  have h2 : w6.heap[W.heap.size]? = some (.cells #[x, y] t (0, 0)) := (d.block _ (Array.getElem?_eq_some_iff.1 h).1).trans h
  refine ⟨?_, ?_, frozen_of_row w6 _ 0 _ _ h2, frozen_of_row w6 _ 1 _ _ h2, h2⟩
  · rw [cell_of_row w6 _ 0 _ _ _ h2]; rfl
  · rw [cell_of_row w6 _ 1 _ _ _ h2]; rfl

theorem newbox_afterD {W w6 : World} {x y : Value} {t : TypeId} (d : Below ((W.alloc (.cells #[x, y] t)).drew).heap.size ((W.alloc (.cells #[x, y] t)).drew) w6) : w6.cell? ⟨W.heap.size, 0, none⟩ = some x ∧ w6.cell? ⟨W.heap.size, 1, none⟩ = some y ∧ w6.frozen? ⟨W.heap.size, 0, none⟩ = false ∧ w6.frozen? ⟨W.heap.size, 1, none⟩ = false ∧ w6.heap[W.heap.size]? = some (.cells #[x, y] t (0, 0)) := by
  have h : (W.alloc (.cells #[x, y] t)).drew.heap[W.heap.size]? = some (.cells #[x, y] t (0, 0)) := heap_alloc_new W _
  have h2 : w6.heap[W.heap.size]? = some (.cells #[x, y] t (0, 0)) := (d.block _ (Array.getElem?_eq_some_iff.1 h).1).trans h
  refine ⟨?_, ?_, frozen_of_row w6 _ 0 _ _ h2, frozen_of_row w6 _ 1 _ _ h2, h2⟩
  · rw [cell_of_row w6 _ 0 _ _ _ h2]; rfl
  · rw [cell_of_row w6 _ 1 _ _ _ h2]; rfl

/-- A box of two cells that was there is still there behind a call. -/
theorem oldbox_after {W w6 : World} {c : Nat} {x y : Value} {t : TypeId} (h : W.heap[c]? = some (.cells #[x, y] t (0, 0))) (d : Below W.heap.size W w6) : w6.cell? ⟨c, 0, none⟩ = some x ∧ w6.cell? ⟨c, 1, none⟩ = some y ∧ w6.frozen? ⟨c, 0, none⟩ = false ∧ w6.frozen? ⟨c, 1, none⟩ = false ∧ w6.heap[c]? = some (.cells #[x, y] t (0, 0)) := by
  have h2 : w6.heap[c]? = some (.cells #[x, y] t (0, 0)) := (d.block _ (Array.getElem?_eq_some_iff.1 h).1).trans h
  refine ⟨?_, ?_, frozen_of_row w6 _ 0 _ _ h2, frozen_of_row w6 _ 1 _ _ h2, h2⟩
  · rw [cell_of_row w6 _ 0 _ _ _ h2]; rfl
  · rw [cell_of_row w6 _ 1 _ _ _ h2]; rfl

end Go.Proofs.Ytiffjeclpgcabaa
