/- The exact law of Exchange. -/
import Derived.Test.YtiffjeclpgcabaaCarI
namespace Go.Proofs.Ytiffjeclpgcabaa
open Go.RowKit

theorem heap_alloc2_newX (w : World) (o o' : Obj) : ((w.alloc o).alloc o').heap[w.heap.size + 1]? = some o' := by
  have := heap_alloc_new (w.alloc o) o'
  rwa [show (w.alloc o).heap.size = w.heap.size + 1 by simp] at this

theorem IsBoxR.allocX {w : World} {b : Nat} {u d : Int} (h : IsBoxR w b u d) (o : Obj) : IsBoxR (w.alloc o) b u d := h.below ((Below.refl _ _).alloc (Nat.le_refl _) _)

set_option maxHeartbeats 400000 in
theorem toRatio_anyX (f r : Int) (w : World) :
    Calls Try.prog 51 #[.agg #[.int .i64 f, .int .i64 r]] w fun e w' => e = .returned (rv f r) ∧ Below w.heap.size w w' := by
  go_enter Try.func51, Try.ntmps51
  go_wp2
  have hbx : IsBoxR (((w.alloc (.cells #[.int .i64 f, .int .i64 r] 58)).alloc (.cells #[.int .i64 f, .int .i64 r] 31)).alloc (.cells #[.int .i64 f, .int .i64 r] 31)) (w.heap.size + 1) f r :=
    IsBoxR.allocX (heap_alloc2_newX _ _ _) _
  exact bodyPost_ret (v := rv f r) (results_cell_row rfl _ _ (w.heap.size + 1) 31 _ (0, 0) _ rfl hbx Try.underlying31 rfl (by kernel_rfl)) rfl ⟨rfl, (((Below.refl _ _).alloc (Nat.le_refl _) _).alloc (by simp) _).alloc (by simp; omega) _⟩

/-- Two cells of the block b hold a ratio. -/
def HasR (w : World) (b : Nat) (u d : Int) : Prop := w.cell? ⟨b, 0, none⟩ = some (.int .i64 u) ∧ w.cell? ⟨b, 1, none⟩ = some (.int .i64 d)

theorem HasR.new (w : World) (u d : Int) (t : TypeId) : HasR (w.alloc (.cells #[.int .i64 u, .int .i64 d] t)) w.heap.size u d := by
  have h : (w.alloc (.cells #[.int .i64 u, .int .i64 d] t)).heap[w.heap.size]? = some (.cells #[.int .i64 u, .int .i64 d] t (0, 0)) := heap_alloc_new w _
  refine ⟨?_, ?_⟩
  · rw [cell_of_row _ _ 0 _ _ _ h]; rfl
  · rw [cell_of_row _ _ 1 _ _ _ h]; rfl

theorem HasR.below {w w' : World} {b : Nat} {u d : Int} (h : HasR w b u d) (hb : Below w.heap.size w w') : HasR w' b u d :=
  ⟨(hb.cell (p := ⟨b, 0, none⟩) (World.block_lt_of_cell? w _ h.1)).trans h.1, (hb.cell (p := ⟨b, 1, none⟩) (World.block_lt_of_cell? w _ h.2)).trans h.2⟩

set_option maxHeartbeats 1600000 in
theorem FnExactExchange_walk (x u d : Int) (w : World) (_hx : -9223372036854775808 ≤ x ∧ x ≤ 9223372036854775807) :
    Calls Try.prog 15 #[.int .i64 x, .agg #[.int .i64 u, .int .i64 d]] w fun e w' => e = .returned (.bool true) ∧ Below w.heap.size w w' := by
  have hb : Below w.heap.size w (w.alloc (.cells #[.int .i64 u, .int .i64 d] 58)) := (Below.refl _ _).alloc (Nat.le_refl _) _
  have h0 := HasR.new w u d 58
  obtain ⟨c0, c1⟩ := id h0
  go_enter Try.func15, Try.ntmps15
  go_wp2_with fail
  generalize w.alloc (.cells #[.int .i64 u, .int .i64 d] 58) = w0 at *
  refine (toRatio_anyX u d _).mono ?_
  rintro e w1 ⟨rfl, hb1⟩
  have b1 : Below w.heap.size w w1 := hb.trans (hb1.mono hb.size)
  have h1 := h0.below hb1
  clear hb c0 c1 h0
  go_wp2_with fail
  refine (Exchange_spec x u d _).mono ?_
  rintro e w2 ⟨rfl, hb2⟩
  have b2 : Below w.heap.size w w2 := b1.trans (hb2.mono b1.size)
  have h2 := h1.below hb2
  clear hb1 b1 h1
  obtain ⟨c0, c1⟩ := id h2
  go_wp2_with fail
  refine (toRatio_anyX u d _).mono ?_
  rintro e w3 ⟨rfl, hb3⟩
  have b3 : Below w.heap.size w w3 := b2.trans (hb3.mono b2.size)
  clear hb2 b2 h2 c0 c1
  go_wp2_with fail
  refine (Exchange_impl x u d _).mono ?_
  rintro e w4 ⟨rfl, hb4⟩
  have b4 : Below w.heap.size w w4 := b3.trans (hb4.mono b3.size)
  clear hb3 b3 hb4
  generalize exchV x u d = V at *
  go_wp2
  go_ret
  exact ⟨rfl, b4⟩

end Go.Proofs.Ytiffjeclpgcabaa
