/- The best rates, in the program: one way on. (Printed by wip/gen_bestto.py.) -/
import Derived.Test.YtiffjeclpgcabaaBstR
import Derived.Deep.CutRange
import Derived.Deep.RegionHeld3
import Derived.Deep.RegionLaw
namespace Go.Proofs.Ytiffjeclpgcabaa
open Go.RowKit

/-- The value of a rate on a way: its product, its last money, the moneys ahead of it. -/
abbrev kv (u d : Int) (l : Nat) (U : Nat → Bool) : Value := .agg #[.int .i64 u, .int .i64 d, .int .i64 l, .bool (U 0), .bool (U 1), .bool (U 2), .bool (U 3)]

/-- A rate on a way, in a block of its own. -/
def IsBoxK (w : World) (b : Nat) (u d : Int) (l : Nat) (U : Nat → Bool) : Prop := w.heap[b]? = some (.cells #[.int .i64 u, .int .i64 d, .int .i64 l, .bool (U 0), .bool (U 1), .bool (U 2), .bool (U 3)] 89 (0, 0))
theorem IsBoxK.lt {w : World} {b : Nat} {u d : Int} {l : Nat} {U : Nat → Bool} (h : IsBoxK w b u d l U) : b < w.heap.size := (Array.getElem?_eq_some_iff.1 h).1
theorem IsBoxK.below {w w' : World} {b : Nat} {u d : Int} {l : Nat} {U : Nat → Bool} (h : IsBoxK w b u d l U) (hb : Below w.heap.size w w') : IsBoxK w' b u d l U := (hb.block _ h.lt).trans h
theorem IsBoxK.new (w : World) (u d : Int) (l : Nat) (U : Nat → Bool) : IsBoxK (w.alloc (.cells #[.int .i64 u, .int .i64 d, .int .i64 l, .bool (U 0), .bool (U 1), .bool (U 2), .bool (U 3)] 89)) w.heap.size u d l U := heap_alloc_new _ _
theorem IsBoxK.cells {w : World} {b : Nat} {u d : Int} {l : Nat} {U : Nat → Bool} (h : IsBoxK w b u d l U) : w.cell? ⟨b, 0, none⟩ = some (.int .i64 u) ∧ w.cell? ⟨b, 1, none⟩ = some (.int .i64 d) ∧ w.cell? ⟨b, 2, none⟩ = some (.int .i64 l) ∧ w.cell? ⟨b, 3, none⟩ = some (.bool (U 0)) ∧ w.cell? ⟨b, 4, none⟩ = some (.bool (U 1)) ∧ w.cell? ⟨b, 5, none⟩ = some (.bool (U 2)) ∧ w.cell? ⟨b, 6, none⟩ = some (.bool (U 3)) := by
  refine ⟨?_, ?_, ?_, ?_, ?_, ?_, ?_⟩
  · rw [cell_of_row w b 0 _ _ _ h]; rfl
  · rw [cell_of_row w b 1 _ _ _ h]; rfl
  · rw [cell_of_row w b 2 _ _ _ h]; rfl
  · rw [cell_of_row w b 3 _ _ _ h]; rfl
  · rw [cell_of_row w b 4 _ _ _ h]; rfl
  · rw [cell_of_row w b 5 _ _ _ h]; rfl
  · rw [cell_of_row w b 6 _ _ _ h]; rfl
theorem IsBoxK.other {w : World} {b c : Nat} {u d : Int} {l : Nat} {U : Nat → Bool} (h : IsBoxK w b u d l U) (hne : b ≠ c) (j : Nat) (x : Value) : IsBoxK (w.setCell ⟨c, j, none⟩ x) b u d l U := (heap_setCell_other w ⟨c, j, none⟩ b _ hne).trans h
theorem IsBoxK.frozen {w : World} {b : Nat} {u d : Int} {l : Nat} {U : Nat → Bool} (h : IsBoxK w b u d l U) (j : Nat) : w.frozen? ⟨b, j, none⟩ = false := frozen_of_row w b j _ _ h
/-- A passed money, by its number. -/
theorem IsBoxK.pass {w : World} {b : Nat} {u d : Int} {l : Nat} {U : Nat → Bool} (h : IsBoxK w b u d l U) {k : Nat} (hk : k < 4) : w.cell? ⟨b, 3 + k, none⟩ = some (.bool (U k)) := by
  obtain ⟨_, _, _, h0, h1, h2, h3⟩ := h.cells
  have : k = 0 ∨ k = 1 ∨ k = 2 ∨ k = 3 := by omega
  rcases this with rfl | rfl | rfl | rfl
  · exact h0
  · exact h1
  · exact h2
  · exact h3
theorem IsBoxK.setPass {w : World} {b : Nat} {u d : Int} {l : Nat} {U : Nat → Bool} (h : IsBoxK w b u d l U) {k : Nat} (hk : k < 4) : IsBoxK (w.setCell ⟨b, 3 + k, none⟩ (.bool true)) b u d l (setU U k) := by
  have h1 := heap_setCell_same w b (3 + k) _ _ (.bool true) h
  unfold IsBoxK
  rw [h1]
  have : k = 0 ∨ k = 1 ∨ k = 2 ∨ k = 3 := by omega
  rcases this with rfl | rfl | rfl | rfl <;> rfl

theorem cell_set7 {W : World} {c : Nat} {y0 y1 y2 y3 y4 y5 y6 x : Value} {p : Addr} (h : W.cell? p = some x) (hne : p.block ≠ c) : (((((((W.setCell ⟨c, 0, none⟩ y0).setCell ⟨c, 1, none⟩ y1).setCell ⟨c, 2, none⟩ y2).setCell ⟨c, 3, none⟩ y3).setCell ⟨c, 4, none⟩ y4).setCell ⟨c, 5, none⟩ y5).setCell ⟨c, 6, none⟩ y6).cell? p = some x := by
  have o : ∀ (V : World) (j : Nat) (y : Value), V.cell? p = some x → (V.setCell ⟨c, j, none⟩ y).cell? p = some x := fun V j y hV => (World.cell?_setCell_other _ _ _ _ (by intro e; exact hne (by rw [← e]))).trans hV
  exact o _ _ _ (o _ _ _ (o _ _ _ (o _ _ _ (o _ _ _ (o _ _ _ (o _ _ _ h))))))
theorem below_set7 {n : Nat} {w W : World} {c : Nat} {y0 y1 y2 y3 y4 y5 y6 : Value} (h : Below n w W) (hc : n ≤ c) : Below n w (((((((W.setCell ⟨c, 0, none⟩ y0).setCell ⟨c, 1, none⟩ y1).setCell ⟨c, 2, none⟩ y2).setCell ⟨c, 3, none⟩ y3).setCell ⟨c, 4, none⟩ y4).setCell ⟨c, 5, none⟩ y5).setCell ⟨c, 6, none⟩ y6) := by
  have o : ∀ (V : World) (j : Nat) (y : Value), Below n w V → Below n w (V.setCell ⟨c, j, none⟩ y) := fun V j y hV => hV.setCell (p := ⟨c, j, none⟩) hc _
  exact o _ _ _ (o _ _ _ (o _ _ _ (o _ _ _ (o _ _ _ (o _ _ _ (o _ _ _ h))))))
theorem box_set7 {W : World} {c : Nat} {x0 x1 x2 x3 x4 x5 x6 y0 y1 y2 y3 y4 y5 y6 : Value} {t : TypeId} (h : W.heap[c]? = some (.cells #[x0, x1, x2, x3, x4, x5, x6] t (0, 0))) : (((((((W.setCell ⟨c, 0, none⟩ y0).setCell ⟨c, 1, none⟩ y1).setCell ⟨c, 2, none⟩ y2).setCell ⟨c, 3, none⟩ y3).setCell ⟨c, 4, none⟩ y4).setCell ⟨c, 5, none⟩ y5).setCell ⟨c, 6, none⟩ y6).heap[c]? = some (.cells #[y0, y1, y2, y3, y4, y5, y6] t (0, 0)) := by
  have h0 := heap_setCell_same _ c 0 _ _ y0 h
  have h1 := heap_setCell_same _ c 1 _ _ y1 h0
  have h2 := heap_setCell_same _ c 2 _ _ y2 h1
  have h3 := heap_setCell_same _ c 3 _ _ y3 h2
  have h4 := heap_setCell_same _ c 4 _ _ y4 h3
  have h5 := heap_setCell_same _ c 5 _ _ y5 h4
  have h6 := heap_setCell_same _ c 6 _ _ y6 h5
  rw [h6]
  rfl
theorem newbox7_afterD {W w' : World} {x0 x1 x2 x3 x4 x5 x6 : Value} {t : TypeId} (d : Below ((W.alloc (.cells #[x0, x1, x2, x3, x4, x5, x6] t)).drew).heap.size ((W.alloc (.cells #[x0, x1, x2, x3, x4, x5, x6] t)).drew) w') : (w'.cell? ⟨W.heap.size, 0, none⟩ = some x0 ∧ w'.cell? ⟨W.heap.size, 1, none⟩ = some x1 ∧ w'.cell? ⟨W.heap.size, 2, none⟩ = some x2 ∧ w'.cell? ⟨W.heap.size, 3, none⟩ = some x3 ∧ w'.cell? ⟨W.heap.size, 4, none⟩ = some x4 ∧ w'.cell? ⟨W.heap.size, 5, none⟩ = some x5 ∧ w'.cell? ⟨W.heap.size, 6, none⟩ = some x6 ∧ w'.frozen? ⟨W.heap.size, 0, none⟩ = false ∧ w'.frozen? ⟨W.heap.size, 1, none⟩ = false ∧ w'.frozen? ⟨W.heap.size, 2, none⟩ = false ∧ w'.frozen? ⟨W.heap.size, 3, none⟩ = false ∧ w'.frozen? ⟨W.heap.size, 4, none⟩ = false ∧ w'.frozen? ⟨W.heap.size, 5, none⟩ = false ∧ w'.frozen? ⟨W.heap.size, 6, none⟩ = false ∧ w'.heap[W.heap.size]? = some (.cells #[x0, x1, x2, x3, x4, x5, x6] t (0, 0))) := by
  have h : ((W.alloc (.cells #[x0, x1, x2, x3, x4, x5, x6] t)).drew).heap[W.heap.size]? = some (.cells #[x0, x1, x2, x3, x4, x5, x6] t (0, 0)) := heap_alloc_new W _
  have h2 : w'.heap[W.heap.size]? = some (.cells #[x0, x1, x2, x3, x4, x5, x6] t (0, 0)) := (d.block _ (Array.getElem?_eq_some_iff.1 h).1).trans h
  refine ⟨?_, ?_, ?_, ?_, ?_, ?_, ?_, frozen_of_row w' _ 0 _ _ h2, frozen_of_row w' _ 1 _ _ h2, frozen_of_row w' _ 2 _ _ h2, frozen_of_row w' _ 3 _ _ h2, frozen_of_row w' _ 4 _ _ h2, frozen_of_row w' _ 5 _ _ h2, frozen_of_row w' _ 6 _ _ h2, h2⟩
  · rw [cell_of_row w' _ 0 _ _ _ h2]; rfl
  · rw [cell_of_row w' _ 1 _ _ _ h2]; rfl
  · rw [cell_of_row w' _ 2 _ _ _ h2]; rfl
  · rw [cell_of_row w' _ 3 _ _ _ h2]; rfl
  · rw [cell_of_row w' _ 4 _ _ _ h2]; rfl
  · rw [cell_of_row w' _ 5 _ _ _ h2]; rfl
  · rw [cell_of_row w' _ 6 _ _ _ h2]; rfl

section
variable {g : List (List (Int × Int))}

set_option maxHeartbeats 1600000 in
theorem bestTo_base (v : Value) (l : Nat) (U : Nat → Bool) (now : Int × Int) (w : World) :
    Calls Try.prog 84 #[kv now.1 now.2 l U, v, .int .i64 l] w fun e w' => e = .returned (rv now.1 now.2) ∧ Below w.heap.size w w' := by
  obtain ⟨nu, nd⟩ := now
  have S2 : Hid (∀ q0 q1 q2 q3 : Bool, IsBoxR ((w.alloc (.cells #[.int .i64 nu, .int .i64 nd, .int .i64 l, .bool q0, .bool q1, .bool q2, .bool q3] 89)).alloc (.cells #[.int .i64 nu, .int .i64 nd] 31)) (w.heap.size + 1) nu nd) := fun q0 q1 q2 q3 => by
    have := IsBoxR.new (w.alloc (.cells #[.int .i64 nu, .int .i64 nd, .int .i64 l, .bool q0, .bool q1, .bool q2, .bool q3] 89)) nu nd
    simp only [World.size_alloc] at this
    exact this
  have HB : Hid (∀ q0 q1 q2 q3 : Bool, Below w.heap.size w ((w.alloc (.cells #[.int .i64 nu, .int .i64 nd, .int .i64 l, .bool q0, .bool q1, .bool q2, .bool q3] 89)).alloc (.cells #[.int .i64 nu, .int .i64 nd] 31))) := fun _ _ _ _ => ((Below.refl _ _).alloc (Nat.le_refl _) _).alloc (by simp) _
  simp only
  go_enter Try.func84, Try.ntmps84
  go_wp2
  exact ret_box (c := 6) rfl rfl (S2.out _ _ _ _) ⟨rfl, HB.out _ _ _ _⟩

set_option maxRecDepth 100000 in
set_option maxHeartbeats 16000000 in
theorem bestTo_body (rec : (Nat → Bool) → Nat → Int × Int → Int × Int) (v : Value) (l tt : Nat) (U : Nat → Bool) (now : Int × Int) (w : World) (hv : IsGridR w v g) (hR : Rates g) (hl : l < g.length) (ht : tt < g.length) (hlt : l ≠ tt) (hn : rB now 400)
    (hrb : ∀ k, k < g.length → rB (rec (setU (setU U l) k) k (rProd now (cellX g l k))) 8000)
    (hrec : ∀ k, k < g.length → setU U l k = false → ∀ wx, Below w.heap.size w wx → Calls Try.prog 84 #[kv (rProd now (cellX g l k)).1 (rProd now (cellX g l k)).2 k (setU U l), v, .int .i64 tt] wx fun e w' => e = .returned (rv (if k = tt then rProd now (cellX g l tt) else rec (setU (setU U l) k) k (rProd now (cellX g l k))).1 (if k = tt then rProd now (cellX g l tt) else rec (setU (setU U l) k) k (rProd now (cellX g l k))).2) ∧ Below wx.heap.size wx w') :
    Calls Try.prog 84 #[kv now.1 now.2 l U, v, .int .i64 tt] w fun e w' => e = .returned (rv (bestK (cellX g) tt rec (setU U l) l now g.length).1 (bestK (cellX g) tt rec (setU U l) l now g.length).2) ∧ Below w.heap.size w w' := by
  obtain ⟨av, cap, rfl, _⟩ := id hv
  have hg4 := hR.len4
  obtain ⟨b, off, ar, cr, rfl, ci, hrow⟩ := hv.row l hl
  have hla := hR.row l hl
  have HL := Lib.hid hla
  obtain ⟨br, fr, rfl, d0, d1⟩ := hrow.at tt (by omega)
  have hbb : b < w.heap.size := World.block_lt_of_cell? w _ ci
  have hbr : br < w.heap.size := World.block_lt_of_cell? w _ d0
  have i1 : (l : Int) < (g.length : Int) := by omega
  have i2 : (tt : Int) < ((rowR g l).length : Int) := by omega
  have hlb : ((l : Int) == (tt : Int)) = false := by simp; omega
  have hl4 : (l : Int) < 4 := by omega
  have HBK : Hid (∀ j, j ≤ g.length → rB (bestK (cellX g) tt rec (setU U l) l now j) 8000) := fun j hj => bestK_bd ((rProd_bd hn (hR.bd l tt hl ht)).mono (by decide)) j (fun k hk => hrb k (by omega))
  have HRW : Hid (∀ k, k < g.length → w.cell? ⟨br, fr + k * 2, none⟩ = some (.int .i64 (rUp (rowR g l) k)) ∧ w.cell? ⟨br, fr + k * 2 + 1, none⟩ = some (.int .i64 (rDn (rowR g l) k))) := fun k hk => by
    obtain ⟨b', f', e, x0, x1⟩ := hrow.at k (by omega)
    simp only [Option.some.injEq, Addr.mk.injEq, and_true] at e
    obtain ⟨rfl, rfl⟩ := e
    exact ⟨x0, x1⟩
  have HPR : Hid (∀ k, k < g.length → ∀ wx, Calls Try.prog 66 #[rv now.1 now.2, rv (rUp (rowR g l) k) (rDn (rowR g l) k)] wx fun e w' => e = .returned (rv (rProd now (cellX g l k)).1 (rProd now (cellX g l k)).2) ∧ Below wx.heap.size wx w') := fun k hk wx => times_impl now (cellX g l k) wx hn.pos (hR.bd l k hl hk).pos ((rMul_bd hn (hR.bd l k hl hk)).mono (by decide))
  have HREC := Lib.hid hrec
  have HXB : Hid (∀ k, k < g.length → rB (if k = tt then rProd now (cellX g l tt) else rec (setU (setU U l) k) k (rProd now (cellX g l k))) 8000) := fun k hk => by
    split
    · exact (rProd_bd hn (hR.bd l tt hl ht)).mono (by decide)
    · exact hrb k hk
  have HSTEP : Hid (∀ k, k < g.length → setU U l k = false → bestK (cellX g) tt rec (setU U l) l now (k + 1) = rMax (bestK (cellX g) tt rec (setU U l) l now k) (if k = tt then rProd now (cellX g l tt) else rec (setU (setU U l) k) k (rProd now (cellX g l k)))) := fun k hk hu => by
    rw [bestK]
    by_cases e : k = tt
    · rw [if_neg (fun h => h.2 e), if_pos e, rMax_no]
      exact (bestK_ge (rProd_pos hn.pos (hR.bd l tt hl ht).pos) k (fun j hj => (hrb j (by omega)).pos)).1
    · rw [if_pos ⟨hu, e⟩, if_neg e]
  have HSKIP : Hid (∀ k, setU U l k = true → bestK (cellX g) tt rec (setU U l) l now (k + 1) = bestK (cellX g) tt rec (setU U l) l now k) := fun k hu => by
    rw [bestK, if_neg (fun h => by rw [hu] at h; exact absurd h.1 (by decide))]
  have HZERO : Hid (bestK (cellX g) tt rec (setU U l) l now 0 = rProd now (cellX g l tt)) := rfl
  obtain ⟨nu, nd⟩ := now
  simp only at *
  have x0 := (IsBoxK.new w nu nd l U).below ((Below.refl _ _).alloc (Nat.le_refl _) (.cells #[.int .i64 0, .int .i64 0] 31))
  have x1 := IsBoxR.new (w.alloc (.cells #[.int .i64 nu, .int .i64 nd, .int .i64 l, .bool (U 0), .bool (U 1), .bool (U 2), .bool (U 3)] 89)) 0 0
  simp only [World.size_alloc] at x1
  have hb0 : Below w.heap.size w ((w.alloc (.cells #[.int .i64 nu, .int .i64 nd, .int .i64 l, .bool (U 0), .bool (U 1), .bool (U 2), .bool (U 3)] 89)).alloc (.cells #[.int .i64 0, .int .i64 0] 31)) := ((Below.refl _ _).alloc (Nat.le_refl _) _).alloc (by simp) _
  have hsz : (((w.alloc (.cells #[.int .i64 nu, .int .i64 nd, .int .i64 l, .bool (U 0), .bool (U 1), .bool (U 2), .bool (U 3)] 89)).alloc (.cells #[.int .i64 0, .int .i64 0] 31))).heap.size = w.heap.size + 1 + 1 := by simp
  clear hrec hrb
  go_enter Try.func84, Try.ntmps84
  go_wp2_with fail
  generalize (w.alloc (.cells #[.int .i64 nu, .int .i64 nd, .int .i64 l, .bool (U 0), .bool (U 1), .bool (U 2), .bool (U 3)] 89)).alloc (.cells #[.int .i64 0, .int .i64 0] 31) = w2 at *
  have HSZ := Lib.hid hsz
  clear hsz
  obtain ⟨c0, c1, c2, _, _, _, _⟩ := x0.cells
  have ci2 := (hb0.cell (p := ⟨b, off + l, none⟩) hbb).trans ci
  have e0 := (hb0.cell (p := ⟨br, fr + tt * 2, none⟩) hbr).trans d0
  have e1 := (hb0.cell (p := ⟨br, fr + tt * 2 + 1, none⟩) hbr).trans d1
  have n1 : w.heap.size ≠ w2.heap.size := by rw [HSZ.out]; omega
  have n2 : b ≠ w2.heap.size := by have := hb0.size; omega
  have n3 : br ≠ w2.heap.size := by have := hb0.size; omega
  have s0 : (w2.cell? ⟨w.heap.size, 0, none⟩ = some (.int .i64 nu) ∧ w2.cell? ⟨w.heap.size, 1, none⟩ = some (.int .i64 nd) ∧ w2.cell? ⟨w.heap.size, 2, none⟩ = some (.int .i64 (l : Int)) ∧ w2.cell? ⟨b, off + l, none⟩ = some (.slice (some ⟨br, fr, none⟩) (rowR g l).length cr) ∧ w2.cell? ⟨br, fr + tt * 2, none⟩ = some (.int .i64 (rUp (rowR g l) tt)) ∧ w2.cell? ⟨br, fr + tt * 2 + 1, none⟩ = some (.int .i64 (rDn (rowR g l) tt)) ∧ Below w2.heap.size w2 w2) := ⟨c0, c1, c2, ci2, e0, e1, Below.refl _ _⟩
  have HP2 : Hid (∀ wx, (wx.cell? ⟨w.heap.size, 0, none⟩ = some (.int .i64 nu) ∧ wx.cell? ⟨w.heap.size, 1, none⟩ = some (.int .i64 nd) ∧ wx.cell? ⟨w.heap.size, 2, none⟩ = some (.int .i64 (l : Int)) ∧ wx.cell? ⟨b, off + l, none⟩ = some (.slice (some ⟨br, fr, none⟩) (rowR g l).length cr) ∧ wx.cell? ⟨br, fr + tt * 2, none⟩ = some (.int .i64 (rUp (rowR g l) tt)) ∧ wx.cell? ⟨br, fr + tt * 2 + 1, none⟩ = some (.int .i64 (rDn (rowR g l) tt)) ∧ Below w2.heap.size w2 wx) → Calls Try.prog 66 #[rv nu nd, rv (rUp (rowR g l) tt) (rDn (rowR g l) tt)] wx fun e w' => e = .returned (rv (rProd (nu, nd) (cellX g l tt)).1 (rProd (nu, nd) (cellX g l tt)).2) ∧ Below wx.heap.size wx w' ∧ (w'.cell? ⟨w.heap.size, 0, none⟩ = some (.int .i64 nu) ∧ w'.cell? ⟨w.heap.size, 1, none⟩ = some (.int .i64 nd) ∧ w'.cell? ⟨w.heap.size, 2, none⟩ = some (.int .i64 (l : Int)) ∧ w'.cell? ⟨b, off + l, none⟩ = some (.slice (some ⟨br, fr, none⟩) (rowR g l).length cr) ∧ w'.cell? ⟨br, fr + tt * 2, none⟩ = some (.int .i64 (rUp (rowR g l) tt)) ∧ w'.cell? ⟨br, fr + tt * 2 + 1, none⟩ = some (.int .i64 (rDn (rowR g l) tt)) ∧ Below w2.heap.size w2 w')) := fun wx hs => (HPR.out tt ht wx).mono fun e w' ⟨h1, d⟩ => ⟨h1, d, ⟨cell_below hs.1 d, cell_below hs.2.1 d, cell_below hs.2.2.1 d, cell_below hs.2.2.2.1 d, cell_below hs.2.2.2.2.1 d, cell_below hs.2.2.2.2.2.1 d, Below.trans hs.2.2.2.2.2.2 (Below.mono d (Below.size hs.2.2.2.2.2.2))⟩⟩
  have HPD : Hid (∀ (W : World) (x y : Value) (t : TypeId), (((W.alloc (.cells #[x, y] t)).drew).cell? ⟨w.heap.size, 0, none⟩ = some (.int .i64 nu) ∧ ((W.alloc (.cells #[x, y] t)).drew).cell? ⟨w.heap.size, 1, none⟩ = some (.int .i64 nd) ∧ ((W.alloc (.cells #[x, y] t)).drew).cell? ⟨w.heap.size, 2, none⟩ = some (.int .i64 (l : Int)) ∧ ((W.alloc (.cells #[x, y] t)).drew).cell? ⟨b, off + l, none⟩ = some (.slice (some ⟨br, fr, none⟩) (rowR g l).length cr) ∧ ((W.alloc (.cells #[x, y] t)).drew).cell? ⟨br, fr + tt * 2, none⟩ = some (.int .i64 (rUp (rowR g l) tt)) ∧ ((W.alloc (.cells #[x, y] t)).drew).cell? ⟨br, fr + tt * 2 + 1, none⟩ = some (.int .i64 (rDn (rowR g l) tt)) ∧ Below w2.heap.size w2 ((W.alloc (.cells #[x, y] t)).drew)) → Calls Try.prog 66 #[rv nu nd, rv (rUp (rowR g l) tt) (rDn (rowR g l) tt)] ((W.alloc (.cells #[x, y] t)).drew) fun e w' => (e = .returned (rv (rProd (nu, nd) (cellX g l tt)).1 (rProd (nu, nd) (cellX g l tt)).2) ∧ Below ((W.alloc (.cells #[x, y] t)).drew).heap.size ((W.alloc (.cells #[x, y] t)).drew) w' ∧ (w'.cell? ⟨w.heap.size, 0, none⟩ = some (.int .i64 nu) ∧ w'.cell? ⟨w.heap.size, 1, none⟩ = some (.int .i64 nd) ∧ w'.cell? ⟨w.heap.size, 2, none⟩ = some (.int .i64 (l : Int)) ∧ w'.cell? ⟨b, off + l, none⟩ = some (.slice (some ⟨br, fr, none⟩) (rowR g l).length cr) ∧ w'.cell? ⟨br, fr + tt * 2, none⟩ = some (.int .i64 (rUp (rowR g l) tt)) ∧ w'.cell? ⟨br, fr + tt * 2 + 1, none⟩ = some (.int .i64 (rDn (rowR g l) tt)) ∧ Below w2.heap.size w2 w')) ∧ (w'.cell? ⟨W.heap.size, 0, none⟩ = some x ∧ w'.cell? ⟨W.heap.size, 1, none⟩ = some y ∧ w'.frozen? ⟨W.heap.size, 0, none⟩ = false ∧ w'.frozen? ⟨W.heap.size, 1, none⟩ = false ∧ w'.heap[W.heap.size]? = some (.cells #[x, y] t (0, 0)))) := fun W x y t hs => (HP2.out _ hs).mono fun e w' h => ⟨h, newbox_afterD h.2.1⟩
  go_cut [7] from 17 to 27 (fun p wx => ∃ c, p = .pointer (some ⟨c, 0, none⟩) ∧ w2.heap.size ≤ c ∧ IsBoxR wx c (rProd (nu, nd) (cellX g l tt)).1 (rProd (nu, nd) (cellX g l tt)).2 ∧ Below w2.heap.size w2 wx)
  case first =>
    go_region_held3 (fun w' => w'.cell? ⟨w.heap.size, 0, none⟩ = some (.int .i64 nu) ∧ w'.cell? ⟨w.heap.size, 1, none⟩ = some (.int .i64 nd) ∧ w'.cell? ⟨w.heap.size, 2, none⟩ = some (.int .i64 (l : Int)) ∧ w'.cell? ⟨b, off + l, none⟩ = some (.slice (some ⟨br, fr, none⟩) (rowR g l).length cr) ∧ w'.cell? ⟨br, fr + tt * 2, none⟩ = some (.int .i64 (rUp (rowR g l) tt)) ∧ w'.cell? ⟨br, fr + tt * 2 + 1, none⟩ = some (.int .i64 (rDn (rowR g l) tt)) ∧ Below w2.heap.size w2 w')
      (first | exact s6 | exact ⟨s0.1, s0.2.1, s0.2.2.1, s0.2.2.2.1, s0.2.2.2.2.1, s0.2.2.2.2.2.1, Below.drew s0.2.2.2.2.2.2⟩ | exact ⟨cell_alloc s0.1, cell_alloc s0.2.1, cell_alloc s0.2.2.1, cell_alloc s0.2.2.2.1, cell_alloc s0.2.2.2.2.1, cell_alloc s0.2.2.2.2.2.1, (Below.alloc s0.2.2.2.2.2.2 (Below.size s0.2.2.2.2.2.2) _).drew⟩ | exact ⟨cell_alloc s6.1, cell_alloc s6.2.1, cell_alloc s6.2.2.1, cell_alloc s6.2.2.2.1, cell_alloc s6.2.2.2.2.1, cell_alloc s6.2.2.2.2.2.1, Below.alloc s6.2.2.2.2.2.2 (Below.size s6.2.2.2.2.2.2) _⟩ | exact ⟨cell_set2 s6.1 n1, cell_set2 s6.2.1 n1, cell_set2 s6.2.2.1 n1, cell_set2 s6.2.2.2.1 n2, cell_set2 s6.2.2.2.2.1 n3, cell_set2 s6.2.2.2.2.2.1 n3, below_set2 s6.2.2.2.2.2.2 (Nat.le_refl _)⟩)
      (first
        | ((with_reducible refine (HPD.out _ _ _ _ ?_).mono ?_); exact ⟨cell_alloc s0.1, cell_alloc s0.2.1, cell_alloc s0.2.2.1, cell_alloc s0.2.2.2.1, cell_alloc s0.2.2.2.2.1, cell_alloc s0.2.2.2.2.2.1, (Below.alloc s0.2.2.2.2.2.2 (Below.size s0.2.2.2.2.2.2) _).drew⟩; rintro e w6 ⟨⟨rfl, d6, s6⟩, y0, y1, y2, y3, y4⟩)
        | ((with_reducible refine (HP2.out _ ?_).mono ?_); exact ⟨s0.1, s0.2.1, s0.2.2.1, s0.2.2.2.1, s0.2.2.2.2.1, s0.2.2.2.2.2.1, Below.drew s0.2.2.2.2.2.2⟩; rintro e w6 ⟨rfl, d6, s6⟩))
    all_goals (go_wp2_with fail; go_meet; first | exact ⟨w6.heap.size, rfl, (s6.2.2.2.2.2.2).size, IsBoxR.new w6 _ _, (s6.2.2.2.2.2.2).alloc (s6.2.2.2.2.2.2).size _⟩ | exact ⟨w2.heap.size, rfl, Nat.le_refl _, box_set2 y4 _ _, below_set2 (s6.2.2.2.2.2.2) (Nat.le_refl _)⟩)
  case rest =>
    obtain ⟨c7, rfl, hc7, bx7, hb7⟩ := hcut
    have hbw := hb0.trans (hb7.mono hb0.size)
    have x0c := x0.below hb7
    have x1c := x1.below hb7
    rw [← HZERO.out] at bx7
    have hnc1 : w.heap.size ≠ c7 := by have := HSZ.out; omega
    have hnc2 : w.heap.size + 1 ≠ c7 := by have := HSZ.out; omega
    have hc7w : w.heap.size + 1 < c7 := by have := HSZ.out; omega
    have g2 := x0c.cells.2.2.1
    have gp := x0c.pass (k := l) (by omega)
    have gf := x0c.frozen (3 + l)
    have y0 := x0c.setPass (k := l) (by omega)
    have y1 : IsBoxR (wc.setCell ⟨w.heap.size, 3 + l, none⟩ (.bool true)) (w.heap.size + 1) 0 0 := x1c.other (by omega) _ _
    have y2 : IsBoxR (wc.setCell ⟨w.heap.size, 3 + l, none⟩ (.bool true)) c7 _ _ := bx7.other (fun e => hnc1 e.symm) _ _
    have hbs : Below w.heap.size w (wc.setCell ⟨w.heap.size, 3 + l, none⟩ (.bool true)) := hbw.setCell (by exact Nat.le_refl _) _
    have cs2 := y0.cells.2.2.1
    have ci3 := (hbs.cell (p := ⟨b, off + l, none⟩) hbb).trans ci
    have Y0 := Lib.hid y0
    have Y1 := Lib.hid y1
    have Y2 := Lib.hid y2
    have HBS := Lib.hid hbs
    clear HP2 HPD s0 c0 c1 c2 ci2 e0 e1 n1 n2 n3 x0 x1 hb0 hb7 d0 d1 x0c x1c bx7 y0 y1 y2 hbs
    go_wp2_with fail
    generalize hps2 : setU U l = U2 at *
    generalize wc.setCell ⟨w.heap.size, 3 + l, none⟩ (.bool true) = wd at *
    go_loopg [38] g.length (fun n iv wr => ∃ k : Nat, k + n = g.length ∧ iv = .int .i64 k ∧ IsBoxR wr c7 (bestK (cellX g) tt rec (U2) l (nu, nd) k).1 (bestK (cellX g) tt rec (U2) l (nu, nd) k).2 ∧ IsBoxK wr w.heap.size nu nd l U2 ∧ IsBoxR wr (w.heap.size + 1) 0 0 ∧ Below w.heap.size w wr)
    case atStart => exact ⟨0, by omega, rfl, Y2.out, Y0.out, Y1.out, HBS.out⟩
    case round =>
      obtain ⟨k, hkn, rfl, bx, x0, x1, hbl⟩ := hrel
      have HKN := Lib.hid hkn
      clear hkn
      cases gk with
      | zero =>
        have hkg : k = g.length := by have := HKN.out; omega
        subst hkg
        have hkr : ¬ (g.length : Int) < ((rowR g l).length : Int) := by have := HL.out; omega
        have c0 := bx.cells.1.1
        have c1 := bx.cells.1.2
        have f0 := x1.cells.2 0
        have f1 := x1.cells.2 1
        have z0 := x1.cells.1.1
        have z1 := x1.cells.1.2
        have XS := Lib.hid (fun u v => x1.set u v)
        have HBT : Hid (∀ u v : Int, Below w.heap.size w ((wr.setCell ⟨w.heap.size + 1, 0, none⟩ (.int .i64 u)).setCell ⟨w.heap.size + 1, 1, none⟩ (.int .i64 v))) := fun u v => below_set2 hbl (Nat.le_succ _)
        clear bx x0 x1 hbl
        go_wp2
        exact ret_box (c := 6) rfl rfl (XS.out _ _) ⟨rfl, HBT.out _ _⟩
      | succ gn =>
        have hkl : k < g.length := by have := HKN.out; omega
        have k1 : (k : Int) < ((rowR g l).length : Int) := by have := HL.out; omega
        have k4 : k < 4 := by omega
        have k4i : (k : Int) < 4 := by omega
        obtain ⟨dd0, dd1⟩ := HRW.out k hkl
        have e0 := (hbl.cell (p := ⟨br, fr + k * 2, none⟩) hbr).trans dd0
        have e1 := (hbl.cell (p := ⟨br, fr + k * 2 + 1, none⟩) hbr).trans dd1
        have HPRk := Lib.hid (HPR.out k hkl)
        have HSK := Lib.hid (HSKIP.out k)
        have HST := Lib.hid (HSTEP.out k hkl)
        have HRC := Lib.hid (HREC.out k hkl)
        have hXb := HXB.out k hkl
        have hBk := HBK.out k (by omega)
        have da := (Below.refl wr.heap.size wr).alloc (Nat.le_refl _) (.cells #[.int .i64 (rUp (rowR g l) k), .int .i64 (rDn (rowR g l) k)] 31)
        have bx2 := bx.below da
        have x02 := x0.below da
        have x12 := x1.below da
        have hbl2 := hbl.trans (da.mono hbl.size)
        have x9 := IsBoxR.new wr (rUp (rowR g l) k) (rDn (rowR g l) k)
        have hx0l := x0.lt
        have hbxl := bx.lt
        have pk := x02.pass k4
        have hq : Hid (wr.heap.size + 1 = (wr.alloc (.cells #[.int .i64 (rUp (rowR g l) k), .int .i64 (rDn (rowR g l) k)] 31)).heap.size) := by show _ = _; simp
        clear dd0 dd1 da bx x0 x1 hbl
        generalize rUp (rowR g l) k = yu at *
        generalize rDn (rowR g l) k = yd at *
        cases hu : U2 k
        · rw [hu] at pk
          go_wp2_with fail
          generalize wr.alloc (.cells #[.int .i64 yu, .int .i64 yd] 31) = wy at *
          generalize wr.heap.size = c9 at *
          have HST2 := Lib.hid (HST.out hu)
          have HTO : Hid (∀ wx, Below w.heap.size w wx → Calls Try.prog 84 #[kv (rProd (nu, nd) (cellX g l k)).1 (rProd (nu, nd) (cellX g l k)).2 k U2, .slice (some ⟨b, off, none⟩) g.length cap, .int .i64 tt] wx fun e w' => e = .returned (rv (if k = tt then rProd (nu, nd) (cellX g l tt) else rec (setU (U2) k) k (rProd (nu, nd) (cellX g l k))).1 (if k = tt then rProd (nu, nd) (cellX g l tt) else rec (setU (U2) k) k (rProd (nu, nd) (cellX g l k))).2) ∧ Below wx.heap.size wx w') := fun wx hx => HRC.out hu wx hx
          obtain ⟨c0, c1, _, p0, p1, p2, p3⟩ := x02.cells
          have j0 := x9.cells.1.1
          have j1 := x9.cells.1.2
          have hx9 := x9.lt
          have n1 : w.heap.size ≠ wy.heap.size := by have := x02.lt; omega
          have n2 : c9 ≠ wy.heap.size := by omega
          have hbyl := hbl2.size
          have hbxy := bx2.lt
          have s0 : (wy.cell? ⟨w.heap.size, 0, none⟩ = some (.int .i64 nu) ∧ wy.cell? ⟨w.heap.size, 1, none⟩ = some (.int .i64 nd) ∧ wy.cell? ⟨c9, 0, none⟩ = some (.int .i64 yu) ∧ wy.cell? ⟨c9, 1, none⟩ = some (.int .i64 yd) ∧ wy.cell? ⟨w.heap.size, 3, none⟩ = some (.bool (U2 0)) ∧ wy.cell? ⟨w.heap.size, 4, none⟩ = some (.bool (U2 1)) ∧ wy.cell? ⟨w.heap.size, 5, none⟩ = some (.bool (U2 2)) ∧ wy.cell? ⟨w.heap.size, 6, none⟩ = some (.bool (U2 3)) ∧ Below wy.heap.size wy wy) := ⟨c0, c1, j0, j1, p0, p1, p2, p3, Below.refl _ _⟩
          clear HRC HST pk e0 e1 hq
          generalize (if k = tt then rProd (nu, nd) (cellX g l tt) else rec (setU (U2) k) k (rProd (nu, nd) (cellX g l k))) = XX at *
          generalize rProd (nu, nd) (cellX g l k) = PP at *
          generalize hBB : bestK (cellX g) tt rec (U2) l (nu, nd) k = BB at *
          obtain ⟨pu, pd⟩ := PP
          obtain ⟨xu, xd⟩ := XX
          obtain ⟨bu, bd⟩ := BB
          have HBB := Lib.hid hBB
          clear hBB
          simp only at *
          have HP2 : Hid (∀ wx, (wx.cell? ⟨w.heap.size, 0, none⟩ = some (.int .i64 nu) ∧ wx.cell? ⟨w.heap.size, 1, none⟩ = some (.int .i64 nd) ∧ wx.cell? ⟨c9, 0, none⟩ = some (.int .i64 yu) ∧ wx.cell? ⟨c9, 1, none⟩ = some (.int .i64 yd) ∧ wx.cell? ⟨w.heap.size, 3, none⟩ = some (.bool (U2 0)) ∧ wx.cell? ⟨w.heap.size, 4, none⟩ = some (.bool (U2 1)) ∧ wx.cell? ⟨w.heap.size, 5, none⟩ = some (.bool (U2 2)) ∧ wx.cell? ⟨w.heap.size, 6, none⟩ = some (.bool (U2 3)) ∧ Below wy.heap.size wy wx) → Calls Try.prog 66 #[rv nu nd, rv yu yd] wx fun e w' => e = .returned (rv pu pd) ∧ Below wx.heap.size wx w' ∧ (w'.cell? ⟨w.heap.size, 0, none⟩ = some (.int .i64 nu) ∧ w'.cell? ⟨w.heap.size, 1, none⟩ = some (.int .i64 nd) ∧ w'.cell? ⟨c9, 0, none⟩ = some (.int .i64 yu) ∧ w'.cell? ⟨c9, 1, none⟩ = some (.int .i64 yd) ∧ w'.cell? ⟨w.heap.size, 3, none⟩ = some (.bool (U2 0)) ∧ w'.cell? ⟨w.heap.size, 4, none⟩ = some (.bool (U2 1)) ∧ w'.cell? ⟨w.heap.size, 5, none⟩ = some (.bool (U2 2)) ∧ w'.cell? ⟨w.heap.size, 6, none⟩ = some (.bool (U2 3)) ∧ Below wy.heap.size wy w')) := fun wx hs => (HPRk.out wx).mono fun e w' ⟨h1, d⟩ => ⟨h1, d, ⟨cell_below hs.1 d, cell_below hs.2.1 d, cell_below hs.2.2.1 d, cell_below hs.2.2.2.1 d, cell_below hs.2.2.2.2.1 d, cell_below hs.2.2.2.2.2.1 d, cell_below hs.2.2.2.2.2.2.1 d, cell_below hs.2.2.2.2.2.2.2.1 d, Below.trans hs.2.2.2.2.2.2.2.2 (Below.mono d (Below.size hs.2.2.2.2.2.2.2.2))⟩⟩
          have HPD : Hid (∀ (W : World) (x0 x1 x2 x3 x4 x5 x6 : Value) (t : TypeId), (((W.alloc (.cells #[x0, x1, x2, x3, x4, x5, x6] t)).drew).cell? ⟨w.heap.size, 0, none⟩ = some (.int .i64 nu) ∧ ((W.alloc (.cells #[x0, x1, x2, x3, x4, x5, x6] t)).drew).cell? ⟨w.heap.size, 1, none⟩ = some (.int .i64 nd) ∧ ((W.alloc (.cells #[x0, x1, x2, x3, x4, x5, x6] t)).drew).cell? ⟨c9, 0, none⟩ = some (.int .i64 yu) ∧ ((W.alloc (.cells #[x0, x1, x2, x3, x4, x5, x6] t)).drew).cell? ⟨c9, 1, none⟩ = some (.int .i64 yd) ∧ ((W.alloc (.cells #[x0, x1, x2, x3, x4, x5, x6] t)).drew).cell? ⟨w.heap.size, 3, none⟩ = some (.bool (U2 0)) ∧ ((W.alloc (.cells #[x0, x1, x2, x3, x4, x5, x6] t)).drew).cell? ⟨w.heap.size, 4, none⟩ = some (.bool (U2 1)) ∧ ((W.alloc (.cells #[x0, x1, x2, x3, x4, x5, x6] t)).drew).cell? ⟨w.heap.size, 5, none⟩ = some (.bool (U2 2)) ∧ ((W.alloc (.cells #[x0, x1, x2, x3, x4, x5, x6] t)).drew).cell? ⟨w.heap.size, 6, none⟩ = some (.bool (U2 3)) ∧ Below wy.heap.size wy ((W.alloc (.cells #[x0, x1, x2, x3, x4, x5, x6] t)).drew)) → Calls Try.prog 66 #[rv nu nd, rv yu yd] ((W.alloc (.cells #[x0, x1, x2, x3, x4, x5, x6] t)).drew) fun e w' => (e = .returned (rv pu pd) ∧ Below ((W.alloc (.cells #[x0, x1, x2, x3, x4, x5, x6] t)).drew).heap.size ((W.alloc (.cells #[x0, x1, x2, x3, x4, x5, x6] t)).drew) w' ∧ (w'.cell? ⟨w.heap.size, 0, none⟩ = some (.int .i64 nu) ∧ w'.cell? ⟨w.heap.size, 1, none⟩ = some (.int .i64 nd) ∧ w'.cell? ⟨c9, 0, none⟩ = some (.int .i64 yu) ∧ w'.cell? ⟨c9, 1, none⟩ = some (.int .i64 yd) ∧ w'.cell? ⟨w.heap.size, 3, none⟩ = some (.bool (U2 0)) ∧ w'.cell? ⟨w.heap.size, 4, none⟩ = some (.bool (U2 1)) ∧ w'.cell? ⟨w.heap.size, 5, none⟩ = some (.bool (U2 2)) ∧ w'.cell? ⟨w.heap.size, 6, none⟩ = some (.bool (U2 3)) ∧ Below wy.heap.size wy w')) ∧ (w'.cell? ⟨W.heap.size, 0, none⟩ = some x0 ∧ w'.cell? ⟨W.heap.size, 1, none⟩ = some x1 ∧ w'.cell? ⟨W.heap.size, 2, none⟩ = some x2 ∧ w'.cell? ⟨W.heap.size, 3, none⟩ = some x3 ∧ w'.cell? ⟨W.heap.size, 4, none⟩ = some x4 ∧ w'.cell? ⟨W.heap.size, 5, none⟩ = some x5 ∧ w'.cell? ⟨W.heap.size, 6, none⟩ = some x6 ∧ w'.frozen? ⟨W.heap.size, 0, none⟩ = false ∧ w'.frozen? ⟨W.heap.size, 1, none⟩ = false ∧ w'.frozen? ⟨W.heap.size, 2, none⟩ = false ∧ w'.frozen? ⟨W.heap.size, 3, none⟩ = false ∧ w'.frozen? ⟨W.heap.size, 4, none⟩ = false ∧ w'.frozen? ⟨W.heap.size, 5, none⟩ = false ∧ w'.frozen? ⟨W.heap.size, 6, none⟩ = false ∧ w'.heap[W.heap.size]? = some (.cells #[x0, x1, x2, x3, x4, x5, x6] t (0, 0)))) := fun W x0 x1 x2 x3 x4 x5 x6 t hs => (HP2.out _ hs).mono fun e w' h => ⟨h, newbox7_afterD h.2.1⟩
          go_cut [10] from 39 to 62 (fun p wx => ∃ c, p = .pointer (some ⟨c, 0, none⟩) ∧ wy.heap.size ≤ c ∧ IsBoxK wx c pu pd k U2 ∧ Below wy.heap.size wy wx)
          case first =>
            have SD : Hid ((wy.drew.cell? ⟨w.heap.size, 0, none⟩ = some (.int .i64 nu) ∧ wy.drew.cell? ⟨w.heap.size, 1, none⟩ = some (.int .i64 nd) ∧ wy.drew.cell? ⟨c9, 0, none⟩ = some (.int .i64 yu) ∧ wy.drew.cell? ⟨c9, 1, none⟩ = some (.int .i64 yd) ∧ wy.drew.cell? ⟨w.heap.size, 3, none⟩ = some (.bool (U2 0)) ∧ wy.drew.cell? ⟨w.heap.size, 4, none⟩ = some (.bool (U2 1)) ∧ wy.drew.cell? ⟨w.heap.size, 5, none⟩ = some (.bool (U2 2)) ∧ wy.drew.cell? ⟨w.heap.size, 6, none⟩ = some (.bool (U2 3)) ∧ Below wy.heap.size wy wy.drew)) := ⟨s0.1, s0.2.1, s0.2.2.1, s0.2.2.2.1, s0.2.2.2.2.1, s0.2.2.2.2.2.1, s0.2.2.2.2.2.2.1, s0.2.2.2.2.2.2.2.1, Below.drew s0.2.2.2.2.2.2.2.2⟩
            have SAD : Hid (∀ o : Obj, ((wy.alloc o).drew.cell? ⟨w.heap.size, 0, none⟩ = some (.int .i64 nu) ∧ (wy.alloc o).drew.cell? ⟨w.heap.size, 1, none⟩ = some (.int .i64 nd) ∧ (wy.alloc o).drew.cell? ⟨c9, 0, none⟩ = some (.int .i64 yu) ∧ (wy.alloc o).drew.cell? ⟨c9, 1, none⟩ = some (.int .i64 yd) ∧ (wy.alloc o).drew.cell? ⟨w.heap.size, 3, none⟩ = some (.bool (U2 0)) ∧ (wy.alloc o).drew.cell? ⟨w.heap.size, 4, none⟩ = some (.bool (U2 1)) ∧ (wy.alloc o).drew.cell? ⟨w.heap.size, 5, none⟩ = some (.bool (U2 2)) ∧ (wy.alloc o).drew.cell? ⟨w.heap.size, 6, none⟩ = some (.bool (U2 3)) ∧ Below wy.heap.size wy (wy.alloc o).drew)) := fun o => ⟨cell_alloc s0.1, cell_alloc s0.2.1, cell_alloc s0.2.2.1, cell_alloc s0.2.2.2.1, cell_alloc s0.2.2.2.2.1, cell_alloc s0.2.2.2.2.2.1, cell_alloc s0.2.2.2.2.2.2.1, cell_alloc s0.2.2.2.2.2.2.2.1, (Below.alloc s0.2.2.2.2.2.2.2.2 (Below.size s0.2.2.2.2.2.2.2.2) _).drew⟩
            have SA : Hid (∀ (W : World) (o : Obj), (W.cell? ⟨w.heap.size, 0, none⟩ = some (.int .i64 nu) ∧ W.cell? ⟨w.heap.size, 1, none⟩ = some (.int .i64 nd) ∧ W.cell? ⟨c9, 0, none⟩ = some (.int .i64 yu) ∧ W.cell? ⟨c9, 1, none⟩ = some (.int .i64 yd) ∧ W.cell? ⟨w.heap.size, 3, none⟩ = some (.bool (U2 0)) ∧ W.cell? ⟨w.heap.size, 4, none⟩ = some (.bool (U2 1)) ∧ W.cell? ⟨w.heap.size, 5, none⟩ = some (.bool (U2 2)) ∧ W.cell? ⟨w.heap.size, 6, none⟩ = some (.bool (U2 3)) ∧ Below wy.heap.size wy W) → ((W.alloc o).cell? ⟨w.heap.size, 0, none⟩ = some (.int .i64 nu) ∧ (W.alloc o).cell? ⟨w.heap.size, 1, none⟩ = some (.int .i64 nd) ∧ (W.alloc o).cell? ⟨c9, 0, none⟩ = some (.int .i64 yu) ∧ (W.alloc o).cell? ⟨c9, 1, none⟩ = some (.int .i64 yd) ∧ (W.alloc o).cell? ⟨w.heap.size, 3, none⟩ = some (.bool (U2 0)) ∧ (W.alloc o).cell? ⟨w.heap.size, 4, none⟩ = some (.bool (U2 1)) ∧ (W.alloc o).cell? ⟨w.heap.size, 5, none⟩ = some (.bool (U2 2)) ∧ (W.alloc o).cell? ⟨w.heap.size, 6, none⟩ = some (.bool (U2 3)) ∧ Below wy.heap.size wy (W.alloc o))) := fun W o hs => ⟨cell_alloc hs.1, cell_alloc hs.2.1, cell_alloc hs.2.2.1, cell_alloc hs.2.2.2.1, cell_alloc hs.2.2.2.2.1, cell_alloc hs.2.2.2.2.2.1, cell_alloc hs.2.2.2.2.2.2.1, cell_alloc hs.2.2.2.2.2.2.2.1, Below.alloc hs.2.2.2.2.2.2.2.2 (Below.size hs.2.2.2.2.2.2.2.2) _⟩
            have S7 : Hid (∀ (W : World) (z0 z1 z2 z3 z4 z5 z6 : Value), (W.cell? ⟨w.heap.size, 0, none⟩ = some (.int .i64 nu) ∧ W.cell? ⟨w.heap.size, 1, none⟩ = some (.int .i64 nd) ∧ W.cell? ⟨c9, 0, none⟩ = some (.int .i64 yu) ∧ W.cell? ⟨c9, 1, none⟩ = some (.int .i64 yd) ∧ W.cell? ⟨w.heap.size, 3, none⟩ = some (.bool (U2 0)) ∧ W.cell? ⟨w.heap.size, 4, none⟩ = some (.bool (U2 1)) ∧ W.cell? ⟨w.heap.size, 5, none⟩ = some (.bool (U2 2)) ∧ W.cell? ⟨w.heap.size, 6, none⟩ = some (.bool (U2 3)) ∧ Below wy.heap.size wy W) → ((((((((W.setCell ⟨wy.heap.size, 0, none⟩ z0).setCell ⟨wy.heap.size, 1, none⟩ z1).setCell ⟨wy.heap.size, 2, none⟩ z2).setCell ⟨wy.heap.size, 3, none⟩ z3).setCell ⟨wy.heap.size, 4, none⟩ z4).setCell ⟨wy.heap.size, 5, none⟩ z5).setCell ⟨wy.heap.size, 6, none⟩ z6).cell? ⟨w.heap.size, 0, none⟩ = some (.int .i64 nu) ∧ (((((((W.setCell ⟨wy.heap.size, 0, none⟩ z0).setCell ⟨wy.heap.size, 1, none⟩ z1).setCell ⟨wy.heap.size, 2, none⟩ z2).setCell ⟨wy.heap.size, 3, none⟩ z3).setCell ⟨wy.heap.size, 4, none⟩ z4).setCell ⟨wy.heap.size, 5, none⟩ z5).setCell ⟨wy.heap.size, 6, none⟩ z6).cell? ⟨w.heap.size, 1, none⟩ = some (.int .i64 nd) ∧ (((((((W.setCell ⟨wy.heap.size, 0, none⟩ z0).setCell ⟨wy.heap.size, 1, none⟩ z1).setCell ⟨wy.heap.size, 2, none⟩ z2).setCell ⟨wy.heap.size, 3, none⟩ z3).setCell ⟨wy.heap.size, 4, none⟩ z4).setCell ⟨wy.heap.size, 5, none⟩ z5).setCell ⟨wy.heap.size, 6, none⟩ z6).cell? ⟨c9, 0, none⟩ = some (.int .i64 yu) ∧ (((((((W.setCell ⟨wy.heap.size, 0, none⟩ z0).setCell ⟨wy.heap.size, 1, none⟩ z1).setCell ⟨wy.heap.size, 2, none⟩ z2).setCell ⟨wy.heap.size, 3, none⟩ z3).setCell ⟨wy.heap.size, 4, none⟩ z4).setCell ⟨wy.heap.size, 5, none⟩ z5).setCell ⟨wy.heap.size, 6, none⟩ z6).cell? ⟨c9, 1, none⟩ = some (.int .i64 yd) ∧ (((((((W.setCell ⟨wy.heap.size, 0, none⟩ z0).setCell ⟨wy.heap.size, 1, none⟩ z1).setCell ⟨wy.heap.size, 2, none⟩ z2).setCell ⟨wy.heap.size, 3, none⟩ z3).setCell ⟨wy.heap.size, 4, none⟩ z4).setCell ⟨wy.heap.size, 5, none⟩ z5).setCell ⟨wy.heap.size, 6, none⟩ z6).cell? ⟨w.heap.size, 3, none⟩ = some (.bool (U2 0)) ∧ (((((((W.setCell ⟨wy.heap.size, 0, none⟩ z0).setCell ⟨wy.heap.size, 1, none⟩ z1).setCell ⟨wy.heap.size, 2, none⟩ z2).setCell ⟨wy.heap.size, 3, none⟩ z3).setCell ⟨wy.heap.size, 4, none⟩ z4).setCell ⟨wy.heap.size, 5, none⟩ z5).setCell ⟨wy.heap.size, 6, none⟩ z6).cell? ⟨w.heap.size, 4, none⟩ = some (.bool (U2 1)) ∧ (((((((W.setCell ⟨wy.heap.size, 0, none⟩ z0).setCell ⟨wy.heap.size, 1, none⟩ z1).setCell ⟨wy.heap.size, 2, none⟩ z2).setCell ⟨wy.heap.size, 3, none⟩ z3).setCell ⟨wy.heap.size, 4, none⟩ z4).setCell ⟨wy.heap.size, 5, none⟩ z5).setCell ⟨wy.heap.size, 6, none⟩ z6).cell? ⟨w.heap.size, 5, none⟩ = some (.bool (U2 2)) ∧ (((((((W.setCell ⟨wy.heap.size, 0, none⟩ z0).setCell ⟨wy.heap.size, 1, none⟩ z1).setCell ⟨wy.heap.size, 2, none⟩ z2).setCell ⟨wy.heap.size, 3, none⟩ z3).setCell ⟨wy.heap.size, 4, none⟩ z4).setCell ⟨wy.heap.size, 5, none⟩ z5).setCell ⟨wy.heap.size, 6, none⟩ z6).cell? ⟨w.heap.size, 6, none⟩ = some (.bool (U2 3)) ∧ Below wy.heap.size wy (((((((W.setCell ⟨wy.heap.size, 0, none⟩ z0).setCell ⟨wy.heap.size, 1, none⟩ z1).setCell ⟨wy.heap.size, 2, none⟩ z2).setCell ⟨wy.heap.size, 3, none⟩ z3).setCell ⟨wy.heap.size, 4, none⟩ z4).setCell ⟨wy.heap.size, 5, none⟩ z5).setCell ⟨wy.heap.size, 6, none⟩ z6))) := fun W z0 z1 z2 z3 z4 z5 z6 hs => ⟨cell_set7 hs.1 n1, cell_set7 hs.2.1 n1, cell_set7 hs.2.2.1 n2, cell_set7 hs.2.2.2.1 n2, cell_set7 hs.2.2.2.2.1 n1, cell_set7 hs.2.2.2.2.2.1 n1, cell_set7 hs.2.2.2.2.2.2.1 n1, cell_set7 hs.2.2.2.2.2.2.2.1 n1, below_set7 hs.2.2.2.2.2.2.2.2 (Nat.le_refl _)⟩
            clear s0
            go_region_held3 (fun w' => w'.cell? ⟨w.heap.size, 0, none⟩ = some (.int .i64 nu) ∧ w'.cell? ⟨w.heap.size, 1, none⟩ = some (.int .i64 nd) ∧ w'.cell? ⟨c9, 0, none⟩ = some (.int .i64 yu) ∧ w'.cell? ⟨c9, 1, none⟩ = some (.int .i64 yd) ∧ w'.cell? ⟨w.heap.size, 3, none⟩ = some (.bool (U2 0)) ∧ w'.cell? ⟨w.heap.size, 4, none⟩ = some (.bool (U2 1)) ∧ w'.cell? ⟨w.heap.size, 5, none⟩ = some (.bool (U2 2)) ∧ w'.cell? ⟨w.heap.size, 6, none⟩ = some (.bool (U2 3)) ∧ Below wy.heap.size wy w')
              (first | with_reducible exact s6 | with_reducible exact SD.out | with_reducible exact SAD.out _ | with_reducible exact SA.out _ _ s6 | with_reducible exact S7.out _ _ _ _ _ _ _ _ s6)
              (first
                | ((with_reducible refine (HPD.out _ _ _ _ _ _ _ _ _ ?_).mono ?_); with_reducible exact SAD.out _; rintro e w6 ⟨⟨rfl, d6, s6⟩, y0, y1, y2, y3, y4, y5, y6, y7, y8, y9, y10, y11, y12, y13, y14⟩)
                | ((with_reducible refine (HP2.out _ ?_).mono ?_); with_reducible exact SD.out; rintro e w6 ⟨rfl, d6, s6⟩))
            · go_wp2_with fail
              go_meet
              exact ⟨w6.heap.size, rfl, (s6.2.2.2.2.2.2.2.2).size, IsBoxK.new w6 _ _ _ _, (s6.2.2.2.2.2.2.2.2).alloc (s6.2.2.2.2.2.2.2.2).size _⟩
            · go_wp2_with fail
              go_meet
              exact ⟨wy.heap.size, rfl, Nat.le_refl _, box_set7 y14, below_set7 (s6.2.2.2.2.2.2.2.2) (Nat.le_refl _)⟩
          case rest =>
            obtain ⟨c10, rfl, hc10, bk, hb10⟩ := hcut
            have bx3 := bx2.below hb10
            have x03 := x02.below hb10
            have x13 := x12.below hb10
            have hbl3 := hbl2.trans (hb10.mono hbl2.size)
            have g0 := bx3.cells.1.1
            have g1 := bx3.cells.1.2
            obtain ⟨m0, m1, m2, m3, m4, m5, m6⟩ := bk.cells
            have hbdr := hbl3.drew
            have bx3d : IsBoxR wc.drew c7 bu bd := bx3
            have x03d : IsBoxK wc.drew w.heap.size nu nd l U2 := x03
            have x13d : IsBoxR wc.drew (w.heap.size + 1) 0 0 := x13
            have HTB : Hid (Calls Try.prog 84 #[kv pu pd k U2, .slice (some ⟨b, off, none⟩) g.length cap, .int .i64 tt] wc.drew fun e w' => e = .returned (rv xu xd) ∧ Below wc.drew.heap.size wc.drew w' ∧ w'.cell? ⟨c7, 0, none⟩ = some (.int .i64 bu) ∧ w'.cell? ⟨c7, 1, none⟩ = some (.int .i64 bd) ∧ IsBoxR w' c7 bu bd) := (HTO.out _ hbdr).mono fun e w' h => ⟨h.1, h.2, (bx3d.below h.2).cells.1.1, (bx3d.below h.2).cells.1.2, bx3d.below h.2⟩
            have HGR : Hid (∀ wx, IsBoxR wx c7 bu bd → Calls Try.prog 67 #[rv bu bd, rv xu xd] wx fun e w' => e = .returned (rv (rMax (bu, bd) (xu, xd)).1 (rMax (bu, bd) (xu, xd)).2) ∧ Below wx.heap.size wx w' ∧ w'.cell? ⟨c7, 0, none⟩ = some (.int .i64 bu) ∧ w'.cell? ⟨c7, 1, none⟩ = some (.int .i64 bd) ∧ w'.frozen? ⟨c7, 0, none⟩ = false ∧ w'.frozen? ⟨c7, 1, none⟩ = false ∧ IsBoxR w' c7 bu bd) := fun wx hx => (greater_impl (bu, bd) (xu, xd) wx (hBk.mono (by decide)) (hXb.mono (by decide))).mono fun e w' h => ⟨h.1, h.2, (hx.below h.2).cells.1.1, (hx.below h.2).cells.1.2, (hx.below h.2).cells.2 0, (hx.below h.2).cells.2 1, hx.below h.2⟩
            clear HP2 HPD s0 c0 c1 j0 j1 p0 p1 p2 p3 n1 n2 x9 hb10 bx2 x02 x12 hbl2
            go_wp2_with fail
            go_region_law (first | (go_simp; go_at_call 84; refine HTB.out.mono ?_; rintro e w6 ⟨rfl, d6, r0, r1, r2⟩) | (go_simp; go_at_call 67; refine (HGR.out _ r2).mono ?_; rintro e w7 ⟨rfl, d7, t0, t1, t2, t3, t4⟩))
            all_goals
              have HEQ : Hid (bestK (cellX g) tt rec (U2) l (nu, nd) (k + 1) = rMax (bu, bd) (xu, xd)) := HST2.out
              have x04 := (x03d.below d6).below d7
              have x14 := (x13d.below d6).below d7
              have hbl4 := (hbdr.trans (d6.mono hbdr.size)).trans (d7.mono (Nat.le_trans hbdr.size d6.size))
              have XS := Lib.hid (t4.set (rMax (bu, bd) (xu, xd)).1 (rMax (bu, bd) (xu, xd)).2)
              have X0 := Lib.hid ((x04.other hnc1 0 (.int .i64 (rMax (bu, bd) (xu, xd)).1)).other hnc1 1 (.int .i64 (rMax (bu, bd) (xu, xd)).2))
              have X1 := Lib.hid ((x14.other hnc2 0 (.int .i64 (rMax (bu, bd) (xu, xd)).1)).other hnc2 1 (.int .i64 (rMax (bu, bd) (xu, xd)).2))
              have HB4 := Lib.hid (below_set2 (u := .int .i64 (rMax (bu, bd) (xu, xd)).1) (v := .int .i64 (rMax (bu, bd) (xu, xd)).2) hbl4 (show w.heap.size ≤ c7 by omega))
              clear x04 x14 hbl4 d6 d7 t0 t1 t2 t3 t4 r0 r1 r2 bx3 x03 x13 hbl3 hbdr bx3d x03d x13d
              generalize rMax (bu, bd) (xu, xd) = RR at *
              obtain ⟨ru, rd⟩ := RR
              go_wp2
              go_roundg gn
              case measure => omega
              case rel => exact ⟨k + 1, by have := HKN.out; omega, by go_num, by rw [HEQ.out]; exact XS.out, X0.out, X1.out, HB4.out⟩
        · rw [hu] at pk
          have HEQ := Lib.hid (HSK.out hu)
          go_wp2
          go_roundg gn
          case measure => omega
          case rel => exact ⟨k + 1, by have := HKN.out; omega, by go_num, by rw [HEQ.out]; exact bx2, x02, x12, hbl2⟩

end

end Go.Proofs.Ytiffjeclpgcabaa
