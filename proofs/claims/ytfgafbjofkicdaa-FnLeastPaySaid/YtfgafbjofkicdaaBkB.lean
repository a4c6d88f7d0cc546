/- A book in memory; a time is closed. -/
import Derived.Test.YtfgafbjofkicdaaBkI
import Derived.Test.YtfgafbjofkicdaaLoanL
import Derived.Laws.Rows
import Derived.Laws.Tables
import Derived.Laws.CopyOwn
import Derived.Defers
import Derived.StillTailTactics
import Derived.Deep.RegionHeld3
import Derived.Deep.AppendLies
import Derived.Maps.RangeWalk
namespace Go.Proofs.Ytfgafbjofkicdaa
open Go.RowKit

/-- The block b holds a book alone: what is left now, and the slice of what was left; what is paid now, and the slice of what was paid. -/
def IsBook (w : World) (b : Nat) (A P B T lf : Int) (ev : Value) (pd : Int) (pv : Value) : Prop :=
  w.heap[b]? = some (.cells #[.int .i64 A, .int .i64 P, .int .i64 B, .int .i64 T, .int .i64 lf, ev, .int .i64 pd, pv] 62 (0, 0))

theorem IsBook.lt {w : World} {b : Nat} {A P B T lf pd : Int} {ev pv : Value} (h : IsBook w b A P B T lf ev pd pv) : b < w.heap.size := (Array.getElem?_eq_some_iff.1 h).1
theorem IsBook.kept {w w' : World} {b : Nat} {A P B T lf pd : Int} {ev pv : Value} {row : Option Nat} (h : IsBook w b A P B T lf ev pd pv) (g : w.grownBy w' row) (hne : row ≠ some b) : IsBook w' b A P B T lf ev pd pv := (g.block b h.lt (fun e => hne e.symm)).trans h
theorem IsBook.below {w w' : World} {b : Nat} {A P B T lf pd : Int} {ev pv : Value} (h : IsBook w b A P B T lf ev pd pv) (hb : Below w.heap.size w w') : IsBook w' b A P B T lf ev pd pv := (hb.block _ h.lt).trans h
/-- The eight cells, and that they may be written. -/
theorem IsBook.cells {w : World} {b : Nat} {A P B T lf pd : Int} {ev pv : Value} (h : IsBook w b A P B T lf ev pd pv) :
    (w.cell? ⟨b, 0, none⟩ = some (.int .i64 A) ∧ w.cell? ⟨b, 1, none⟩ = some (.int .i64 P) ∧ w.cell? ⟨b, 2, none⟩ = some (.int .i64 B) ∧ w.cell? ⟨b, 3, none⟩ = some (.int .i64 T) ∧ w.cell? ⟨b, 4, none⟩ = some (.int .i64 lf) ∧ w.cell? ⟨b, 5, none⟩ = some ev ∧ w.cell? ⟨b, 6, none⟩ = some (.int .i64 pd) ∧ w.cell? ⟨b, 7, none⟩ = some pv) ∧ ∀ j, w.frozen? ⟨b, j, none⟩ = false := by
  refine ⟨⟨?_, ?_, ?_, ?_, ?_, ?_, ?_, ?_⟩, fun j => frozen_of_row w b j _ _ h⟩
  · rw [cell_of_row w b 0 _ _ _ h]; rfl
  · rw [cell_of_row w b 1 _ _ _ h]; rfl
  · rw [cell_of_row w b 2 _ _ _ h]; rfl
  · rw [cell_of_row w b 3 _ _ _ h]; rfl
  · rw [cell_of_row w b 4 _ _ _ h]; rfl
  · rw [cell_of_row w b 5 _ _ _ h]; rfl
  · rw [cell_of_row w b 6 _ _ _ h]; rfl
  · rw [cell_of_row w b 7 _ _ _ h]; rfl
theorem IsBook.set4 {w : World} {b : Nat} {A P B T lf pd : Int} {ev pv : Value} (h : IsBook w b A P B T lf ev pd pv) (x : Int) : IsBook (w.setCell ⟨b, 4, none⟩ (.int .i64 x)) b A P B T x ev pd pv := by
  have h1 := heap_setCell_same w b 4 _ _ (.int .i64 x) h
  unfold IsBook; rw [h1]; rfl
theorem IsBook.set5 {w : World} {b : Nat} {A P B T lf pd : Int} {ev pv : Value} (h : IsBook w b A P B T lf ev pd pv) (x : Value) : IsBook (w.setCell ⟨b, 5, none⟩ x) b A P B T lf x pd pv := by
  have h1 := heap_setCell_same w b 5 _ _ x h
  unfold IsBook; rw [h1]; rfl
theorem IsBook.set6 {w : World} {b : Nat} {A P B T lf pd : Int} {ev pv : Value} (h : IsBook w b A P B T lf ev pd pv) (x : Int) : IsBook (w.setCell ⟨b, 6, none⟩ (.int .i64 x)) b A P B T lf ev x pv := by
  have h1 := heap_setCell_same w b 6 _ _ (.int .i64 x) h
  unfold IsBook; rw [h1]; rfl
theorem IsBook.set7 {w : World} {b : Nat} {A P B T lf pd : Int} {ev pv : Value} (h : IsBook w b A P B T lf ev pd pv) (x : Value) : IsBook (w.setCell ⟨b, 7, none⟩ x) b A P B T lf ev pd x := by
  have h1 := heap_setCell_same w b 7 _ _ x h
  unfold IsBook; rw [h1]; rfl

theorem grown_setCellB (w : World) (b j : Nat) (v : Value) : w.grownBy (w.setCell ⟨b, j, none⟩ v) (some b) := ⟨rfl, rfl, rfl, by simp, fun k _ hk => heap_setCell_other w ⟨b, j, none⟩ k _ (fun e => hk (by simp [e]))⟩

/-- A book and its two slices, each alone in its block, none below n0. -/
structure BookSt (w : World) (n0 b : Nat) (A P B T lf pd : Int) (xs ys : List Int) (ev pv : Value) : Prop where
  bk : IsBook w b A P B T lf ev pd pv
  oe : Own w n0 ev xs
  op : Own w n0 pv ys
  ap : Apart ev pv
  ne : ev.ownBlock ≠ some b
  np : pv.ownBlock ≠ some b
  lo : n0 ≤ b

theorem Moved.ne {w : World} {v v' : Value} {b : Nat} (h : Moved w v v') (hne : v.ownBlock ≠ some b) (hb : b < w.heap.size) : v'.ownBlock ≠ some b := by
  rcases h with h | ⟨k, h, hk⟩
  · rw [h]; exact hne
  · rw [h]; intro e; cases e; omega

theorem apart_row {u v : Value} (h : Apart u v) : u.ownBlock = none ∨ u.ownBlock ≠ v.ownBlock := h

theorem grown_drewB (w : World) : w.grownBy w.drew none := ⟨rfl, rfl, rfl, Nat.le_refl _, fun _ _ _ => rfl⟩

/-- append(s, y) as a step of a region: the number y lies at ad. -/
theorem step_push1 {ops : Array Oper} {o : Oper} {a : Act} {K : Act → World → Prop} {Q : Exit → Act → World → Prop} {E : Prop} {wr : World} {s x : Operand} {B cu : Nat} {v : Value} {xs : List Int} {y : Int} {ad : Addr}
    (hown : Own wr B v xs) (h0 : wr.cell? (ad.add 0) = some (.int .i64 y)) (hlen : xs.length ≤ 1048576) (hB : B ≤ wr.heap.size)
    (hgd : Region.wanted o (yielded ops a.tmps) = true := by rfl)
    (ho : o.op = .call { callee := .builtin .append, args := #[s, x], argTypes := #[33, 33] } := by rfl)
    (hs : a.eval s = v := by rfl) (hx : a.eval x = .slice (some ad) 1 cu := by rfl)
    (h : ∀ g cap w', Own w' B (sl g (xs.length + 1) cap) (xs ++ [y]) → wr.grownBy w' v.ownBlock → Moved wr v (sl g (xs.length + 1) cap) → K (a.put o.dst (sl g (xs.length + 1) cap)) w') :
    if Region.wanted o (yielded ops a.tmps) = true then Oper.wp Try.prog o a wr K Q else E := by
  obtain ⟨i0, hi, hz0, hz1, hz2⟩ := info_parts infoInt
  have hnews : ∀ j z, ([.int .i64 y] : List Value)[j]? = some z → wr.cell? (ad.add j) = some z := by
    intro j z hj
    match j with
    | 0 => simp at hj; subst hj; exact h0
    | j + 1 => simp at hj
  rw [if_pos hgd]
  obtain ⟨v', w', hr, g2, g3, _, g5⟩ := run_append_own_at (P := Try.prog) wr B 33 o.type 3 i0 (.int .i64 0) 1 8 Try.underlying33 hi hz0 hz1 hz2 rfl (by decide) v xs.length (xs.map (Value.int .i64)) hown ad 1 cu [.int .i64 y] (by simp) hnews (by intro u hu; simp at hu; subst hu; rfl) (by unfold maxLen; omega) (by omega) hB
  unfold Oper.wp execOp
  simp only [ho, resolve, invoke, builtin, Sem.run_bind, Sem.run_pure, Result.andThen_ok, List.map_toArray, List.map_cons, List.map_nil, hs, hx, hr]
  obtain ⟨g, cap, rfl, _, _⟩ := g2.form (by omega)
  refine h g cap w' ?_ g3 ?_
  · unfold Own
    rw [List.map_append, List.length_append]
    exact g2
  · rcases g5 with g5 | g5
    · exact .inl g5
    · exact .inr ⟨_, g5, Nat.le_refl _⟩

theorem cell_new1 (w : World) (y : Int) : (w.alloc (.cells #[.int .i64 y] 3)).cell? ((⟨w.heap.size, 0, none⟩ : Addr).add 0) = some (.int .i64 y) := by
  have h : (w.alloc (.cells #[.int .i64 y] 3)).heap[w.heap.size]? = some (.cells #[.int .i64 y] 3 (0, 0)) := heap_alloc_new w _
  rw [Go.WideShapes.add_plain, cell_of_row _ _ 0 _ _ _ h]
  rfl

/-- Behind the append for what is left. -/
theorem BookSt.pushE {w w1 : World} {n0 b : Nat} {A P B T lf pd : Int} {xs ys : List Int} {ev pv v1 : Value} (h : BookSt w n0 b A P B T lf pd xs ys ev pv) (o1 : Own w1 n0 v1 (xs ++ [lf])) (g : w.grownBy w1 ev.ownBlock) (m : Moved w ev v1) :
    BookSt (w1.setCell ⟨b, 5, none⟩ v1) n0 b A P B T lf pd (xs ++ [lf]) ys v1 pv := by
  have hb := h.bk.lt
  have n1 := m.ne h.ne hb
  have gs := grown_setCellB w1 b 5 v1
  exact ⟨(h.bk.kept g h.ne).set5 v1, o1.kept gs (.inr n1), (h.op.kept g h.ap.symm).kept gs (.inr h.np), (Apart.moved h.ap.symm m h.op).symm, n1, h.np, h.lo⟩
theorem BookSt.pushP {w w1 : World} {n0 b : Nat} {A P B T lf pd : Int} {xs ys : List Int} {ev pv v1 : Value} (h : BookSt w n0 b A P B T lf pd xs ys ev pv) (o1 : Own w1 n0 v1 (ys ++ [pd])) (g : w.grownBy w1 pv.ownBlock) (m : Moved w pv v1) :
    BookSt (w1.setCell ⟨b, 7, none⟩ v1) n0 b A P B T lf pd xs (ys ++ [pd]) ev v1 := by
  have hb := h.bk.lt
  have n1 := m.ne h.np hb
  have gs := grown_setCellB w1 b 7 v1
  exact ⟨(h.bk.kept g h.np).set7 v1, (h.oe.kept g h.ap).kept gs (.inr h.ne), o1.kept gs (.inr n1), Apart.moved h.ap m h.oe, h.ne, n1, h.lo⟩
/-- Behind a draw or a new block. -/
theorem BookSt.grown {w w1 : World} {n0 b : Nat} {A P B T lf pd : Int} {xs ys : List Int} {ev pv : Value} (h : BookSt w n0 b A P B T lf pd xs ys ev pv) (g : w.grownBy w1 none) : BookSt w1 n0 b A P B T lf pd xs ys ev pv :=
  ⟨h.bk.kept g (by simp), h.oe.kept g (by by_cases e : ev.ownBlock = none; exact .inl e; exact .inr e), h.op.kept g (by by_cases e : pv.ownBlock = none; exact .inl e; exact .inr e), h.ap, h.ne, h.np, h.lo⟩

set_option maxRecDepth 100000 in
set_option maxHeartbeats 6400000 in
theorem closeTime_d (u : FrameMode) (w : World) (n0 b s : Nat) (A P B T lf pd : Int) (xs ys : List Int) (ev pv : Value) (hst : BookSt w n0 b A P B T lf pd xs ys ev pv) (hn : n0 ≤ w.heap.size) (hl : xs.length ≤ 1000 ∧ ys.length ≤ 1000) (c0 : w.cell? ⟨s, 0, none⟩ = some (.pointer (some ⟨b, 4, none⟩))) (c1 : w.cell? ⟨s, 1, none⟩ = some (.pointer (some ⟨b, 6, none⟩))) (hse : ev.ownBlock ≠ some s) :
    CallsD Try.prog 75 #[.slice (some ⟨s, 0, none⟩) 2 2] u w fun e u' w' => u' = u ∧ e = .returned (.tuple #[]) ∧ (∃ ev' pv', BookSt w' n0 b A P B T lf pd (xs ++ [lf]) (ys ++ [pd]) ev' pv') ∧ Below n0 w w' := by
  have hs := World.block_lt_of_cell? w _ c0
  have hbb := hst.bk.lt
  have SA := Lib.hid (hst.grown (w1 := w.drew) (grown_drewB w))
  obtain ⟨⟨_, _, _, _, b4, b5, _, _⟩, bf⟩ := hst.bk.cells
  have f5 := bf 5
  have hl1 : xs.length ≤ 1048576 := by omega
  have hl2 : ys.length ≤ 1048576 := by omega
  go_enter_d Try.func75, Try.ntmps75
  go_wp2
  refine wp_loop_rounds 3 ?_
  rw [rounds_succ]
  go_wp2
  go_region_law ((refine step_push1 (s := .tmp 14) (x := .tmp 19) (B := n0) (y := lf) (xs := xs) (ad := ⟨w.heap.size, 0, none⟩) (SA.out.grown (World.grownBy_alloc _ _ none)).oe (cell_new1 w.drew lf) hl1 (by simp <;> omega) (h := ?_); intro g1 cp1 w1 own1 gr1 mv1; have hc1 := (((SA.out.grown (World.grownBy_alloc _ (.cells #[.int .i64 lf] 3) none)).bk.kept gr1 (SA.out.grown (World.grownBy_alloc _ (.cells #[.int .i64 lf] 3) none)).ne).cells); have g5 := hc1.1.2.2.2.2.2.1; have h5 := hc1.2 5))
  all_goals
    have SB := SA.out.grown (World.grownBy_alloc w.drew (.cells #[.int .i64 lf] 3) none)
    have S2 := SB.pushE own1 gr1 mv1
    have gA : w.grownBy w1 ev.ownBlock := ((grown_drewB w).trans (World.grownBy_alloc w.drew (.cells #[.int .i64 lf] 3) none)).but _ |>.trans gr1
    have d1 : w1.cell? ⟨s, 1, none⟩ = some (.pointer (some ⟨b, 6, none⟩)) := (gA.cell_far ⟨s, 1, none⟩ hs (fun e => hse e.symm)).trans c1
    have hB1 := hst.oe.pushed_below gA hn
    have z1 := gA.size
    have d2 : (w1.setCell ⟨b, 5, none⟩ (sl g1 (xs.length + 1) cp1)).cell? ⟨s, 1, none⟩ = some (.pointer (some ⟨b, 6, none⟩)) := (World.cell?_setCell_other _ _ _ _ (by intro e; simp at e)).trans d1
    have B2 : Below n0 w (w1.setCell ⟨b, 5, none⟩ (sl g1 (xs.length + 1) cp1)) := hB1.setCell (by exact hst.lo) _
    have z2 : w.heap.size ≤ (w1.setCell ⟨b, 5, none⟩ (sl g1 (xs.length + 1) cp1)).heap.size := B2.size
    clear SB hc1 own1 gr1 mv1 gA d1 hB1 z1 g5 h5 b4 b5 f5 bf SA
    generalize w1.setCell ⟨b, 5, none⟩ (sl g1 (xs.length + 1) cp1) = w2 at *
    have SA := Lib.hid (S2.grown (w1 := w2.drew) (grown_drewB w2))
    obtain ⟨⟨_, _, _, _, _, _, b6, b7⟩, bf⟩ := S2.bk.cells
    have f7 := bf 7
    have hb2 := S2.bk.lt
    go_wp2
    rw [rounds_succ]
    go_wp2
    go_region_law ((refine step_push1 (s := .tmp 14) (x := .tmp 19) (B := n0) (y := pd) (xs := ys) (ad := ⟨w2.heap.size, 0, none⟩) (SA.out.grown (World.grownBy_alloc _ _ none)).op (cell_new1 w2.drew pd) hl2 (by simp <;> omega) (h := ?_); intro g3 cp3 w3 own3 gr3 mv3; have hc3 := (((SA.out.grown (World.grownBy_alloc _ (.cells #[.int .i64 pd] 3) none)).bk.kept gr3 (SA.out.grown (World.grownBy_alloc _ (.cells #[.int .i64 pd] 3) none)).np).cells); have g7 := hc3.1.2.2.2.2.2.2.2; have h7 := hc3.2 7))
    all_goals
      have SB := SA.out.grown (World.grownBy_alloc w2.drew (.cells #[.int .i64 pd] 3) none)
      have S4 := SB.pushP own3 gr3 mv3
      have gA : w2.grownBy w3 pv.ownBlock := ((grown_drewB w2).trans (World.grownBy_alloc w2.drew (.cells #[.int .i64 pd] 3) none)).but _ |>.trans gr3
      have hB3 := S2.op.pushed_below gA (by omega)
      have B4 : Below n0 w (w3.setCell ⟨b, 7, none⟩ (sl g3 (ys.length + 1) cp3)) := B2.trans (hB3.setCell (by exact hst.lo) _)
      clear SB hc3 own3 gr3 mv3 gA hB3 g7 h7 b6 b7 f7 bf SA
      generalize w3.setCell ⟨b, 7, none⟩ (sl g3 (ys.length + 1) cp3) = w4 at *
      go_wp2
      rw [rounds_succ]
      go_wp2
      go_end0
      exact ⟨rfl, ⟨_, _, S4⟩, B4⟩

end Go.Proofs.Ytfgafbjofkicdaa
