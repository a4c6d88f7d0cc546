/- A drawn loan. -/
import Derived.Test.YtfgafbjofkicdaaLoanL
import Derived.Test.YtfgafbjofkicdaaLoanD
import Derived.Laws.Rows
import Derived.Laws.Tables
import Derived.Laws.CopyOwn
namespace Go.Proofs.Ytfgafbjofkicdaa
open Go.RowKit

theorem IsBoxL.cells {w : World} {b : Nat} {A P B T : Int} (h : IsBoxL w b A P B T) : Held w b A P B T ∧ ∀ j, w.frozen? ⟨b, j, none⟩ = false := by
  refine ⟨⟨?_, ?_, ?_, ?_⟩, fun j => frozen_of_row w b j _ _ h⟩
  · rw [cell_of_row w b 0 _ _ _ h]; rfl
  · rw [cell_of_row w b 1 _ _ _ h]; rfl
  · rw [cell_of_row w b 2 _ _ _ h]; rfl
  · rw [cell_of_row w b 3 _ _ _ h]; rfl
theorem IsBoxL.lt {w : World} {b : Nat} {A P B T : Int} (h : IsBoxL w b A P B T) : b < w.heap.size := (Array.getElem?_eq_some_iff.1 h).1
theorem IsBoxL.kept {w w' : World} {b : Nat} {A P B T : Int} {row : Option Nat} (h : IsBoxL w b A P B T) (g : w.grownBy w' row) (hne : some b ≠ row) : IsBoxL w' b A P B T := (g.block b h.lt hne).trans h
theorem IsBoxL.alloc {w : World} {b : Nat} {A P B T : Int} (h : IsBoxL w b A P B T) (o : Obj) : IsBoxL (w.alloc o) b A P B T := h.kept (World.grownBy_alloc w o none) (by simp)
theorem IsBoxL.new (w : World) (A P B T : Int) : IsBoxL (w.alloc (.cells #[.int .i64 A, .int .i64 P, .int .i64 B, .int .i64 T] 24)) w.heap.size A P B T := heap_alloc_new _ _
theorem grown_setCellL (w : World) (b j : Nat) (v : Value) : w.grownBy (w.setCell ⟨b, j, none⟩ v) (some b) := ⟨rfl, rfl, rfl, by simp, fun k _ hk => heap_setCell_other w ⟨b, j, none⟩ k _ (fun e => hk (by simp [e]))⟩
theorem IsBoxL.set0 {w : World} {b : Nat} {A P B T : Int} (h : IsBoxL w b A P B T) (x : Int) : IsBoxL (w.setCell ⟨b, 0, none⟩ (.int .i64 x)) b x P B T := by
  have h1 := heap_setCell_same w b 0 _ _ (.int .i64 x) h
  unfold IsBoxL; rw [h1]; rfl
theorem IsBoxL.set1 {w : World} {b : Nat} {A P B T : Int} (h : IsBoxL w b A P B T) (x : Int) : IsBoxL (w.setCell ⟨b, 1, none⟩ (.int .i64 x)) b A x B T := by
  have h1 := heap_setCell_same w b 1 _ _ (.int .i64 x) h
  unfold IsBoxL; rw [h1]; rfl
theorem IsBoxL.set2 {w : World} {b : Nat} {A P B T : Int} (h : IsBoxL w b A P B T) (x : Int) : IsBoxL (w.setCell ⟨b, 2, none⟩ (.int .i64 x)) b A P x T := by
  have h1 := heap_setCell_same w b 2 _ _ (.int .i64 x) h
  unfold IsBoxL; rw [h1]; rfl
theorem IsBoxL.set3 {w : World} {b : Nat} {A P B T : Int} (h : IsBoxL w b A P B T) (x : Int) : IsBoxL (w.setCell ⟨b, 3, none⟩ (.int .i64 x)) b A P B x := by
  have h1 := heap_setCell_same w b 3 _ _ (.int .i64 x) h
  unfold IsBoxL; rw [h1]; rfl

/-- Where a drawn loan stands: the reader, the loan's own block, the result's block. -/
structure LoanSt (w w' : World) (B0 R : Nat) (a : Option Addr) (q : Nat) (g2 g3 : Nat) (A P B T : Int) : Prop where
  rd : HasReader w' B0 R a q
  l : IsBoxL w' g3 A P B T
  r : IsBoxL w' g2 0 0 0 0
  lo2 : w.heap.size ≤ g2
  lo3 : w.heap.size ≤ g3
  ne : g2 ≠ g3
  Rlt : R < w.heap.size
  Ble : B0 ≤ R
  g : w.grownBy w' (some R)

theorem LoanSt.pick {w w1 w2 : World} {B0 R : Nat} {a : Option Addr} {q q' g2 g3 : Nat} {A P B T : Int} (s : LoanSt w w1 B0 R a q g2 g3 A P B T) (h : HasReader w2 B0 R a q') (g : w1.grownBy w2 (some R)) : LoanSt w w2 B0 R a q' g2 g3 A P B T :=
  have := s.lo2
  have := s.lo3
  have := s.Rlt
  ⟨h, s.l.kept g (by simp; omega), s.r.kept g (by simp; omega), s.lo2, s.lo3, s.ne, s.Rlt, s.Ble, s.g.trans g⟩

theorem LoanSt.set {w w1 w2 : World} {B0 R : Nat} {a : Option Addr} {q g2 g3 : Nat} {A P B T A' P' B' T' : Int} (s : LoanSt w w1 B0 R a q g2 g3 A P B T) (g : w1.grownBy w2 (some g3)) (h : IsBoxL w2 g3 A' P' B' T') : LoanSt w w2 B0 R a q g2 g3 A' P' B' T' :=
  have := s.lo2
  have := s.lo3
  have := s.Rlt
  have := s.Ble
  have hne := s.ne
  ⟨s.rd.kept g (fun k hk => by cases hk; omega), h, s.r.kept g (by simp; omega), s.lo2, s.lo3, s.ne, s.Rlt, s.Ble, grown_fresh s.g g (fun k hk => by cases hk; omega)⟩

theorem grown_setRowL (w : World) (b : Nat) (cs : Array Value) : w.grownBy (w.setRow b cs) (some b) :=
  ⟨rfl, rfl, rfl, by simp, fun k _ hk => setRow_other w b k cs (fun e => hk (by rw [e]))⟩

theorem loan_end {w w1 : World} {B0 R : Nat} {a : Option Addr} {q q' g2 g3 : Nat} {A P B T : Int} (s : LoanSt w w1 B0 R a q' g2 g3 A P B T) (hq : q' ≤ q + 9) (cs : Array Value) :
    ∃ A' P' B' T', Ending.returned (lv A P B T) = Ending.returned (lv A' P' B' T') ∧ HasReader (w1.setRow g2 cs) B0 R a (q + 9) ∧ w.grownBy (w1.setRow g2 cs) (some R) := by
  have h2 := s.lo2
  have h3 := s.Rlt
  have h4 := s.Ble
  exact ⟨A, P, B, T, rfl, (s.rd.kept (grown_setRowL w1 g2 cs) (fun k hk => by cases hk; omega)).more hq, grown_fresh s.g (grown_setRowL w1 g2 cs) (fun k hk => by cases hk; omega)⟩

set_option maxRecDepth 100000 in
set_option maxHeartbeats 6400000 in
theorem aLoan_any (B0 R : Nat) (a : Option Addr) (q : Nat) (w : World) (h : HasReader w B0 R a q) (hq : q ≤ 999000) :
    Calls Try.prog 51 #[.pointer (some ⟨R, 0, none⟩)] w fun e w' => ∃ A P B T, e = .returned (lv A P B T) ∧ HasReader w' B0 R a (q + 9) ∧ w.grownBy w' (some R) := by
  have hR := h.lt
  have r0 := IsBoxL.new w 0 0 0 0
  have h0 := h.later ((Below.refl _ _).alloc (Nat.le_refl _) (.cells #[.int .i64 0, .int .i64 0, .int .i64 0, .int .i64 0] 24))
  have g0 := World.grownBy_alloc w (.cells #[.int .i64 0, .int .i64 0, .int .i64 0, .int .i64 0] 24) (some R)
  go_enter Try.func51, Try.ntmps51
  go_wp2_with fail
  generalize w.alloc (.cells #[.int .i64 0, .int .i64 0, .int .i64 0, .int .i64 0] 24) = w0 at *
  refine (pick_has 256 _ _ a _ _ h0 (by omega) (by omega)).mono ?_
  rintro e w1 ⟨y1, rfl, _, h1, g1⟩
  have r1 := r0.kept g1 (by simp; omega)
  have t1 := g0.trans g1
  clear r0 g0 g1 h0
  go_wp2_with fail
  refine (pick_has 250 _ _ a _ _ h1 (by omega) (by omega)).mono ?_
  rintro e w2 ⟨y2, rfl, ⟨p0, p1, _⟩, h2, g2⟩
  have p2 := p1 (by omega)
  have r2 := r1.kept g2 (by simp; omega)
  have t2 := t1.trans g2
  clear r1 g2 h1 t1 p1
  go_wp2_with fail
  refine (one_lit [y1, 4 * y2, 1000, 100, 1, 0] _ 6 rfl rfl _ _ _ _ _ _ h2 (by omega) (by simp) (by simp) rfl).mono ?_
  rintro e w3 ⟨x, rfl, hx, h3, g3⟩
  have r3 := r2.kept g3 (by simp; omega)
  have t3 := t2.trans g3
  clear r2 g3 h2 t2 hx p0 p2
  go_wp2_with fail
  refine (one_lit [10, 5, 4, 8, 1, 3] _ 6 rfl rfl _ _ _ _ _ _ h3 (by omega) (by simp) (by simp) rfl).mono ?_
  rintro e w4 ⟨b, rfl, hb, h4, g4⟩
  have hbb : 1 ≤ b ∧ b ≤ 10 := by
    simp only [List.mem_cons, List.not_mem_nil, or_false] at hb
    omega
  have r4 := r3.kept g4 (by simp; omega)
  have t4 := t3.trans g4
  have hs4 := t4.size
  have hr4 := r4.lt
  have s5 : LoanSt w (w4.alloc (.cells #[.int .i64 x, .int .i64 0, .int .i64 b, .int .i64 0] 24)) B0 R a (q + 1 + 1 + 1 + 1) w.heap.size w4.heap.size x 0 b 0 :=
    ⟨h4.later ((Below.refl _ _).alloc (Nat.le_refl _) _), IsBoxL.new _ _ _ _ _, r4.alloc _, Nat.le_refl _, hs4, by omega, hR.2, hR.1, t4.trans (World.grownBy_alloc _ _ _)⟩
  obtain ⟨⟨c0, c1, c2, c3⟩, cf⟩ := s5.l.cells
  clear r3 g4 h3 t3 hb r4 t4 h4
  go_wp2_with fail
  generalize w4.alloc (.cells #[.int .i64 x, .int .i64 0, .int .i64 b, .int .i64 0] 24) = w5 at *
  generalize w4.heap.size = g3 at *
  refine (pick_has (b + 1) _ _ a _ _ s5.rd (by omega) (by omega)).mono ?_
  rintro e w6 ⟨y3, rfl, _, h6, g6⟩
  have s6 := s5.pick h6 g6
  clear s5 h6 g6 c0 c1 c2 c3 cf
  go_wp2_with fail
  refine (one_lit [1, 0, y3] _ 3 rfl rfl _ _ _ _ _ _ s6.rd (by omega) (by simp) (by simp) rfl).mono ?_
  rintro e w7 ⟨p, rfl, _, h7, g7⟩
  have s7 := s6.pick h7 g7
  clear s6 h7 g7
  obtain ⟨⟨c0, c1, c2, c3⟩, cf⟩ := s7.l.cells
  have f1 := cf 1
  have s8 := s7.set (grown_setCellL w7 g3 1 (.int .i64 p)) (s7.l.set1 p)
  have S8 := Lib.hid s8
  clear s8 cf
  go_wp2_with fail
  have s8 := S8.out
  clear S8 s7 c0 c1 c2 c3 f1
  refine (one_lit [4, 6, 3, 8, 2, 1] _ 6 rfl rfl _ _ _ _ _ _ s8.rd (by omega) (by simp) (by simp) (by simp)).mono ?_
  rintro e w9 ⟨t, rfl, _, h9, g9⟩
  have s9 := s8.pick h9 g9
  clear s8 h9 g9
  obtain ⟨⟨c0, c1, c2, c3⟩, cf⟩ := s9.l.cells
  have f3 := cf 3
  have s10 := s9.set (grown_setCellL w9 g3 3 (.int .i64 t)) (s9.l.set3 t)
  have S10 := Lib.hid s10
  clear s10 cf
  go_wp2_with fail
  have s10 := S10.out
  clear S10 s9 c0 c1 c2 c3 f3
  refine (pick_has 24 _ _ a _ _ s10.rd (by omega) (by omega)).mono ?_
  rintro e w11 ⟨k, rfl, _, h11, g11⟩
  have s11 := s10.pick h11 g11
  clear s10 h11 g11
  obtain ⟨⟨c0, c1, c2, c3⟩, cf⟩ := s11.l.cells
  have f0 := cf 0
  have f1 := cf 1
  have f2 := cf 2
  have f3 := cf 3
  clear cf
  by_cases k0 : k = 0
  · subst k0
    go_wp2_with fail
    refine (one_lit [-1, 1001] _ 2 rfl rfl _ _ _ _ _ _ s11.rd (by omega) (by simp) (by simp) rfl).mono ?_
    rintro e w12 ⟨z, rfl, _, h12, g12⟩
    have s12 := s11.pick h12 g12
    clear s11 h12 g12 c0 c1 c2 c3 f0 f1 f2 f3
    obtain ⟨⟨c0, c1, c2, c3⟩, cf⟩ := s12.l.cells
    have f0 := cf 0
    have s13 := s12.set (grown_setCellL w12 g3 0 (.int .i64 z)) (s12.l.set0 z)
    go_wp2_with (first | (refine wpList_load_row rfl 24 _ rfl g3 rfl 24 _ (0, 0) _ s13.l Try.underlying24 rfl (by kernel_rfl) ?_) | (refine wpList_store_row rfl 24 _ _ rfl w.heap.size #[.int .i64 z, .int .i64 p, .int .i64 b, .int .i64 t] rfl rfl 24 _ s13.r (by kernel_rfl) rfl (by simp [Value.oneCell']) ?_))
    exact bodyPost_ret (v := lv z p b t) (results_cell_row rfl _ _ w.heap.size 24 _ (0, 0) _ rfl (setRow_heap _ _ _ _ _ _ s13.r) Try.underlying24 rfl (by kernel_rfl)) rfl (loan_end s13 (by omega) _)
  by_cases k1 : k = 1
  · subst k1
    go_wp2_with fail
    refine (one_lit [0, 11] _ 2 rfl rfl _ _ _ _ _ _ s11.rd (by omega) (by simp) (by simp) rfl).mono ?_
    rintro e w12 ⟨z, rfl, _, h12, g12⟩
    have s12 := s11.pick h12 g12
    clear s11 h12 g12 c0 c1 c2 c3 f0 f1 f2 f3
    obtain ⟨⟨c0, c1, c2, c3⟩, cf⟩ := s12.l.cells
    have f2 := cf 2
    have s13 := s12.set (grown_setCellL w12 g3 2 (.int .i64 z)) (s12.l.set2 z)
    go_wp2_with (first | (refine wpList_load_row rfl 24 _ rfl g3 rfl 24 _ (0, 0) _ s13.l Try.underlying24 rfl (by kernel_rfl) ?_) | (refine wpList_store_row rfl 24 _ _ rfl w.heap.size #[.int .i64 x, .int .i64 p, .int .i64 z, .int .i64 t] rfl rfl 24 _ s13.r (by kernel_rfl) rfl (by simp [Value.oneCell']) ?_))
    exact bodyPost_ret (v := lv x p z t) (results_cell_row rfl _ _ w.heap.size 24 _ (0, 0) _ rfl (setRow_heap _ _ _ _ _ _ s13.r) Try.underlying24 rfl (by kernel_rfl)) rfl (loan_end s13 (by omega) _)
  by_cases k2 : k = 2
  · subst k2
    go_wp2_with fail
    refine (one_lit [-1, b + 1] _ 2 rfl rfl _ _ _ _ _ _ s11.rd (by omega) (by simp) (by simp) rfl).mono ?_
    rintro e w12 ⟨z, rfl, _, h12, g12⟩
    have s12 := s11.pick h12 g12
    clear s11 h12 g12 c0 c1 c2 c3 f0 f1 f2 f3
    obtain ⟨⟨c0, c1, c2, c3⟩, cf⟩ := s12.l.cells
    have f1 := cf 1
    have s13 := s12.set (grown_setCellL w12 g3 1 (.int .i64 z)) (s12.l.set1 z)
    go_wp2_with (first | (refine wpList_load_row rfl 24 _ rfl g3 rfl 24 _ (0, 0) _ s13.l Try.underlying24 rfl (by kernel_rfl) ?_) | (refine wpList_store_row rfl 24 _ _ rfl w.heap.size #[.int .i64 x, .int .i64 z, .int .i64 b, .int .i64 t] rfl rfl 24 _ s13.r (by kernel_rfl) rfl (by simp [Value.oneCell']) ?_))
    exact bodyPost_ret (v := lv x z b t) (results_cell_row rfl _ _ w.heap.size 24 _ (0, 0) _ rfl (setRow_heap _ _ _ _ _ _ s13.r) Try.underlying24 rfl (by kernel_rfl)) rfl (loan_end s13 (by omega) _)
  by_cases k3 : k = 3
  · subst k3
    go_wp2_with fail
    refine (one_lit [0, 9] _ 2 rfl rfl _ _ _ _ _ _ s11.rd (by omega) (by simp) (by simp) rfl).mono ?_
    rintro e w12 ⟨z, rfl, _, h12, g12⟩
    have s12 := s11.pick h12 g12
    clear s11 h12 g12 c0 c1 c2 c3 f0 f1 f2 f3
    obtain ⟨⟨c0, c1, c2, c3⟩, cf⟩ := s12.l.cells
    have f3 := cf 3
    have s13 := s12.set (grown_setCellL w12 g3 3 (.int .i64 z)) (s12.l.set3 z)
    go_wp2_with (first | (refine wpList_load_row rfl 24 _ rfl g3 rfl 24 _ (0, 0) _ s13.l Try.underlying24 rfl (by kernel_rfl) ?_) | (refine wpList_store_row rfl 24 _ _ rfl w.heap.size #[.int .i64 x, .int .i64 p, .int .i64 b, .int .i64 z] rfl rfl 24 _ s13.r (by kernel_rfl) rfl (by simp [Value.oneCell']) ?_))
    exact bodyPost_ret (v := lv x p b z) (results_cell_row rfl _ _ w.heap.size 24 _ (0, 0) _ rfl (setRow_heap _ _ _ _ _ _ s13.r) Try.underlying24 rfl (by kernel_rfl)) rfl (loan_end s13 (by omega) _)
  · have d0 : decide (k = 0) = false := decide_eq_false k0
    have d1 : decide (k = 1) = false := decide_eq_false k1
    have d2 : decide (k = 2) = false := decide_eq_false k2
    have d3 : decide (k = 3) = false := decide_eq_false k3
    go_wp2_with (first | (refine wpList_load_row rfl 24 _ rfl g3 rfl 24 _ (0, 0) _ s11.l Try.underlying24 rfl (by kernel_rfl) ?_) | (refine wpList_store_row rfl 24 _ _ rfl w.heap.size #[.int .i64 x, .int .i64 p, .int .i64 b, .int .i64 t] rfl rfl 24 _ s11.r (by kernel_rfl) rfl (by simp [Value.oneCell']) ?_))
    exact bodyPost_ret (v := lv x p b t) (results_cell_row rfl _ _ w.heap.size 24 _ (0, 0) _ rfl (setRow_heap _ _ _ _ _ _ s11.r) Try.underlying24 rfl (by kernel_rfl)) rfl (loan_end s11 (by omega) _)

end Go.Proofs.Ytfgafbjofkicdaa
