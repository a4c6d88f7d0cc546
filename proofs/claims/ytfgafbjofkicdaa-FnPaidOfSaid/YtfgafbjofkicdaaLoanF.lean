/- DrawLeftAfter, DrawPaidOf. -/
import Derived.Test.YtfgafbjofkicdaaLoanE
import Derived.Test.YtfgafbjofkicdaaLoanT
import Derived.Deep.RegionHeld3
import Derived.Laws.ResultCell
import Derived.Laws.Rows
namespace Go.Proofs.Ytfgafbjofkicdaa
open Go.RowKit

/-- Where the drawing of a loan and a pay stands. -/
structure PaySt (w w' : World) (R : Nat) (a : Option Addr) (q : Nat) (g2 g3 : Nat) (A P B T : Int) : Prop where
  rd : HasReader w' R R a q
  l : IsBoxL w' g3 A P B T
  r : IsBoxL w' g2 0 0 0 0
  ne2 : g2 ≠ R
  ne3 : g3 ≠ R
  lo2 : w.heap.size ≤ g2
  loR : w.heap.size ≤ R
  b : Below w.heap.size w w'

theorem PaySt.pick {w w1 w2 : World} {R : Nat} {a : Option Addr} {q q' g2 g3 : Nat} {A P B T : Int} (s : PaySt w w1 R a q g2 g3 A P B T) (h : HasReader w2 R R a q') (g : w1.grownBy w2 (some R)) : PaySt w w2 R a q' g2 g3 A P B T :=
  ⟨h, s.l.kept g (by have := s.ne3; simp; omega), s.r.kept g (by have := s.ne2; simp; omega), s.ne2, s.ne3, s.lo2, s.loR, s.b.trans (below_grown g s.b.size (fun k hk => by cases hk; exact s.loR))⟩
theorem PaySt.later {w w1 w2 : World} {R : Nat} {a : Option Addr} {q g2 g3 : Nat} {A P B T : Int} (s : PaySt w w1 R a q g2 g3 A P B T) (h : Below w1.heap.size w1 w2) : PaySt w w2 R a q g2 g3 A P B T :=
  ⟨s.rd.later h, (h.block _ s.l.lt).trans s.l, (h.block _ s.r.lt).trans s.r, s.ne2, s.ne3, s.lo2, s.loR, s.b.trans (h.mono s.b.size)⟩
theorem PaySt.held {w w1 : World} {R : Nat} {a : Option Addr} {q g2 g3 : Nat} {A P B T : Int} (s : PaySt w w1 R a q g2 g3 A P B T) : w1.cell? ⟨g3, 0, none⟩ = some (.int .i64 A) ∧ w1.cell? ⟨g3, 1, none⟩ = some (.int .i64 P) ∧ w1.cell? ⟨g3, 2, none⟩ = some (.int .i64 B) ∧ w1.cell? ⟨g3, 3, none⟩ = some (.int .i64 T) := s.l.cells.1

theorem held_set4 {w1 : World} {g2 g3 : Nat} {A P B T : Int} (h : w1.cell? ⟨g3, 0, none⟩ = some (.int .i64 A) ∧ w1.cell? ⟨g3, 1, none⟩ = some (.int .i64 P) ∧ w1.cell? ⟨g3, 2, none⟩ = some (.int .i64 B) ∧ w1.cell? ⟨g3, 3, none⟩ = some (.int .i64 T)) (hne : g2 ≠ g3) (v0 v1 v2 v3 : Value) :
    ((((w1.setCell ⟨g2, 0, none⟩ v0).setCell ⟨g2, 1, none⟩ v1).setCell ⟨g2, 2, none⟩ v2).setCell ⟨g2, 3, none⟩ v3).cell? ⟨g3, 0, none⟩ = some (.int .i64 A) ∧ ((((w1.setCell ⟨g2, 0, none⟩ v0).setCell ⟨g2, 1, none⟩ v1).setCell ⟨g2, 2, none⟩ v2).setCell ⟨g2, 3, none⟩ v3).cell? ⟨g3, 1, none⟩ = some (.int .i64 P) ∧ ((((w1.setCell ⟨g2, 0, none⟩ v0).setCell ⟨g2, 1, none⟩ v1).setCell ⟨g2, 2, none⟩ v2).setCell ⟨g2, 3, none⟩ v3).cell? ⟨g3, 2, none⟩ = some (.int .i64 B) ∧ ((((w1.setCell ⟨g2, 0, none⟩ v0).setCell ⟨g2, 1, none⟩ v1).setCell ⟨g2, 2, none⟩ v2).setCell ⟨g2, 3, none⟩ v3).cell? ⟨g3, 3, none⟩ = some (.int .i64 T) := by
  have far : ∀ (W : World) (i j : Nat) (v : Value), (W.setCell ⟨g2, i, none⟩ v).cell? ⟨g3, j, none⟩ = W.cell? ⟨g3, j, none⟩ := fun W i j v => World.cell?_setCell_other _ _ _ _ (by intro e; simp at e <;> omega)
  refine ⟨?_, ?_, ?_, ?_⟩ <;> simp only [far]
  · exact h.1
  · exact h.2.1
  · exact h.2.2.1
  · exact h.2.2.2

theorem IsBoxL.set4 {w1 : World} {b : Nat} {A P B T : Int} (h : IsBoxL w1 b 0 0 0 0) : IsBoxL ((((w1.setCell ⟨b, 0, none⟩ (.int .i64 A)).setCell ⟨b, 1, none⟩ (.int .i64 P)).setCell ⟨b, 2, none⟩ (.int .i64 B)).setCell ⟨b, 3, none⟩ (.int .i64 T)) b A P B T := by
  have h1 := heap_setCell_same w1 b 0 _ _ (.int .i64 A) h
  have h2 := heap_setCell_same _ b 1 _ _ (.int .i64 P) h1
  have h3 := heap_setCell_same _ b 2 _ _ (.int .i64 B) h2
  have h4 := heap_setCell_same _ b 3 _ _ (.int .i64 T) h3
  unfold IsBoxL
  rw [h4]
  rfl

theorem below_set4 {w w1 : World} {n0 b : Nat} (h : Below n0 w w1) (hb : n0 ≤ b) (v0 v1 v2 v3 : Value) : Below n0 w ((((w1.setCell ⟨b, 0, none⟩ v0).setCell ⟨b, 1, none⟩ v1).setCell ⟨b, 2, none⟩ v2).setCell ⟨b, 3, none⟩ v3) :=
  (((h.setCell (p := ⟨b, 0, none⟩) hb _).setCell (p := ⟨b, 1, none⟩) hb _).setCell (p := ⟨b, 2, none⟩) hb _).setCell (p := ⟨b, 3, none⟩) hb _

theorem results_row_tmp {fn : Func} {p u : Tmp} {ty : TypeId} (h : fn.results = #[.cell p ty, .tmp u]) (tmps : Array Value) (w : World) (g : Nat) (v z : Value)
    (hp : tmps.getD p undef = .pointer (some ⟨g, 0, none⟩)) (hz : tmps.getD u undef = z) (hl : (loadVar ty ⟨g, 0, none⟩).run Try.prog w = .ok v w) :
    (results fn tmps).run Try.prog w = .ok (.tuple #[v, z]) w := by
  rw [results_cell_tmp h, hp, hz]
  have e : (asAddr (.pointer (some ⟨g, 0, none⟩))).run Try.prog w = .ok ⟨g, 0, none⟩ w := by simp [asAddr]
  rw [e]
  simp only [Result.andThen_ok, hl]

set_option maxHeartbeats 2000000 in
theorem DrawLeftAfter_any (a : Option Addr) (n cap : Nat) (w : World) (h : IsBytes w a n) (hc : n ≤ cap) :
    Calls Try.prog 25 #[.slice a n cap] w fun e w' => ∃ A P B T x, e = .returned (.tuple #[lv A P B T, .int .i64 x]) ∧ Below w.heap.size w w' := by
  have r0 := IsBoxL.new w 0 0 0 0
  have b0 : Below w.heap.size w (w.alloc (.cells #[.int .i64 0, .int .i64 0, .int .i64 0, .int .i64 0] 24)) := (Below.refl _ _).alloc (Nat.le_refl _) _
  have h0 := bytes_below h b0
  have z0 := b0.size
  have Z1 : Hid ((w.alloc (.cells #[.int .i64 0, .int .i64 0, .int .i64 0, .int .i64 0] 24)).heap.size = w.heap.size + 1) := by show _ = _; simp
  go_enter Try.func25, Try.ntmps25
  go_wp2_with fail
  generalize w.alloc (.cells #[.int .i64 0, .int .i64 0, .int .i64 0, .int .i64 0] 24) = w0 at *
  refine (newReader_any a n cap _ h0 hc).mono ?_
  rintro e w1 ⟨rfl, h1, b1⟩
  have hl := r0.lt
  have r1 : IsBoxL w1 w.heap.size 0 0 0 0 := (b1.block _ hl).trans r0
  have b2 : Below w.heap.size w w1 := b0.trans (b1.mono b0.size)
  clear r0 b0 h0
  go_wp2_with fail
  refine (aLoan_any _ _ a 0 _ h1 (by omega)).mono ?_
  rintro e w2 ⟨A, P, B, T, rfl, h2, g2⟩
  have hR := h2.lt.2
  have r2 := r1.kept g2 (by simp; omega)
  have b3 : Below w.heap.size w w2 := b2.trans (below_grown g2 b2.size (fun k hk => by cases hk; exact z0))
  have s3 : PaySt w (w2.alloc (.cells #[.int .i64 A, .int .i64 P, .int .i64 B, .int .i64 T] 24)) w0.heap.size a (0 + 9) w.heap.size w2.heap.size A P B T :=
    ⟨h2.later ((Below.refl _ _).alloc (Nat.le_refl _) _), IsBoxL.new _ _ _ _ _, r2.alloc _, by omega, by omega, Nat.le_refl _, z0, b3.alloc b3.size _⟩
  clear r1 g2 h2 h1 b2 b3 r2
  go_wp2
  generalize w2.alloc (.cells #[.int .i64 A, .int .i64 P, .int .i64 B, .int .i64 T] 24) = w3 at *
  generalize w2.heap.size = g3 at *
  have hR3 := s3.rd.lt.2
  have hlp := Lib.hid (LeastPay_spec A P B T)
  by_cases hneg : leastV A P B T < 0
  · generalize leastV A P B T = lp at *
    go_region_held3 (fun w' => w'.cell? ⟨g3, 0, none⟩ = some (.int .i64 A) ∧ w'.cell? ⟨g3, 1, none⟩ = some (.int .i64 P) ∧ w'.cell? ⟨g3, 2, none⟩ = some (.int .i64 B) ∧ w'.cell? ⟨g3, 3, none⟩ = some (.int .i64 T))
      (first | with_reducible exact s3.held | with_reducible exact (s3.later (Below.refl _ _).drew).held | with_reducible exact s4.held | with_reducible exact s5.held | with_reducible exact s6.held | with_reducible exact (s6.later ((Below.refl _ _).alloc (Nat.le_refl _) _)).held | with_reducible exact s7.held | with_reducible exact held_set4 s7.held (by omega) _ _ _ _)
      (first
        | ((with_reducible refine (pick_has 256 w0.heap.size w0.heap.size a _ _ (by first | exact s3.rd | exact (s3.later ((Below.refl _ _).drew)).rd) (by omega) (by omega)).mono ?_); rintro e w4 ⟨y1, rfl, _, h4, g4⟩; have s4 : PaySt w w4 w0.heap.size a (0 + 9 + 1) w.heap.size g3 A P B T := by first | exact s3.pick h4 g4 | exact (s3.later ((Below.refl _ _).drew)).pick h4 g4)
        | ((with_reducible refine (pick_has 250 w0.heap.size w0.heap.size a _ _ (by first | exact s4.rd | exact (s4.later ((Below.refl _ _).drew)).rd) (by omega) (by omega)).mono ?_); rintro e w5 ⟨y2, rfl, ⟨p0, p1, _⟩, h5, g5⟩; have p2 := p1 (by omega); have s5 : PaySt w w5 w0.heap.size a (0 + 9 + 1 + 1) w.heap.size g3 A P B T := by first | exact s4.pick h5 g5 | exact (s4.later ((Below.refl _ _).drew)).pick h5 g5)
        | ((with_reducible refine (hlp.out _).mono ?_); rintro e w6 ⟨rfl, b6⟩; have s6 : PaySt w w6 w0.heap.size a (0 + 9 + 1 + 1) w.heap.size g3 A P B T := by first | exact s5.later b6 | exact (s5.later ((Below.refl _ _).drew)).later b6)
        | ((with_reducible refine (one_lit [y1, IntKind.i64.wrap (4 * y2), 0, 0, 2000, 2001, -1] _ 7 (by simp <;> omega) rfl _ _ _ a _ _ s6.rd (by omega) (by simp) (by simp) rfl).mono ?_); rintro e w7 ⟨z, rfl, _, h7, g7⟩; have s7 := s6.pick h7 g7; obtain ⟨⟨v0, v1, v2, v3⟩, fr⟩ := s7.r.cells; have f0 := fr 0; have f1 := fr 1; have f2 := fr 2; have f3 := fr 3))
    have hE := IsBoxL.set4 (A := A) (P := P) (B := B) (T := T) s7.r
    have b7 := below_set4 s7.b (Nat.le_refl _) (.int .i64 A) (.int .i64 P) (.int .i64 B) (.int .i64 T)
    clear s3 s4 s5 s6 s7 hlp v0 v1 v2 v3 f0 f1 f2 f3
    go_wp2
    exact bodyPost_ret (v := .tuple #[lv A P B T, .int .i64 z]) (results_row_tmp rfl _ _ w.heap.size (lv A P B T) (.int .i64 z) rfl rfl (run_loadVar_row _ _ 24 _ _ (0, 0) _ hE Try.underlying24 rfl (by kernel_rfl))) rfl ⟨A, P, B, T, z, rfl, b7⟩
  · generalize leastV A P B T = lp at *
    go_region_held3 (fun w' => w'.cell? ⟨g3, 0, none⟩ = some (.int .i64 A) ∧ w'.cell? ⟨g3, 1, none⟩ = some (.int .i64 P) ∧ w'.cell? ⟨g3, 2, none⟩ = some (.int .i64 B) ∧ w'.cell? ⟨g3, 3, none⟩ = some (.int .i64 T))
      (first | with_reducible exact s3.held | with_reducible exact (s3.later (Below.refl _ _).drew).held | with_reducible exact s4.held | with_reducible exact s5.held | with_reducible exact s6.held | with_reducible exact (s6.later ((Below.refl _ _).alloc (Nat.le_refl _) _)).held | with_reducible exact s7.held | with_reducible exact held_set4 s7.held (by omega) _ _ _ _)
      (first
        | ((with_reducible refine (pick_has 256 w0.heap.size w0.heap.size a _ _ (by first | exact s3.rd | exact (s3.later ((Below.refl _ _).drew)).rd) (by omega) (by omega)).mono ?_); rintro e w4 ⟨y1, rfl, _, h4, g4⟩; have s4 : PaySt w w4 w0.heap.size a (0 + 9 + 1) w.heap.size g3 A P B T := by first | exact s3.pick h4 g4 | exact (s3.later ((Below.refl _ _).drew)).pick h4 g4)
        | ((with_reducible refine (pick_has 250 w0.heap.size w0.heap.size a _ _ (by first | exact s4.rd | exact (s4.later ((Below.refl _ _).drew)).rd) (by omega) (by omega)).mono ?_); rintro e w5 ⟨y2, rfl, ⟨p0, p1, _⟩, h5, g5⟩; have p2 := p1 (by omega); have s5 : PaySt w w5 w0.heap.size a (0 + 9 + 1 + 1) w.heap.size g3 A P B T := by first | exact s4.pick h5 g5 | exact (s4.later ((Below.refl _ _).drew)).pick h5 g5)
        | ((with_reducible refine (hlp.out _).mono ?_); rintro e w6 ⟨rfl, b6⟩; have s6 : PaySt w w6 w0.heap.size a (0 + 9 + 1 + 1) w.heap.size g3 A P B T := by first | exact s5.later b6 | exact (s5.later ((Below.refl _ _).drew)).later b6)
        | ((with_reducible refine (one_lit [y1, IntKind.i64.wrap (4 * y2), lp, 0, 2000, 2001, -1] _ 7 (by simp <;> omega) rfl _ _ _ a _ _ s6.rd (by omega) (by simp) (by simp) rfl).mono ?_); rintro e w7 ⟨z, rfl, _, h7, g7⟩; have s7 := s6.pick h7 g7; obtain ⟨⟨v0, v1, v2, v3⟩, fr⟩ := s7.r.cells; have f0 := fr 0; have f1 := fr 1; have f2 := fr 2; have f3 := fr 3))
    have hE := IsBoxL.set4 (A := A) (P := P) (B := B) (T := T) s7.r
    have b7 := below_set4 s7.b (Nat.le_refl _) (.int .i64 A) (.int .i64 P) (.int .i64 B) (.int .i64 T)
    clear s3 s4 s5 s6 s7 hlp v0 v1 v2 v3 f0 f1 f2 f3
    go_wp2
    exact bodyPost_ret (v := .tuple #[lv A P B T, .int .i64 z]) (results_row_tmp rfl _ _ w.heap.size (lv A P B T) (.int .i64 z) rfl rfl (run_loadVar_row _ _ 24 _ _ (0, 0) _ hE Try.underlying24 rfl (by kernel_rfl))) rfl ⟨A, P, B, T, z, rfl, b7⟩

set_option maxHeartbeats 2000000 in
theorem DrawPaidOf_any (a : Option Addr) (n cap : Nat) (w : World) (h : IsBytes w a n) (hc : n ≤ cap) :
    Calls Try.prog 33 #[.slice a n cap] w fun e w' => ∃ A P B T x, e = .returned (.tuple #[lv A P B T, .int .i64 x]) ∧ Below w.heap.size w w' := by
  have r0 := IsBoxL.new w 0 0 0 0
  have b0 : Below w.heap.size w (w.alloc (.cells #[.int .i64 0, .int .i64 0, .int .i64 0, .int .i64 0] 24)) := (Below.refl _ _).alloc (Nat.le_refl _) _
  have h0 := bytes_below h b0
  have z0 := b0.size
  have Z1 : Hid ((w.alloc (.cells #[.int .i64 0, .int .i64 0, .int .i64 0, .int .i64 0] 24)).heap.size = w.heap.size + 1) := by show _ = _; simp
  go_enter Try.func33, Try.ntmps33
  go_wp2_with fail
  generalize w.alloc (.cells #[.int .i64 0, .int .i64 0, .int .i64 0, .int .i64 0] 24) = w0 at *
  refine (newReader_any a n cap _ h0 hc).mono ?_
  rintro e w1 ⟨rfl, h1, b1⟩
  have hl := r0.lt
  have r1 : IsBoxL w1 w.heap.size 0 0 0 0 := (b1.block _ hl).trans r0
  have b2 : Below w.heap.size w w1 := b0.trans (b1.mono b0.size)
  clear r0 b0 h0
  go_wp2_with fail
  refine (aLoan_any _ _ a 0 _ h1 (by omega)).mono ?_
  rintro e w2 ⟨A, P, B, T, rfl, h2, g2⟩
  have hR := h2.lt.2
  have r2 := r1.kept g2 (by simp; omega)
  have b3 : Below w.heap.size w w2 := b2.trans (below_grown g2 b2.size (fun k hk => by cases hk; exact z0))
  have s3 : PaySt w (w2.alloc (.cells #[.int .i64 A, .int .i64 P, .int .i64 B, .int .i64 T] 24)) w0.heap.size a (0 + 9) w.heap.size w2.heap.size A P B T :=
    ⟨h2.later ((Below.refl _ _).alloc (Nat.le_refl _) _), IsBoxL.new _ _ _ _ _, r2.alloc _, by omega, by omega, Nat.le_refl _, z0, b3.alloc b3.size _⟩
  clear r1 g2 h2 h1 b2 b3 r2
  go_wp2
  generalize w2.alloc (.cells #[.int .i64 A, .int .i64 P, .int .i64 B, .int .i64 T] 24) = w3 at *
  generalize w2.heap.size = g3 at *
  have hR3 := s3.rd.lt.2
  have hlp := Lib.hid (LeastPay_spec A P B T)
  by_cases hneg : leastV A P B T < 0
  · generalize leastV A P B T = lp at *
    go_region_held3 (fun w' => w'.cell? ⟨g3, 0, none⟩ = some (.int .i64 A) ∧ w'.cell? ⟨g3, 1, none⟩ = some (.int .i64 P) ∧ w'.cell? ⟨g3, 2, none⟩ = some (.int .i64 B) ∧ w'.cell? ⟨g3, 3, none⟩ = some (.int .i64 T))
      (first | with_reducible exact s3.held | with_reducible exact (s3.later (Below.refl _ _).drew).held | with_reducible exact s4.held | with_reducible exact s5.held | with_reducible exact s6.held | with_reducible exact (s6.later ((Below.refl _ _).alloc (Nat.le_refl _) _)).held | with_reducible exact s7.held | with_reducible exact held_set4 s7.held (by omega) _ _ _ _)
      (first
        | ((with_reducible refine (pick_has 256 w0.heap.size w0.heap.size a _ _ (by first | exact s3.rd | exact (s3.later ((Below.refl _ _).drew)).rd) (by omega) (by omega)).mono ?_); rintro e w4 ⟨y1, rfl, _, h4, g4⟩; have s4 : PaySt w w4 w0.heap.size a (0 + 9 + 1) w.heap.size g3 A P B T := by first | exact s3.pick h4 g4 | exact (s3.later ((Below.refl _ _).drew)).pick h4 g4)
        | ((with_reducible refine (pick_has 250 w0.heap.size w0.heap.size a _ _ (by first | exact s4.rd | exact (s4.later ((Below.refl _ _).drew)).rd) (by omega) (by omega)).mono ?_); rintro e w5 ⟨y2, rfl, ⟨p0, p1, _⟩, h5, g5⟩; have p2 := p1 (by omega); have s5 : PaySt w w5 w0.heap.size a (0 + 9 + 1 + 1) w.heap.size g3 A P B T := by first | exact s4.pick h5 g5 | exact (s4.later ((Below.refl _ _).drew)).pick h5 g5)
        | ((with_reducible refine (hlp.out _).mono ?_); rintro e w6 ⟨rfl, b6⟩; have s6 : PaySt w w6 w0.heap.size a (0 + 9 + 1 + 1) w.heap.size g3 A P B T := by first | exact s5.later b6 | exact (s5.later ((Below.refl _ _).drew)).later b6)
        | ((with_reducible refine (one_lit [y1, IntKind.i64.wrap (4 * y2), 0, 0, 2000, 2001, -1] _ 7 (by simp <;> omega) rfl _ _ _ a _ _ s6.rd (by omega) (by simp) (by simp) rfl).mono ?_); rintro e w7 ⟨z, rfl, _, h7, g7⟩; have s7 := s6.pick h7 g7; obtain ⟨⟨v0, v1, v2, v3⟩, fr⟩ := s7.r.cells; have f0 := fr 0; have f1 := fr 1; have f2 := fr 2; have f3 := fr 3))
    have hE := IsBoxL.set4 (A := A) (P := P) (B := B) (T := T) s7.r
    have b7 := below_set4 s7.b (Nat.le_refl _) (.int .i64 A) (.int .i64 P) (.int .i64 B) (.int .i64 T)
    clear s3 s4 s5 s6 s7 hlp v0 v1 v2 v3 f0 f1 f2 f3
    go_wp2
    exact bodyPost_ret (v := .tuple #[lv A P B T, .int .i64 z]) (results_row_tmp rfl _ _ w.heap.size (lv A P B T) (.int .i64 z) rfl rfl (run_loadVar_row _ _ 24 _ _ (0, 0) _ hE Try.underlying24 rfl (by kernel_rfl))) rfl ⟨A, P, B, T, z, rfl, b7⟩
  · generalize leastV A P B T = lp at *
    go_region_held3 (fun w' => w'.cell? ⟨g3, 0, none⟩ = some (.int .i64 A) ∧ w'.cell? ⟨g3, 1, none⟩ = some (.int .i64 P) ∧ w'.cell? ⟨g3, 2, none⟩ = some (.int .i64 B) ∧ w'.cell? ⟨g3, 3, none⟩ = some (.int .i64 T))
      (first | with_reducible exact s3.held | with_reducible exact (s3.later (Below.refl _ _).drew).held | with_reducible exact s4.held | with_reducible exact s5.held | with_reducible exact s6.held | with_reducible exact (s6.later ((Below.refl _ _).alloc (Nat.le_refl _) _)).held | with_reducible exact s7.held | with_reducible exact held_set4 s7.held (by omega) _ _ _ _)
      (first
        | ((with_reducible refine (pick_has 256 w0.heap.size w0.heap.size a _ _ (by first | exact s3.rd | exact (s3.later ((Below.refl _ _).drew)).rd) (by omega) (by omega)).mono ?_); rintro e w4 ⟨y1, rfl, _, h4, g4⟩; have s4 : PaySt w w4 w0.heap.size a (0 + 9 + 1) w.heap.size g3 A P B T := by first | exact s3.pick h4 g4 | exact (s3.later ((Below.refl _ _).drew)).pick h4 g4)
        | ((with_reducible refine (pick_has 250 w0.heap.size w0.heap.size a _ _ (by first | exact s4.rd | exact (s4.later ((Below.refl _ _).drew)).rd) (by omega) (by omega)).mono ?_); rintro e w5 ⟨y2, rfl, ⟨p0, p1, _⟩, h5, g5⟩; have p2 := p1 (by omega); have s5 : PaySt w w5 w0.heap.size a (0 + 9 + 1 + 1) w.heap.size g3 A P B T := by first | exact s4.pick h5 g5 | exact (s4.later ((Below.refl _ _).drew)).pick h5 g5)
        | ((with_reducible refine (hlp.out _).mono ?_); rintro e w6 ⟨rfl, b6⟩; have s6 : PaySt w w6 w0.heap.size a (0 + 9 + 1 + 1) w.heap.size g3 A P B T := by first | exact s5.later b6 | exact (s5.later ((Below.refl _ _).drew)).later b6)
        | ((with_reducible refine (one_lit [y1, IntKind.i64.wrap (4 * y2), lp, 0, 2000, 2001, -1] _ 7 (by simp <;> omega) rfl _ _ _ a _ _ s6.rd (by omega) (by simp) (by simp) rfl).mono ?_); rintro e w7 ⟨z, rfl, _, h7, g7⟩; have s7 := s6.pick h7 g7; obtain ⟨⟨v0, v1, v2, v3⟩, fr⟩ := s7.r.cells; have f0 := fr 0; have f1 := fr 1; have f2 := fr 2; have f3 := fr 3))
    have hE := IsBoxL.set4 (A := A) (P := P) (B := B) (T := T) s7.r
    have b7 := below_set4 s7.b (Nat.le_refl _) (.int .i64 A) (.int .i64 P) (.int .i64 B) (.int .i64 T)
    clear s3 s4 s5 s6 s7 hlp v0 v1 v2 v3 f0 f1 f2 f3
    go_wp2
    exact bodyPost_ret (v := .tuple #[lv A P B T, .int .i64 z]) (results_row_tmp rfl _ _ w.heap.size (lv A P B T) (.int .i64 z) rfl rfl (run_loadVar_row _ _ 24 _ _ (0, 0) _ hE Try.underlying24 rfl (by kernel_rfl))) rfl ⟨A, P, B, T, z, rfl, b7⟩

end Go.Proofs.Ytfgafbjofkicdaa
