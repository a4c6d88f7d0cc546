/- What the law of Exchange draws. -/
import Derived.Test.YtiffjeclpgcabaaDrawC
namespace Go.Proofs.Ytiffjeclpgcabaa
open Go.RowKit

theorem bytes_belowX {w w' : World} {a : Option Addr} {n : Nat} (h : IsBytes w a n) (hb : Below w.heap.size w w') : IsBytes w' a n :=
  h.below hb (fun b hb h0 => by
    obtain ⟨b', off, x, rfl, hcell, _⟩ := h 0 h0
    simp at hb
    subst hb
    exact World.block_lt_of_cell? w _ hcell)

theorem results_tmp_cell {fn : Func} {p u : Tmp} {ty : TypeId} (h : fn.results = #[.tmp u, .cell p ty]) (tmps : Array Value) (P : Program) (w : World) :
    (results fn tmps).run P w =
      ((asAddr (tmps.getD p undef)).run P w).andThen fun a w₁ => ((loadVar ty a).run P w₁).andThen fun v w₂ => .ok (.tuple #[tmps.getD u undef, v]) w₂ := by
  simp only [results, h]
  simp [Sem.run_bind, Result.andThen]

theorem results_tmp_row {fn : Func} {p u : Tmp} {ty : TypeId} (h : fn.results = #[.tmp u, .cell p ty]) (tmps : Array Value) (w : World) (g : Nat) (v z : Value)
    (hp : tmps.getD p undef = .pointer (some ⟨g, 0, none⟩)) (hz : tmps.getD u undef = z) (hl : (loadVar ty ⟨g, 0, none⟩).run Try.prog w = .ok v w) :
    (results fn tmps).run Try.prog w = .ok (.tuple #[z, v]) w := by
  rw [results_tmp_cell h, hp, hz]
  have e : (asAddr (.pointer (some ⟨g, 0, none⟩))).run Try.prog w = .ok ⟨g, 0, none⟩ w := by simp [asAddr]
  rw [e]
  simp only [Result.andThen_ok, hl]

set_option maxHeartbeats 1600000 in
theorem DrawExchange_any (a : Option Addr) (n cap : Nat) (w : World) (h : IsBytes w a n) (hc : n ≤ cap) :
    Calls Try.prog 32 #[.slice a n cap] w fun e w' => ∃ x u d, e = .returned (.tuple #[.int .i64 x, rv u d]) ∧ (-1 ≤ x ∧ x ≤ 100001) ∧ (0 ≤ u ∧ u ≤ 21) ∧ (0 ≤ d ∧ d ≤ 20) ∧ Below w.heap.size w w' := by
  have r0 := IsBoxR.new w 0 0
  have b0 : Below w.heap.size w (w.alloc (.cells #[.int .i64 0, .int .i64 0] 31)) := (Below.refl _ _).alloc (Nat.le_refl _) _
  have h0 := bytes_belowX h b0
  have z0 := b0.size
  have Z1 : Hid ((w.alloc (.cells #[.int .i64 0, .int .i64 0] 31)).heap.size = w.heap.size + 1) := by show _ = _; simp
  go_enter Try.func32, Try.ntmps32
  go_wp2_with fail
  generalize w.alloc (.cells #[.int .i64 0, .int .i64 0] 31) = w0 at *
  refine (newReader_any a n cap _ h0 hc).mono ?_
  rintro e w1 ⟨rfl, h1, b1⟩
  have hl := r0.lt
  have r1 : IsBoxR w1 w.heap.size 0 0 := (b1.block _ hl).trans r0
  have b2 : Below w.heap.size w w1 := b0.trans (b1.mono b0.size)
  clear r0 b0 h0
  go_wp2_with fail
  refine (aTotal6_any _ _ a 0 _ h1 (by omega)).mono ?_
  rintro e w2 ⟨x, rfl, hx, h2, g2⟩
  have hR := h2.lt.2
  have r2 := r1.kept g2 (by simp; omega)
  have e2 : Below w.heap.size w w2 := b2.trans (below_grown g2 b2.size (fun k hk => by cases hk; exact z0))
  clear r1 g2 h1 b2
  go_wp2_with fail
  refine (one_lit [1, 3, 20, 7, 0, 21] _ 6 rfl rfl _ _ _ a _ _ h2 (by omega) (by simp) (by simp) (by first | rfl | simp)).mono ?_
  rintro e w3 ⟨u, rfl, hu, h3, g3⟩
  have hu9 : 0 ≤ u ∧ u ≤ 21 := by
    simp only [List.mem_cons, List.not_mem_nil, or_false] at hu
    omega
  have r3 := r2.kept g3 (by simp; omega)
  have e3 : Below w.heap.size w w3 := e2.trans (below_grown g3 e2.size (fun k hk => by cases hk; exact z0))
  clear hu r2 e2 g3 h2
  go_wp2_with fail
  refine (one_lit [2, 1, 3, 20, 7, 0] _ 6 rfl rfl _ _ _ a _ _ h3 (by omega) (by simp) (by simp) (by first | rfl | simp)).mono ?_
  rintro e w4 ⟨d, rfl, hd, h4, g4⟩
  have hd9 : 0 ≤ d ∧ d ≤ 20 := by
    simp only [List.mem_cons, List.not_mem_nil, or_false] at hd
    omega
  have r4 := r3.kept g4 (by simp; omega)
  have e4 : Below w.heap.size w w4 := e3.trans (below_grown g4 e3.size (fun k hk => by cases hk; exact z0))
  clear hd r3 e3 g4 h3
  obtain ⟨⟨c0, c1⟩, cf⟩ := r4.cells
  have f0 := cf 0
  have f1 := cf 1
  clear cf
  have hS : IsBoxR ((w4.setCell ⟨w.heap.size, 0, none⟩ (.int .i64 u)).setCell ⟨w.heap.size, 1, none⟩ (.int .i64 d)) w.heap.size u d := by
    have s1 := heap_setCell_same w4 w.heap.size 0 _ _ (.int .i64 u) r4
    have s2 := heap_setCell_same _ w.heap.size 1 _ _ (.int .i64 d) s1
    unfold IsBoxR
    rw [s2]
    rfl
  have e5 : Below w.heap.size w ((w4.setCell ⟨w.heap.size, 0, none⟩ (.int .i64 u)).setCell ⟨w.heap.size, 1, none⟩ (.int .i64 d)) := (e4.setCell (p := ⟨w.heap.size, 0, none⟩) (Nat.le_refl _) _).setCell (p := ⟨w.heap.size, 1, none⟩) (Nat.le_refl _) _
  have HS := Lib.hid hS
  have H5 := Lib.hid e5
  clear hS e5 r4 e4
  go_wp2
  exact bodyPost_ret (v := .tuple #[.int .i64 x, rv u d]) (results_tmp_row rfl _ _ w.heap.size (rv u d) (.int .i64 x) rfl rfl (run_loadVar_row _ _ 31 _ _ (0, 0) _ HS.out Try.underlying31 rfl (by kernel_rfl))) rfl ⟨x, u, d, rfl, hx, hu9, hd9, H5.out⟩

end Go.Proofs.Ytiffjeclpgcabaa
