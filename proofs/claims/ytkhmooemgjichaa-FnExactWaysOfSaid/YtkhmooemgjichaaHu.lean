/- waysByGreatest: up to its go statement. -/
import Derived.Test.YtkhmooemgjichaaHt
namespace Go.Proofs.Ytkhmooemgjichaa
open Go Go.Conc Go.RowKit

/-- What stands at the go statement. -/
structure AtFork (am : Nat) (gr : Int) (P : List Int) (w : World) (c : Nat) (aS aA aG aW : Addr) (w' : World) : Prop where
  facts : ∃ g cap, KF c aS aA aG aW am gr g (am + 1) cap (wyV P) w' ∧ g ≠ c
  neS : aS.block ≠ c
  neA : aA.block ≠ c
  neG : aG.block ≠ c
  neW : aW.block ≠ c
  chan : w'.heap[c]? = some (.chan 0 #[] false 0 0 false)
  fresh : w.heap.size ≤ c
  bel : BelX w.heap.size w w'

def opsFive : Code → Array Oper
  | .seq _ (.seq _ (.seq _ (.seq _ (.seq _ (.seq (.region _ ops _) _))))) => ops
  | _ => #[]
def restSix : Code → Code
  | .seq _ (.seq _ (.seq _ (.seq _ (.seq _ (.seq _ r))))) => r
  | c => c
noncomputable def opsG : Array Oper := opsFive body24
noncomputable def restG : Code := restSix body24
/-- The record at the go statement. -/
noncomputable def goFr (s0 s1 s2 s4 s5 s7 : Value) (aS aA aG aW : Addr) (s10 s11 s12 s13 s14 s15 s16 s17 s18 s19 s20 s21 s22 s23 s24 : Value) (l : List Nat) : Frame :=
  (bN 24).at ⟨#[s0, s1, s2, .pointer (some aA), s4, s5, .pointer (some aG), s7, .pointer (some aW), .pointer (some aS), s10, s11, s12, s13, s14, s15, s16, s17, s18, s19, s20, s21, s22, s23, s24, .func (.func 43) #[] #[.pointer (some aS), .pointer (some aA), .pointer (some aG), .pointer (some aW)], undef], []⟩
    [.inRegion opsG l, .code restG]

set_option maxRecDepth 100000 in
theorem ways_fork {Q : Goroutine → World → Prop} (b off cap am : Nat) (gr : Int) (P : List Int) (w : World) (hv : IsInts w (.slice (some ⟨b, off, none⟩) (P.length + 1) cap) (P ++ [gr])) (hcap : P.length + 1 ≤ cap) (hcs : vCoins (P ++ [gr]) = true) (ham : am ≤ 120) (fs : List Frame) (hfs : PlainC fs)
    (hQ : ∀ (w' : World) (c : Nat) (aS aA aG aW : Addr) (s0 s1 s2 s4 s5 s7 s10 s11 s12 s13 s14 s15 s16 s17 s18 s19 s20 s21 s22 s23 s24 : Value), AtFork am gr P w c aS aA aG aW w' →
      Reach Try.prog (G (goFr s0 s1 s2 s4 s5 s7 aS aA aG aW s10 s11 s12 s13 s14 s15 s16 s17 s18 s19 s20 s21 s22 s23 s24 [1]) fs) w' Q) :
    Reach Try.prog (G (Frame.enter Try.prog 24 #[.slice (some ⟨b, off, none⟩) (P.length + 1) cap, .int .i64 am] .normal) fs) w Q := by
  rw [enter_bN _ Try.func24 rfl]
  simp only [Try.ntmps24, List.size_toArray, List.length_cons, List.length_nil, Nat.reduceAdd, Nat.reduceSub, Array.replicate_succ, Array.replicate_zero, List.push_toArray, List.append_toArray, List.nil_append, List.cons_append]
  have hn := PlainT.nil
  refine Reach.seq plain_prog hn hfs ?_
  refine Reach.region plain_prog (plain_code hn) hfs ?_
  simp only [List.size_toArray, List.length_cons, List.length_nil, Nat.reduceAdd, Nat.zero_add, List.range, List.range.loop]
  refine Reach.opv plain_prog (.pointer (some ⟨w.heap.size, 0, none⟩)) (w.alloc (.cells #[.int .i64 am] 3)) rfl (plain_code hn) hfs rfl rfl (by decide) (fun τ d => by simp [go_sem, execOp, Act.eval]; exact ⟨rfl, rfl⟩) ?_
  walk_nrm
  refine Reach.val plain_prog (.chan none) (plain_code hn) hfs rfl rfl (by decide) (fun τ d => by simp [go_sem, execOp, Act.eval]) ?_
  walk_nrm
  refine Reach.regionEnd plain_prog (plain_code hn) hfs ?_
  refine Reach.seq plain_prog hn hfs ?_
  refine Reach.region plain_prog (plain_code hn) hfs ?_
  simp only [List.size_toArray, List.length_cons, List.length_nil, Nat.reduceAdd, Nat.zero_add, List.range, List.range.loop]
  refine Reach.val plain_prog (.slice (some ⟨b, off, none⟩) (P.length + 1) cap) (plain_code hn) hfs rfl rfl (by decide) (fun τ d => by simp [go_sem, execOp, Act.eval]) ?_
  walk_nrm
  refine Reach.val plain_prog (.int .i64 ((P.length : Int) + 1)) (plain_code hn) hfs rfl rfl (by decide) (fun τ d => by simp [go_sem, execOp, Act.eval]) ?_
  walk_nrm
  have hw1 : IntKind.i64.wrap (P.length : Int) = (P.length : Int) := by
    have := (vc_len hcs).2
    simp only [List.length_append, List.length_cons, List.length_nil] at this
    exact IntWalk.i64_in _ ⟨by omega, by omega⟩
  refine Reach.val plain_prog (.int .i64 (P.length : Int)) (plain_code hn) hfs rfl rfl (by decide) (fun τ d => by simp [go_sem, execOp, Act.eval, hw1]) ?_
  walk_nrm
  refine Reach.val plain_prog (.int .i64 (P.length : Int)) (plain_code hn) hfs rfl rfl (by decide) (fun τ d => by simp [go_sem, execOp, Act.eval]) ?_
  walk_nrm
  refine Reach.regionEnd plain_prog (plain_code hn) hfs ?_
  refine Reach.seq plain_prog hn hfs ?_
  -- the greatest coin, the others
  have hlen : (P ++ [gr]).length = P.length + 1 := by simp
  have hb0 : w.cell? ⟨b, off + P.length, none⟩ = some (.int .i64 gr) := by
    obtain ⟨a, cp, e, h⟩ := hv
    obtain ⟨b', off', rfl, hc⟩ := h P.length (by omega)
    injection e with e1 _ _
    injection e1 with e1
    injection e1 with e1 e2
    subst e1 e2
    rw [hc]
    simp
  have hbN : b < w.heap.size := World.block_lt_of_cell? w _ hb0
  refine Reach.code plain_prog (Qx := fun a' w' => (∃ x13 x14 x15 x16 x17 x18 x19, a' = ⟨#[.slice (some ⟨b, off, none⟩) (P.length + 1) cap, .int .i64 am, undef, .pointer (some ⟨w.heap.size, 0, none⟩), .chan none, .int .i64 (P.length : Int), .pointer (some ⟨w.heap.size + 1, 0, none⟩), .slice (some ⟨b, off, none⟩) P.length cap, undef, undef, .slice (some ⟨b, off, none⟩) (P.length + 1) cap, .int .i64 ((P.length : Int) + 1), .int .i64 (P.length : Int), x13, x14, x15, x16, x17, x18, x19, undef, undef, undef, undef, undef, undef, undef], []⟩) ∧
      Same ((w.alloc (.cells #[.int .i64 am] 3)).alloc (.cells #[.int .i64 gr] 3)) w') (plain_code hn) hfs (fun a u τ d h => ?_) (fun τ => ?_) ?_
  · obtain ⟨h1, τ', d', rfl⟩ := h
    exact ⟨h1, τ, d, rfl⟩
  · have hs : (w.alloc (.cells #[.int .i64 am] 3)).heap.size = w.heap.size + 1 := World.size_alloc _ _
    have hb1 : (On (w.alloc (.cells #[.int .i64 am] 3)) τ 0).cell? ⟨b, off + P.length, none⟩ = some (.int .i64 gr) := (((Below.refl _ _).alloc (Nat.le_refl _) _ : Below w.heap.size w (w.alloc (.cells #[.int .i64 am] 3))).cell hbN).trans hb0
    have := ways_r2 (On (w.alloc (.cells #[.int .i64 am] 3)) τ 0) b off P.length cap gr (.int .i64 am) (.pointer (some ⟨w.heap.size, 0, none⟩)) (.chan none) undef undef (.slice (some ⟨b, off, none⟩) (P.length + 1) cap) (.int .i64 ((P.length : Int) + 1)) (.int .i64 (P.length : Int)) hb1 hcap
    have e : (On (w.alloc (.cells #[.int .i64 am] 3)) τ 0).heap.size = w.heap.size + 1 := hs
    rw [e] at this
    exact this
  rintro _ w2 ⟨⟨x13, x14, x15, x16, x17, x18, x19, rfl⟩, hs2⟩
  have hs2a : w2.heap.size = w.heap.size + 2 := by
    obtain ⟨τ, d, rfl⟩ := hs2
    show ((w.alloc (.cells #[.int .i64 am] 3)).alloc (.cells #[.int .i64 gr] 3)).heap.size = _
    rw [World.size_alloc, World.size_alloc]
  have hb2 : BelX w.heap.size w w2 := (BelX.of ((((Below.refl _ _).alloc (Nat.le_refl _) _ : Below w.heap.size w (w.alloc (.cells #[.int .i64 am] 3)))).alloc (by rw [World.size_alloc]; omega) _)).same hs2
  have cA2 : ∀ τ d, (On w2 τ d).cell? ⟨w.heap.size, 0, none⟩ = some (.int .i64 am) := by
    obtain ⟨τ', d', rfl⟩ := hs2
    intro τ d
    show ((w.alloc (.cells #[.int .i64 am] 3)).alloc (.cells #[.int .i64 gr] 3)).cell? ⟨w.heap.size, 0, none⟩ = _
    rw [World.cell?_alloc_past _ _ _ (by rw [World.size_alloc]; omega)]
    exact World.cell?_alloc_at _ _ _ _ rfl
  have cG2 : w2.cell? ⟨w.heap.size + 1, 0, none⟩ = some (.int .i64 gr) := by
    obtain ⟨τ', d', rfl⟩ := hs2
    show ((w.alloc (.cells #[.int .i64 am] 3)).alloc (.cells #[.int .i64 gr] 3)).cell? ⟨w.heap.size + 1, 0, none⟩ = _
    exact World.cell?_alloc_at _ _ _ _ (by rw [World.size_alloc])
  refine Reach.seq plain_prog hn hfs ?_
  refine Reach.region plain_prog (plain_code hn) hfs ?_
  simp only [List.size_toArray, List.length_cons, List.length_nil, Nat.reduceAdd, Nat.zero_add, List.range, List.range.loop]
  refine Reach.val plain_prog (.slice (some ⟨b, off, none⟩) P.length cap) (plain_code hn) hfs rfl rfl (by decide) (fun τ d => by simp [go_sem, execOp, Act.eval]) ?_
  walk_nrm
  refine Reach.val plain_prog (.int .i64 am) (plain_code hn) hfs rfl rfl (by decide) (fun τ d => by simp [go_sem, execOp, Act.eval, cA2]) ?_
  walk_nrm
  refine Reach.call plain_prog (f := 41) (args := #[.int .i64 am, .int .i64 1, .int .i64 0]) (plain_code hn) hfs rfl rfl (by decide) (fun w => by simp [go_sem, execOp, Act.eval]) (without_B am 1 0 w2 (by omega)) ?_
  rintro _ w3 ⟨g, cp, rfl, hg, ho3, hb3⟩
  walk_nrm
  have hvP : IsInts w2 (.slice (some ⟨b, off, none⟩) P.length cap) P := by
    obtain ⟨a, cp, e, h⟩ := ints_belX hv hb2
    refine ⟨_, cap, rfl, fun j hj => ?_⟩
    obtain ⟨b', off', rfl, hc⟩ := h j (by omega)
    injection e with e1 _ _
    refine ⟨b', off', e1, ?_⟩
    rw [hc, List.getD_eq_getElem?_getD, List.getElem?_append_left hj, ← List.getD_eq_getElem?_getD]
  refine Reach.call plain_prog (f := 40) (args := #[.slice (some ⟨b, off, none⟩) P.length cap, sl g (am + 1) cp, .func (.func 42) #[] #[]]) (plain_code hn) hfs rfl rfl (by decide) (fun w => by simp [go_sem, execOp, Act.eval]) (by_B P _ am g cp w2 w3 hvP (.inr ⟨gr, hcs⟩) hb3 hg ho3 ham) ?_
  rintro _ w4 ⟨rfl, ho4, hb4⟩
  walk_nrm
  refine Reach.opv plain_prog (.pointer (some ⟨w4.heap.size, 0, none⟩)) (w4.alloc (.cells #[.slice none 0 0] 23)) rfl (plain_code hn) hfs rfl rfl (by decide) (fun τ d => by simp [go_sem, execOp]; exact ⟨rfl, rfl⟩) ?_
  walk_nrm
  refine Reach.opn plain_prog (w4.alloc (.cells #[sl g (am + 1) cp] 23)) rfl (plain_code hn) hfs rfl rfl (by decide) (fun τ d => ?_) ?_
  · have e : On (w4.alloc (.cells #[.slice none 0 0] 23)) τ d = (On w4 τ d).alloc (.cells #[.slice none 0 0] 23) := rfl
    have es : w4.heap.size = (On w4 τ d).heap.size := rfl
    rw [e, es]
    simp [go_sem, execOp, Act.eval]
    rfl
  walk_nrm
  refine Reach.regionEnd plain_prog (plain_code hn) hfs ?_
  refine Reach.seq plain_prog hn hfs ?_
  refine Reach.region plain_prog (plain_code hn) hfs ?_
  simp only [List.size_toArray, List.length_cons, List.length_nil, Nat.reduceAdd, Nat.zero_add, List.range, List.range.loop]
  obtain ⟨w5, hw5⟩ : ∃ w5, w5 = w4.alloc (.cells #[sl g (am + 1) cp] 23) := ⟨_, rfl⟩
  rw [← hw5]
  refine Reach.opv plain_prog (.chan (some w5.heap.size)) (w5.alloc (.chan 0 #[] false 0 0 false)) rfl (plain_code hn) hfs rfl rfl (by decide) (fun τ d => by simp [go_sem, execOp, Act.eval]; rfl) ?_
  walk_nrm
  obtain ⟨w6, hw6⟩ : ∃ w6, w6 = w5.alloc (.chan 0 #[] false 0 0 false) := ⟨_, rfl⟩
  rw [← hw6]
  refine Reach.opv plain_prog (.pointer (some ⟨w6.heap.size, 0, none⟩)) (w6.alloc (.cells #[.chan none] 61)) rfl (plain_code hn) hfs rfl rfl (by decide) (fun τ d => by simp [go_sem, execOp]; exact ⟨rfl, rfl⟩) ?_
  walk_nrm
  refine Reach.opn plain_prog (w6.alloc (.cells #[.chan (some w5.heap.size)] 61)) rfl (plain_code hn) hfs rfl rfl (by decide) (fun τ d => ?_) ?_
  · have e : On (w6.alloc (.cells #[.chan none] 61)) τ d = (On w6 τ d).alloc (.cells #[.chan none] 61) := rfl
    have es : w6.heap.size = (On w6 τ d).heap.size := rfl
    rw [e, es]
    simp [go_sem, execOp, Act.eval]
    rfl
  walk_nrm
  refine Reach.regionEnd plain_prog (plain_code hn) hfs ?_
  refine Reach.seq plain_prog hn hfs ?_
  refine Reach.region plain_prog (plain_code hn) hfs ?_
  simp only [List.size_toArray, List.length_cons, List.length_nil, Nat.reduceAdd, Nat.zero_add, List.range, List.range.loop]
  refine Reach.val plain_prog (.func (.func 43) #[] #[.pointer (some ⟨w6.heap.size, 0, none⟩), .pointer (some ⟨w.heap.size, 0, none⟩), .pointer (some ⟨w.heap.size + 1, 0, none⟩), .pointer (some ⟨w4.heap.size, 0, none⟩)]) (plain_code hn) hfs rfl rfl (by decide) (fun τ d => by simp [go_sem, execOp, Act.eval, Instr.makeFunc]) ?_
  walk_nrm
  have s5 : w5.heap.size = w4.heap.size + 1 := by rw [hw5, World.size_alloc]
  have s6 : w6.heap.size = w5.heap.size + 1 := by rw [hw6, World.size_alloc]
  have hg4 : g < w4.heap.size := World.block_lt_of_cell? w4 _ (ho4.cell (tabL_len _ _) 0 (by omega))
  have b45 : Below w4.heap.size w4 w5 := by rw [hw5]; exact (Below.refl _ _).alloc (Nat.le_refl _) _
  have b46 : Below w4.heap.size w4 w6 := by rw [hw6]; exact b45.alloc (by omega) _
  have b47 : Below w4.heap.size w4 (w6.alloc (.cells #[.chan (some w5.heap.size)] 61)) := b46.alloc (by omega) _
  refine hQ _ w5.heap.size ⟨w6.heap.size, 0, none⟩ ⟨w.heap.size, 0, none⟩ ⟨w.heap.size + 1, 0, none⟩ ⟨w4.heap.size, 0, none⟩ _ _ _ _ _ _ _ _ _ _ _ _ _ _ _ _ _ _ _ _ _ ?_
  have h24 := hb4.size
  refine ⟨⟨g, cp, ⟨World.cell?_alloc_at _ _ _ _ rfl, ?_, ?_, ?_, fun j hj => ?_⟩, by omega⟩, by show w6.heap.size ≠ _; omega, by show w.heap.size ≠ _; omega, by show w.heap.size + 1 ≠ _; omega, by show w4.heap.size ≠ _; omega, ?_, by omega, ?_⟩
  · refine (b47.cell (p := ⟨w.heap.size, 0, none⟩) (by show w.heap.size < _; omega)).trans ?_
    have := hb4.belowOn.cell (p := ⟨w.heap.size, 0, none⟩) (by show w.heap.size < _; omega)
    exact this.trans (cA2 _ _)
  · refine (b47.cell (p := ⟨w.heap.size + 1, 0, none⟩) (by show w.heap.size + 1 < _; omega)).trans ?_
    have := hb4.belowOn.cell (p := ⟨w.heap.size + 1, 0, none⟩) (by show w.heap.size + 1 < _; omega)
    exact this.trans cG2
  · rw [World.cell?_alloc_past _ _ _ (by omega), hw6, World.cell?_alloc_past _ _ _ (by omega), hw5]
    exact World.cell?_alloc_at _ _ _ _ rfl
  · refine (b47.cell (p := ⟨g, j, none⟩) (by exact hg4)).trans ?_
    rw [ho4.cell (tabL_len _ _) j hj, tabL_at _ (by omega)]
  · show (w6.heap.push _)[w5.heap.size]? = _
    rw [Array.getElem?_push, if_neg (by omega), hw6]
    show (w5.heap.push _)[w5.heap.size]? = _
    simp
  · exact hb2.trans ((hb4.mono (by omega)).trans (BelX.of (b47.mono (by omega))))
end Go.Proofs.Ytkhmooemgjichaa
