/- Rounded tables, in the program. -/
import Derived.Test.YtlibfmbbchhjeaaTabFit
import Derived.Deep.QuietTactic
namespace Go.Proofs.Ytlibfmbbchhjeaa
open Go.RowKit

/-- The program's test of two tables of sums. -/
def nearTabs (g : List (List Int)) (u : Int) (o : List (List Int)) : Bool := eqT (tabFold o o.length) (fun k => nearI (tabFold o o.length k) (tabFold g g.length k) u)

def roundP (g : List (List Int)) (u : Int) (o : List (List Int)) : Bool := vGrid g u && sameB g o && nearTabs g u o

theorem wp_region_quiet_below {P : Program} {id : Nat} {Q : Exit → Act → World → Prop} {a : Act} {w : World} {l : List Oper} (hm : P.follows .mixedOrders = true) (hB : Region.lexB .any l.toArray = true)
    (h : wpQuiet P l.toArray (fun w' => Below w.heap.size w w') (fun a' => ∀ w', Below w.heap.size w w' → Q .normal a' w') l a) : (Code.region id l.toArray true).wp P Q a w :=
  wp_region_quiet (C := fun w' => Below w.heap.size w w') hm hB (Below.refl _ w).drew (by simpa using h)

theorem wpQuiet_val {P : Program} {ops : Array Oper} {C : World → Prop} {Q : Act → Prop} {a : Act} {o : Oper} {rest : List Oper} (v : Value) (hg : Region.wanted o (yielded ops a.tmps) = true) (hv : ∀ w, C w → o.quietAt P a C w v) (h : wpQuiet P ops C Q rest (a.put o.dst v)) : wpQuiet P ops C Q (o :: rest) a := by
  show if _ then _ else _
  rw [if_pos hg]
  exact ⟨v, hv, h⟩

theorem quietAt_load_row {P : Program} {C : World → Prop} {o : Oper} {a : Act} (ty : TypeId) (x : Operand) (ho : o.op = .load ty x)
    (g : Nat) (hx : a.eval x = .pointer (some ⟨g, 0, none⟩)) (t : TypeId) (cs : Array Value) (fr : Nat × Nat) (d : TypeDesc) (hg : ∀ w, C w → w.heap[g]? = some (.cells cs t fr))
    (hu : P.underlying ty = some d) (hd : (match d with | .struct _ | .array _ _ => true | _ => false) = true) (hi : (P.info? ty).map (·.size) = some cs.size) :
    ∀ w, C w → o.quietAt P a C w (.agg cs) := by
  intro w hw
  unfold Oper.quietAt execOp
  simp only [ho, hx, Instr.loadAt, Instr.sureAddr, Sem.run_bind, Sem.run_pure, Result.andThen_ok, run_loadVar_row w g t ty cs fr d (hg w hw) hu hd hi]
  exact ⟨rfl, rfl⟩

theorem quietAt_same {P : Program} {C : World → Prop} {o : Oper} {a : Act} {v : Value} (h : ∀ w, (execOp a.eval o).run P w = .ok (.value v) w) : ∀ w, C w → o.quietAt P a C w v := by
  intro w _
  unfold Oper.quietAt
  rw [h w]
  exact ⟨rfl, rfl⟩

theorem exec_eql {P : Program} {a : Act} {o : Oper} {t ty : TypeId} (x y : Operand) (xs ys : Array Value) (b : Bool) (ho : o.op = .binOp .eql t x y ty) (hx : a.eval x = .agg xs) (hy : a.eval y = .agg ys) (hm : P.eqGuardType P.depth t = false) (he : ∀ w, (binOp .eql t (.agg xs) (.agg ys)).run P w = .ok (.bool b) w) : ∀ w, (execOp a.eval o).run P w = .ok (.value (.bool b)) w := by
  intro w
  unfold execOp
  simp only [ho, hx, hy, Sem.run_bind, run_eqGuard_agg w .eql t x y xs ys hm, Result.andThen_ok, he, Sem.run_pure]

theorem quietAt_call {P : Program} {C : World → Prop} {o : Oper} {a : Act} {v : Value} (f : FuncId) (args : Array Value) (h : ∀ w, C w → (execOp a.eval o).run P w = .ok (.enter f args) w) (hc : ∀ w, C w → Calls P f args w (fun e w' => e = .returned v ∧ C w')) : ∀ w, C w → o.quietAt P a C w v := by
  intro w hw
  unfold Oper.quietAt
  rw [h w hw]
  exact ⟨rfl, hc w hw⟩

theorem sides_of_vGrid {g : List (List Int)} {u : Int} (h : vGrid g u = true) : g.length ≤ 3 ∧ (∀ i, i < g.length → (rowOf g i).length ≤ 3) := by
  obtain ⟨h1, _, h3⟩ := (vGrid_iff g u).1 h
  exact ⟨h1.2, fun i hi => (h3 i hi).2.1.2⟩

theorem small_of_vGrid {g : List (List Int)} {u : Int} (h : vGrid g u = true) : SmallT (tabFold g g.length) 450 := by
  obtain ⟨h1, _, h3⟩ := (vGrid_iff g u).1 h
  exact (tabFold_small g (fun i hi => (h3 i hi).2.1.2) (fun i k hi hk => (h3 i hi).2.2 k hk) g.length h1.2 (Nat.le_refl _)).mono (by omega)

theorem sides_of_same {g o : List (List Int)} {u : Int} (h : vGrid g u = true) (hs : sameB g o = true) : o.length ≤ 3 ∧ (∀ i, i < o.length → (rowOf o i).length ≤ 3) := by
  obtain ⟨h1, h2⟩ := sides_of_vGrid h
  obtain ⟨h3, h4⟩ := (sameB_iff g o).1 hs
  exact ⟨by omega, fun i hi => by have := h4 i (by omega); have := h2 i (by omega); omega⟩

attribute [local irreducible] tabArr tabFold nearI in
set_option maxRecDepth 100000 in
set_option maxHeartbeats 400000 in
theorem isRounded_impl (v z : Value) (g o : List (List Int)) (u : Int) (w : World) (hv : IsGrid w v g) (hz : IsGrid w z o) (hl : g.length ≤ 9223372036854775807) (hr : ∀ i, i < g.length → (rowOf g i).length ≤ 9223372036854775807) (hf : FitsG o) :
    Calls Try.prog 35 #[v, .int .i64 u, z] w fun e w' => e = .returned (.bool (roundP g u o)) ∧ Below w.heap.size w w' := by
  obtain ⟨a, cap, rfl, _⟩ := id hv
  obtain ⟨a2, cap2, rfl, _⟩ := id hz
  cases h1 : vGrid g u
  · go_enter Try.func35, Try.ntmps35
    go_wp2_with (go_at_call 70; refine (canRound_impl _ _ _ _ hv hl hr).mono ?_; rintro e w' ⟨rfl, rfl⟩)
    go_ret
    exact ⟨ret_bool (by rw [roundP, h1]; rfl), Below.refl _ _⟩
  · cases h2 : sameB g o
    · go_enter Try.func35, Try.ntmps35
      go_wp2_with (first | (go_at_call 70; refine (canRound_impl _ _ _ _ hv hl hr).mono ?_; rintro e w' ⟨rfl, rfl⟩) | (go_at_call 71; refine (sameForm_impl _ _ _ _ _ hv hz hl).mono ?_; rintro e w' ⟨rfl, nd, rfl⟩))
      go_ret
      exact ⟨ret_bool (by rw [roundP, h1, h2]; rfl), Drawn.below ⟨_, rfl⟩⟩
    · go_enter Try.func35, Try.ntmps35
      obtain ⟨hl3, hr3⟩ := sides_of_vGrid h1
      obtain ⟨ol3, or3⟩ := sides_of_same h1 h2
      have hz' : ∀ n, IsGrid (w.drewN n) (.slice a2 o.length cap2) o := fun n => hz.below (Drawn.below ⟨n, rfl⟩)
      go_wp2_with (first | (go_at_call 70; refine (canRound_impl _ _ _ _ hv hl hr).mono ?_; rintro e w' ⟨rfl, rfl⟩) | (go_at_call 71; refine (sameForm_impl _ _ _ _ _ hv hz hl).mono ?_; rintro e w' ⟨rfl, nd, rfl⟩) | (go_at_call 72; refine (tableOf_impl _ _ _ (hz' _) ol3 or3).mono ?_; rintro e wt ⟨rfl, hbt⟩; have ht0 : IsTab (wt.alloc (.cells zeroTab 65)) wt.heap.size (fun _ => 0) := isTab_zero (heap_alloc_new _ _)) | (refine wpList_store_row rfl 65 _ _ rfl wt.heap.size (tabArr (tabFold o o.length)) rfl rfl 65 _ ht0 (by kernel_rfl) (by simp [tabArr]) (by simp [tabArr, Value.oneCell']) ?_))
      have hwt : Below w.heap.size w wt := Below.trans (b := w.drewN nd) (below_drewN (Below.refl _ _) nd) hbt
      have ht1 : IsTab ((wt.alloc (.cells zeroTab 65)).setRow wt.heap.size (tabArr (tabFold o o.length))) wt.heap.size (tabFold o o.length) := setRow_heap _ _ _ _ _ _ ht0
      have hbw : Below w.heap.size w ((wt.alloc (.cells zeroTab 65)).setRow wt.heap.size (tabArr (tabFold o o.length))) :=
        below_setRow (hwt.alloc hwt.size _) hwt.size _
      have hlt1 : wt.heap.size < ((wt.alloc (.cells zeroTab 65)).setRow wt.heap.size (tabArr (tabFold o o.length))).heap.size := by simp
      change Code.wp Try.prog _ _ _ ((wt.alloc (.cells zeroTab 65)).setRow wt.heap.size (tabArr (tabFold o o.length)))
      clear ht0 hbt hz' hwt
      generalize (wt.alloc (.cells zeroTab 65)).setRow wt.heap.size (tabArr (tabFold o o.length)) = wr at *
      generalize wt.heap.size = bt at *
      have hvr := hv.below hbw
      have hsm := small_of_vGrid h1
      have hu := ((vGrid_iff g u).1 h1).2.1
      have hfT : FitT (tabFold o o.length) := tabFold_fit o hf o.length (Nat.le_refl _)
      have hload : ∀ w', Below wr.heap.size wr w' → w'.heap[bt]? = some (.cells (tabArr (tabFold o o.length)) 65 (0, 0)) := fun w' hw' => (hw'.block bt hlt1).trans ht1
      refine wp_region_quiet_below (by kernel_rfl) (by kernel_rfl) ?_
      go_simp
      refine wpQuiet_val (.agg (tabArr (tabFold o o.length))) (by kernel_rfl) (quietAt_load_row 65 _ rfl bt rfl 65 _ (0, 0) _ hload Try.underlying65 rfl (by kernel_rfl)) ?_
      go_simp
      refine wpQuiet_val (.agg (tabArr (tabFold o o.length))) (by kernel_rfl) (quietAt_load_row 65 _ rfl bt rfl 65 _ (0, 0) _ hload Try.underlying65 rfl (by kernel_rfl)) ?_
      go_simp
      refine wpQuiet_val (.slice a g.length cap) (by kernel_rfl) (quietAt_same fun _ => rfl) ?_
      have hsE : ∀ k, k < 16 → 0 ≤ tabFold g g.length k ∧ tabFold g g.length k ≤ 1000000 := fun k _ => ⟨(hsm k).1, Int.le_trans (hsm k).2 (by decide)⟩
      go_simp
      refine wpQuiet_val (.agg (tabArr (tabFold g g.length))) (by kernel_rfl) (quietAt_call 72 #[.slice a g.length cap] (fun w' _ => by go_simp) (fun w' hw' => ?_)) ?_
      · refine (tableOf_impl _ _ _ (hvr.below hw') hl3 hr3).mono ?_
        rintro e w'' ⟨rfl, hb⟩
        exact ⟨rfl, hw'.trans (hb.mono hw'.size)⟩
      go_simp
      refine wpQuiet_val (.int .i64 u) (by kernel_rfl) (quietAt_same fun _ => rfl) ?_
      go_simp
      refine wpQuiet_val (.agg (tabArr fun k => nearI (tabFold o o.length k) (tabFold g g.length k) u)) (by kernel_rfl) (quietAt_call 73 #[.agg (tabArr (tabFold o o.length)), .agg (tabArr (tabFold g g.length)), .int .i64 u] (fun w' _ => by go_simp) (fun w' hw' => ?_)) ?_
      · refine (nearestTable_impl _ _ _ _ hsE hu).mono ?_
        rintro e w'' ⟨rfl, hb⟩
        exact ⟨rfl, hw'.trans (hb.mono hw'.size)⟩
      go_simp
      refine wpQuiet_val (.bool (nearTabs g u o)) ?_ ?_ ?_
      · kernel_rfl
      · exact quietAt_same (exec_eql (.tmp 20) (.tmp 25) (tabArr (tabFold o o.length)) (tabArr fun k => nearI (tabFold o o.length k) (tabFold g g.length k) u) _ rfl rfl rfl (by kernel_rfl) (eqTab (tabFold o o.length) (fun k => nearI (tabFold o o.length k) (tabFold g g.length k) u) (fun k _ => hfT k) (fun k hk => nearI_fit (hsE k hk) hu)))
      go_simp
      refine wpQuiet_val (.bool (nearTabs g u o)) (by kernel_rfl) (quietAt_same fun _ => rfl) ?_
      refine wpQuiet_nil ?_
      intro w' hw'
      go_wp2
      go_ret
      exact ⟨ret_bool (by rw [roundP, h1, h2]; rfl), hbw.trans (hw'.mono hbw.size)⟩

end Go.Proofs.Ytlibfmbbchhjeaa
