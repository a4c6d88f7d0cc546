/- Two taxes joined, in the program. -/
import Derived.Test.YtmeejaafbbabaaaBx
import Derived.Test.YtmeejaafbbabaaaQRound
import Derived.Test.YtmeejaafbbabaaaOwnS
import Derived.RegionIn
namespace Go.Proofs.Ytmeejaafbbabaaa
open Go.RowKit Go.Shelf
attribute [local go_sem] Oper.semAt_some

theorem OwnS.shape {w : World} {B : Nat} {v : Value} {st : List (Int × Int)} (h : OwnS w B v st) : (v = .slice none 0 0 ∧ st.length = 0) ∨ ∃ g cap, v = slS g st.length cap ∧ B ≤ g := by
  rcases h.2 with ⟨hv, hn⟩ | ⟨g, cap, cur, hv, hg, _⟩
  · exact .inl ⟨hv, hn⟩
  · exact .inr ⟨g, cap, hv, hg⟩

/-- The block of a slice of the call's own is one of cells. -/
theorem OwnS.cellsBlock {w : World} {B : Nat} {v : Value} {st : List (Int × Int)} (h : OwnS w B v st) : ∀ k o, v.ownBlock = some k → w.heap[k]? = some o → o.isCells = true := by
  intro k o hk ho
  rcases h.2 with ⟨rfl, _⟩ | ⟨g, cap, cur, rfl, _, hh, _⟩
  · cases hk
  · have : g = k := by simpa [Value.ownBlock] using hk
    subst this
    rw [hh] at ho
    cases ho
    rfl

theorem OwnS.own {W W' : World} {B : Nat} {v : Value} {st : List (Int × Int)} {row : Option Nat} (h : OwnS W B v st) (hg : W.grownBy W' row) (hr : ∀ r, row = some r → ∃ o : Obj, W.heap[r]? = some o ∧ o.isCells = false) : OwnS W' B v st := by
  refine h.kept hg ?_
  cases hv : v.ownBlock with
  | none => exact .inl rfl
  | some k =>
    refine .inr fun e => ?_
    obtain ⟨o, ho, hc⟩ := hr k e.symm
    rw [h.cellsBlock k o hv ho] at hc
    cases hc

/-- append(s, step) in a round. -/
theorem wpListIn_pushS {F : Fence} {n : Nat} {ops : Array Oper} {rest : List Oper} {o : Oper} {a : Act} {Q : Exit → Act → World → Prop} {wr : World} {s x : Operand} {B : Nat} {v : Value} {st : List (Int × Int)} {f r : Int}
    (hown : OwnS wr B v st) (hlen : st.length ≤ 1048576) (hB : B ≤ wr.heap.size) (hgd : o.guard = none := by rfl)
    (ho : o.op = .call { callee := .builtin .append, args := #[s, x], argTypes := #[23, 23] } := by rfl)
    (hs : a.eval s = v := by rfl) (hx : a.eval x = .slice (some ⟨wr.heap.size, 0, none⟩) 1 1 := by rfl)
    (h : ∀ v' w', OwnS w' B v' (st ++ [(f, r)]) → wr.grownBy w' v.ownBlock → wpListIn F n Try.prog ops Q rest (a.put o.dst v') w') :
    wpListIn F n Try.prog ops Q (o :: rest) a (wr.alloc (.cells #[.int .i64 f, .int .i64 r] 33)) := by
  obtain ⟨i0, hi, hz0, hz1, hz2⟩ := info_parts infoStep
  refine wpListIn_append_own _ hgd s x 23 ho B 33 i0 (.agg #[.int .i64 0, .int .i64 0]) 2 16 Try.underlying23 hi hz0 hz1 hz2 rfl (by decide) v st.length (cellsS st) hs (World.ownsRow.alloc hown _) ⟨wr.heap.size, 0, none⟩ 1 1 [.int .i64 f, .int .i64 r] hx rfl ?_ (by intro u hu; simp at hu; rcases hu with rfl | rfl <;> rfl) (by unfold maxLen; omega) (by omega) (by simp; omega) ?_
  · intro j u hj
    match j with
    | 0 => simp at hj; subst hj; simp [Addr.add]
    | 1 => simp at hj; subst hj; simp [Addr.add]
    | j + 2 => simp at hj
  · intro v' w' h1 h2 _
    refine h v' w' ?_ ((World.grownBy_alloc wr _ _).trans h2)
    unfold OwnS
    rw [cellsS_append, List.length_append]
    exact h1

theorem quietAt_load_slice {C : World → Prop} {o : Oper} {a : Act} (x : Operand) (ho : o.op = .load 23 x) (p : Addr) (v : Value) (hx : a.eval x = .pointer (some p)) (hc : ∀ w, C w → w.cell? p = some v) : ∀ w, C w → o.quietAt Try.prog a C w v := by
  intro w hw
  have h := hc w hw
  unfold Oper.quietAt execOp
  simp only [ho, hx, Instr.loadAt, Instr.sureAddr, Sem.run_bind, Sem.run_pure, Result.andThen_ok]
  simp [go_sem, h]

theorem quietAt_rate {C : World → Prop} {o : Oper} {a : Act} (x : Operand) (ho : o.op = .field 33 x 1) (f r : Int) (hx : a.eval x = sv f r) : ∀ w, C w → o.quietAt Try.prog a C w (.int .i64 r) := by
  refine quietAt_same fun w => ?_
  unfold execOp
  simp only [ho, hx, Sem.run_bind, field_rate, Result.andThen_ok, Sem.run_pure]

theorem quietAt_call2 {P : Program} {C : World → Prop} {o : Oper} {a : Act} {v : Value} (f : FuncId) (hf : ∀ args w, (callFunc f args).run P w = .ok (.enter f args) w) (x y : Operand) (ts : Array TypeId) (ho : o.op = .call { callee := .value (.func f), args := #[x, y], argTypes := ts }) (vx vy : Value) (hx : a.eval x = vx) (hy : a.eval y = vy)
    (hc : ∀ w, C w → Calls P f #[vx, vy] w (fun e w' => e = .returned v ∧ C w')) : ∀ w, C w → o.quietAt P a C w v :=
  quietAt_callf f hf #[x, y] ts ho #[vx, vy] (by simp [hx, hy]) hc

theorem Bx.grown {W W' : World} {b : Nat} {v : Value} {row : Option Nat} (h : Bx W b v) (hg : W.grownBy W' row) (hne : row ≠ some b) : Bx W' b v := by
  have hb := hg.block b h.lt (fun e => hne e.symm)
  exact ⟨(World.cell?_of_block hb).trans h.1, (World.frozen?_of_block hb).trans h.2⟩
theorem grown_setCell (w : World) (b : Nat) (v : Value) : w.grownBy (w.setCell ⟨b, 0, none⟩ v) (some b) := ⟨rfl, rfl, rfl, by simp, fun k _ hk => heap_setCell_other w ⟨b, 0, none⟩ k _ (fun e => hk (by simp [e]))⟩

/-- What the program's JoinSteps hands back. -/
def JoinOut (w : World) (R : List (Int × Int) × Bool) (e : Ending) (w' : World) : Prop := ∃ v', e = .returned (.tuple #[v', .bool R.2]) ∧ OwnS w' w.heap.size v' R.1 ∧ Below w.heap.size w w'

theorem ownS_nil (w : World) (B : Nat) : OwnS w B (.slice none 0 0) [] := World.ownsRow_nil w B _ _

set_option maxRecDepth 100000 in
set_option maxHeartbeats 2000000 in
theorem JoinSteps_impl (va vb : Value) (a b : List (Int × Int)) (w : World) (ha : IsSteps w va a) (hb : IsSteps w vb b) (hla : a.length ≤ 9223372036854775807) (hlb : b.length ≤ 9223372036854775807) :
    Calls Try.prog 41 #[va, vb] w (JoinOut w (joinA a b)) := by
  obtain ⟨aa, ca, rfl, _⟩ := id ha
  obtain ⟨ab, cb, rfl, _⟩ := id hb
  have hB2 : Below w.heap.size w ((w.alloc (.cells #[.slice aa a.length ca] 23)).alloc (.cells #[.slice ab b.length cb] 23)) := ((Below.refl _ w).alloc (Nat.le_refl _) _).alloc (by simp) _
  have c0 := (Bx.new w (.slice aa a.length ca) 23).alloc (.cells #[.slice ab b.length cb] 23)
  have c1 := Bx.new (w.alloc (.cells #[.slice aa a.length ca] 23)) (.slice ab b.length cb) 23
  simp only [World.size_alloc] at c1
  have hsz : ((w.alloc (.cells #[.slice aa a.length ca] 23)).alloc (.cells #[.slice ab b.length cb] 23)).heap.size = w.heap.size + 1 + 1 := by simp
  have C1 : Hid (Calls Try.prog 20 #[.slice aa a.length ca] ((w.alloc (.cells #[.slice aa a.length ca] 23)).alloc (.cells #[.slice ab b.length cb] 23)) fun e w' => e = .returned (.bool (vSteps a)) ∧ Below (w.heap.size + 1 + 1) ((w.alloc (.cells #[.slice aa a.length ca] 23)).alloc (.cells #[.slice ab b.length cb] 23)) w') := by
    rw [← hsz]; exact ValidSteps_impl _ a _ (ha.below hB2) hla
  have HZ := Lib.hid hsz
  have C0 := Lib.hid c0
  have CA := Lib.hid c1
  have HB := Lib.hid hB2
  have HVA := Lib.hid ha
  have HVB := Lib.hid hb
  refine (callsIn_wide (n := 3)).1 ?_
  refine callsIn_of_wp_marks Try.func41 rfl trivial ?_ rfl
  simp only [Try.ntmps41, List.size_toArray, List.length_cons, List.length_nil, Nat.reduceAdd, Nat.reduceSub, Array.replicate_succ, Array.replicate_zero, List.push_toArray, List.append_toArray, List.nil_append, List.cons_append]
  clear hsz c0 c1 hB2 ha hb
  gi_wp2_with fail
  refine ⟨trivial, (callsIn_wide.2 C1.out).mono ?_⟩
  rintro e w1 ⟨rfl, hb1⟩
  generalize (w.alloc (.cells #[.slice aa a.length ca] 23)).alloc (.cells #[.slice ab b.length cb] 23) = W2 at *
  have hb1' : Below W2.heap.size W2 w1 := by rw [HZ.out]; exact hb1
  have c0 := C0.out.below hb1'
  have c1 := CA.out.below hb1'
  have hB1 : Below w.heap.size w w1 := HB.out.trans (hb1'.mono HB.out.size)
  clear hb1 hb1' C0 CA HB C1 HZ
  cases h1 : vSteps a
  · have E : Hid (joinA a b = ([], false)) := by show joinA a b = _; unfold joinA; rw [h1]; rfl
    clear h1
    have d1 := c1.1
    gi_wp2
    refine ⟨trivial, ?_⟩
    gi_wp2
    exact ⟨.tuple #[.slice none 0 0, .bool false], by simp [results, Try.f41, go_sem], .slice none 0 0, by rw [E.out], by rw [E.out]; exact ownS_nil _ _, hB1⟩
  · have d1 := c1.1
    gi_wp2_with fail
    refine ⟨trivial, (callsIn_wide.2 (ValidSteps_impl _ b _ (HVB.out.below hB1) hlb)).mono ?_⟩
    rintro e w2 ⟨rfl, hb2⟩
    have e0 := c0.below hb2
    have e1 := c1.below hb2
    have hB2 : Below w.heap.size w w2 := hB1.trans (hb2.mono hB1.size)
    clear hb2 d1 c0 c1 hB1
    cases h2 : vSteps b
    · have E : Hid (joinA a b = ([], false)) := by show joinA a b = _; unfold joinA; rw [h1, h2]; rfl
      clear h1 h2
      gi_wp2
      exact ⟨.tuple #[.slice none 0 0, .bool false], by simp [results, Try.f41, go_sem], .slice none 0 0, by rw [E.out], by rw [E.out]; exact ownS_nil _ _, hB2⟩
    · have hs1 := vSteps_iff.1 h1
      have hs2 := vSteps_iff.1 h2
      gi_wp2
      have F0 := Lib.hid ((e0.alloc (.cells #[.slice none 0 0] 23)).alloc (.cells #[.int .i64 (-1)] 3))
      have F1 := Lib.hid ((e1.alloc (.cells #[.slice none 0 0] 23)).alloc (.cells #[.int .i64 (-1)] 3))
      have F2 := Lib.hid ((Bx.new w2 (.slice none 0 0) 23).alloc (.cells #[.int .i64 (-1)] 3))
      have F3' := Bx.new (w2.alloc (.cells #[.slice none 0 0] 23)) (.int .i64 (-1)) 3
      simp only [World.size_alloc] at F3'
      have F3 := Lib.hid F3'
      have F4 := Lib.hid ((hB2.alloc hB2.size (.cells #[.slice none 0 0] 23)).alloc (by simp; have := hB2.size; omega) (.cells #[.int .i64 (-1)] 3))
      have F5 : Hid (((w2.alloc (.cells #[.slice none 0 0] 23)).alloc (.cells #[.int .i64 (-1)] 3)).heap.size = w2.heap.size + 1 + 1) := by show ((w2.alloc _).alloc _).heap.size = _; simp
      have z2 : w.heap.size + 1 + 1 ≤ w2.heap.size := by have := e1.lt; omega
      generalize (w2.alloc (.cells #[.slice none 0 0] 23)).alloc (.cells #[.int .i64 (-1)] 3) = W3 at *
      clear e0 e1 hB2 F3'
      refine wpIn_rangeFunc_ownF rfl (by omega) (gf := 62) (lb := #[]) rfl trivial (enters_of Try.func62 (by kernel_rfl) rfl)
        (incomes_stops Fence.wide _ trivial rfl (by omega) w.heap.size W3) belowK_t (belowK_b F4.out.size) (Below.refl _ _) (fun _ => rfl)
        (fun (pre : List (Fin 2001)) W => (∃ v, (Bx W w.heap.size (.slice aa a.length ca) ∧ Bx W (w.heap.size + 1) (.slice ab b.length cb) ∧ Bx W w2.heap.size v ∧ Bx W (w2.heap.size + 1) (.int .i64 (joinF a b (pre.map fv)).2)) ∧ OwnS W (w2.heap.size + 1 + 1) v (joinF a b (pre.map fv)).1) ∧ Below w.heap.size w W)
        (fun _ _ _ => False)
        (OwnFrom.and (Go.Own.from (fun s A B row hs hg hr => hs.imp fun v h => ⟨⟨h.1.1.own hg hr, h.1.2.1.own hg hr, h.1.2.2.1.own hg hr, h.1.2.2.2.own hg hr⟩, h.2.own hg hr⟩) _) (ownFrom_below (Nat.le_refl _) F4.out.size))
        (fun _ _ _ _ _ hs _ _ => hs)
        ⟨⟨.slice none 0 0, ⟨F0.out, F1.out, F2.out, F3.out⟩, ownS_nil _ _⟩, F4.out⟩
        (fun x => { tmps := #[.slice aa a.length ca, .slice ab b.length cb, .pointer (some ⟨w.heap.size, 0, none⟩), .pointer (some ⟨w.heap.size + 1, 0, none⟩), .slice none 0 0, .bool false, .pointer (some ⟨w2.heap.size, 0, none⟩), .pointer (some ⟨w2.heap.size + 1, 0, none⟩), .int .i64 (fv x), undef, .slice aa a.length ca, .bool true, .bool false, .bool false, .slice ab b.length cb, .bool true, .bool false, .bool false, .int .i64 (fv x), undef, undef, undef, undef, undef, undef, undef, undef, undef, undef, undef, undef, undef, undef, undef, undef, undef, undef, undef, undef, undef, undef, undef], defers := [] }) ?assign ?body ?done ?stop
      case assign =>
        intro l x W K hK
        gi_wp2
        exact hK
      case body =>
        rintro l pre x W ⟨⟨v, ⟨b0, b1, b2, b3⟩, ho⟩, hB⟩ hlen
        have hx : 0 ≤ fv x ∧ fv x ≤ 2000 := by unfold fv; have := x.isLt; omega
        have hBw : Below w.heap.size w W := hB
        have r1 := hs1.rt _ (hs1.atX_lt (fv x))
        have r2 := hs2.rt _ (hs2.atX_lt (fv x))
        have Q0 : Hid (∀ w', Below W.heap.size W w' → w'.cell? ⟨w.heap.size, 0, none⟩ = some (.slice aa a.length ca)) := fun w' hw' => (b0.below hw').1
        have Q1 : Hid (∀ w', Below W.heap.size W w' → w'.cell? ⟨w.heap.size + 1, 0, none⟩ = some (.slice ab b.length cb)) := fun w' hw' => (b1.below hw').1
        have B0 := Lib.hid b0
        have B1 := Lib.hid b1
        have B2 := Lib.hid b2
        have B3 := Lib.hid b3
        have HO := Lib.hid ho
        have hsn : joinF a b ((pre ++ [x]).map fv) = joinStep a b (joinF a b (pre.map fv)) (fv x) := by rw [List.map_append, ← joinF_snoc]; rfl
        have HSN := Lib.hid hsn
        have hjl := joinF_len a b (pre.map fv)
        rw [List.length_map] at hjl
        clear b0 b1 b2 b3 ho hsn
        gi_wp2
        refine wpIn_region_quiet_round (by kernel_rfl) (by kernel_rfl) (by kernel_rfl) ?_
        go_simp
        repeat (first
          | (refine wpQuiet_val (.slice aa a.length ca) (by kernel_rfl) (quietAt_load_slice _ rfl ⟨w.heap.size, 0, none⟩ _ rfl Q0.out) ?_; go_simp)
          | (refine wpQuiet_val (.slice ab b.length cb) (by kernel_rfl) (quietAt_load_slice _ rfl ⟨w.heap.size + 1, 0, none⟩ _ rfl Q1.out) ?_; go_simp)
          | (refine wpQuiet_val (sv (frm a (atX a (fv x))) (rat a (atX a (fv x)))) (by kernel_rfl) (quietAt_call2 _ enter_stepAt _ _ _ rfl (.slice aa a.length ca) (.int .i64 (fv x)) rfl rfl (fun w' hw' => (stepAt_impl _ a (fv x) _ (HVA.out.below (hBw.trans (hw'.mono hBw.size))) hs1 hx).mono (fun e w'' h => ⟨h.1, hw'.trans (h.2.mono hw'.size)⟩))) ?_; go_simp)
          | (refine wpQuiet_val (sv (frm b (atX b (fv x))) (rat b (atX b (fv x)))) (by kernel_rfl) (quietAt_call2 _ enter_stepAt _ _ _ rfl (.slice ab b.length cb) (.int .i64 (fv x)) rfl rfl (fun w' hw' => (stepAt_impl _ b (fv x) _ (HVB.out.below (hBw.trans (hw'.mono hBw.size))) hs2 hx).mono (fun e w'' h => ⟨h.1, hw'.trans (h.2.mono hw'.size)⟩))) ?_; go_simp)
          | (refine wpQuiet_val (.int .i64 (rat a (atX a (fv x)))) (by kernel_rfl) (quietAt_rate _ rfl (frm a (atX a (fv x))) _ rfl) ?_; go_simp)
          | (refine wpQuiet_val (.int .i64 (rat b (atX b (fv x)))) (by kernel_rfl) (quietAt_rate _ rfl (frm b (atX b (fv x))) _ rfl) ?_; go_simp)
          | go_big_quiet_skip | (go_big_quiet_want; go_big_quiet_op; first | go_big_quiet_on | (refine ⟨_, fun _ _ => rfl, ?_⟩; go_big_quiet_on)))
        refine wpQuiet_nil ?_
        intro W4 hbW
        have hKO : KeepsOthers W W4 := KeepsOthers.of_grownBy (row := none) ⟨hbW.os, hbW.tape, hbW.output, hbW.size, fun k hk _ => hbW.block k hk⟩ (fun j o e => by cases e)
        have n0 := B0.out.below hbW
        have n1 := B1.out.below hbW
        have n2 := B2.out.below hbW
        have n3 := B3.out.below hbW
        have o4 := HO.out.below hbW
        have hB4 : Below w.heap.size w W4 := hBw.trans (hbW.mono hBw.size)
        have hK4 : Below w.heap.size W W4 := hbW.mono hBw.size
        have n2c := n2.1
        have n3c := n3.1
        have n2f := n2.2
        have n3f := n3.2
        by_cases he : joinR a b (fv x) = (joinF a b (pre.map fv)).2
        · have hne : (rat a (atX a (fv x)) + rat b (atX b (fv x)) != (joinF a b (pre.map fv)).2) = false := by rw [← he]; simp [joinR, rateT]
          have HE := Lib.hid he
          clear he
          gi_wp2
          refine ⟨hKO, hK4, ⟨v, ?_, ?_⟩, hB4⟩
          · rw [HSN.out, joinStep, if_pos HE.out]; exact ⟨n0, n1, n2, n3⟩
          · rw [HSN.out, joinStep, if_pos HE.out]; exact o4
        · have hne : (rat a (atX a (fv x)) + rat b (atX b (fv x)) != (joinF a b (pre.map fv)).2) = true := by
            rw [bne_iff_ne]
            exact he
          have HE := Lib.hid he
          have hs4 : w2.heap.size + 1 + 1 ≤ W4.heap.size := by have := n3.lt; omega
          clear he
          gi_wp2_with (gi_at_builtin; refine wpListIn_pushS (f := fv x) (r := rat a (atX a (fv x)) + rat b (atX b (fv x))) o4 (by omega) hs4 (h := ?_))
          intro v6 W6 o6 g6
          have hnb : ∀ c, c < w2.heap.size + 1 + 1 → v.ownBlock ≠ some c := fun c hc e => by have := (o4.lt c e).1; omega
          have m0 := n0.grown g6 (hnb _ (by omega))
          have m1 := n1.grown g6 (hnb _ (by omega))
          have m2 := n2.grown g6 (hnb _ (by omega))
          have m3 := n3.grown g6 (hnb _ (by omega))
          have hK6 : Below w.heap.size W W6 := hK4.trans (below_grownS g6 (by omega) (fun k hk => by have := (o4.lt k hk).1; omega))
          have hKO6 : KeepsOthers W W6 := hKO.trans (KeepsOthers.of_grownBy g6 (fun j o e ho => o4.cellsBlock j o e ho))
          have hB6 : Below w.heap.size w W6 := hB4.trans (below_grownS g6 (by omega) (fun k hk => by have := (o4.lt k hk).1; omega))
          rcases o6.shape with ⟨_, hn⟩ | ⟨g, cap, hv6, hgB⟩
          · simp at hn
          have hlen1 : ((joinF a b (pre.map fv)).1 ++ [(fv x, rat a (atX a (fv x)) + rat b (atX b (fv x)))]).length = (joinF a b (pre.map fv)).1.length + 1 := by simp
          rw [hlen1] at hv6
          subst hv6
          clear hlen1
          have m2c := m2.1
          have m2f := m2.2
          have m3c := m3.1
          have m3f := m3.2
          gi_wp2
          refine ⟨(hKO6.trans (KeepsOthers.setCell _ _ _)).trans (KeepsOthers.setCell _ _ _), (hK6.setCell (p := ⟨w2.heap.size, 0, none⟩) (by show w.heap.size ≤ w2.heap.size; omega) _).setCell (p := ⟨w2.heap.size + 1, 0, none⟩) (by show w.heap.size ≤ w2.heap.size + 1; omega) _, ⟨slS g ((joinF a b (pre.map fv)).1.length + 1) cap, ?_, ?_⟩, (hB6.setCell (p := ⟨w2.heap.size, 0, none⟩) (by show w.heap.size ≤ w2.heap.size; omega) _).setCell (p := ⟨w2.heap.size + 1, 0, none⟩) (by show w.heap.size ≤ w2.heap.size + 1; omega) _⟩
          · rw [HSN.out, joinStep, if_neg HE.out]
            exact ⟨(m0.other (c := w2.heap.size) (by omega) _).other (c := w2.heap.size + 1) (by omega) _, (m1.other (c := w2.heap.size) (by omega) _).other (c := w2.heap.size + 1) (by omega) _, (m2.set _).other (c := w2.heap.size + 1) (by omega) _, (m3.other (c := w2.heap.size) (by omega) _).set _⟩
          · rw [HSN.out, joinStep, if_neg HE.out]
            have hgn : ∀ c, c < w2.heap.size + 1 + 1 → (slS g ((joinF a b (pre.map fv)).1.length + 1) cap).ownBlock ≠ some c := fun c hc e => by simp [Value.ownBlock] at e; omega
            exact (o6.kept (grown_setCell _ _ _) (.inr (hgn _ (by omega)))).kept (grown_setCell _ _ _) (.inr (hgn _ (by omega)))
      case done =>
        rintro D ys W hD hys ⟨⟨v, ⟨b0, b1, b2, b3⟩, ho⟩, hB⟩ hK
        rw [hys] at ho
        have ho' : OwnS W (w2.heap.size + 1 + 1) v (js a b 2001) := ho
        have hjl := js_len a b 2001
        have HK := Lib.hid hK
        have HD := Lib.hid hD
        have hBw : Below w.heap.size w W := hB
        have d2 := b2.1
        clear hK hys ho b3
        gi_wp2_with fail
        refine ⟨trivial, (callsIn_wide.2 (ValidSteps_impl v (js a b 2001) W ho'.steps (by omega))).mono ?_⟩
        rintro e w5 ⟨rfl, hb5⟩
        have hK5 : w5.heap[D]? = some (.deferred (some [])) := (hb5.block D (Array.getElem?_eq_some_iff.1 HK.out).1).trans HK.out
        have HK5 := Lib.hid hK5
        have f2 := b2.below hb5
        have f2c := f2.1
        have o5 := ho'.below hb5
        have hB5 : Below w.heap.size w w5 := hBw.trans (hb5.mono hBw.size)
        have hDw : w.heap.size ≤ D := Nat.le_trans F4.out.size HD.out
        clear hK5 d2 b2 b0 b1 ho' hb5
        cases h3 : vSteps (js a b 2001)
        · have E : Hid (joinA a b = ([], false)) := by show joinA a b = _; unfold joinA; rw [h1, h2, h3]; rfl
          clear h3
          gi_wp2
          refine ⟨by simp, .inl ⟨_, _, rfl, run_takeDeferred HK5.out, ?_⟩⟩
          exact ⟨.tuple #[.slice none 0 0, .bool false], by simp [results, Try.f41, go_sem], .slice none 0 0, by rw [E.out], by rw [E.out]; exact ownS_nil _ _, hB5.trans (belowK_b (w := w) (Nat.le_refl _) _ D _ _ hDw HK5.out rfl rfl)⟩
        · have E : Hid (joinA a b = (js a b 2001, true)) := by show joinA a b = _; unfold joinA; rw [h1, h2, h3]; rfl
          clear h3
          gi_wp2
          refine ⟨by simp, .inl ⟨_, _, rfl, run_takeDeferred HK5.out, ?_⟩⟩
          exact ⟨.tuple #[v, .bool true], by simp [results, Try.f41, go_sem], v, by rw [E.out], by rw [E.out]; exact (o5.own (grownBy_putObj' _ D (.deferred none)) (fun r e => by cases e; exact ⟨_, HK5.out, rfl⟩)).base (by omega), hB5.trans (belowK_b (w := w) (Nat.le_refl _) _ D _ _ hDw HK5.out rfl rfl)⟩
      case stop =>
        rintro D c pre W _ _ h _
        exact h.elim

end Go.Proofs.Ytmeejaafbbabaaa
