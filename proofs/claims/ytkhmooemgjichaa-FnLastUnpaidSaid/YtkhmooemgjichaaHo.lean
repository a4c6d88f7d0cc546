/- What comes to pass beside others that only leave: rules. -/
import Derived.Test.YtkhmooemgjichaaHh
namespace Go.Proofs.Ytkhmooemgjichaa
open Go Go.Conc
variable {P : Program}

/-- BESIDE OTHERS THAT ONLY LEAVE goroutine 0 comes from g to what Q says. -/
def Reach (P : Program) (g : Goroutine) (w : World) (Q : Goroutine → World → Prop) : Prop :=
  ∀ d gs sl T q B, gs[0]? = some g → Leavers P T gs q → Past (fun _ => False) B T →
    ∃ N gs' g' w' sl' T' q' B', runNT P N (crowd gs (w.at d) sl) T = (.next (crowd gs' w' sl'), T') ∧ gs'[0]? = some g' ∧ Q g' w' ∧ Leavers P T' gs' q' ∧ Past (fun _ => False) B' T' ∧ w'.tape = w.tape
variable {g g' : Goroutine} {w : World} {Q R : Goroutine → World → Prop}

theorem Reach.mono (h : Reach P g w Q) (hQ : ∀ g' w', Q g' w' → R g' w') : Reach P g w R := fun d gs sl T q B h0 hL hP => by
  obtain ⟨N, gs', g', w', sl', T', q', B', e, k0, k1, k2⟩ := h d gs sl T q B h0 hL hP
  exact ⟨N, gs', g', w', sl', T', q', B', e, k0, hQ _ _ k1, k2⟩
theorem Reach.trans (h : Reach P g w Q) (hQ : ∀ g' w', Q g' w' → Reach P g' w' R) : Reach P g w R := fun d gs sl T q B h0 hL hP => by
  obtain ⟨N, gs', g', w', sl', T', q', B', e, k0, k1, k2, k3, k4⟩ := h d gs sl T q B h0 hL hP
  obtain ⟨M, gs'', g'', w'', sl'', T'', q'', B'', e', l0, l1, l2, l3, l4⟩ := hQ g' w' k1 w'.drawn gs' sl' T' q' B' k0 k2 k3
  exact ⟨N + M, gs'', g'', w'', sl'', T'', q'', B'', by rw [runNT_add, e]; exact e', l0, l1, l2, l3, l4.trans k4⟩
theorem Reach.here (h : ∀ d, Q g (w.at d)) : Reach P g w Q := fun d gs sl T q B h0 hL hP => ⟨0, gs, g, w.at d, sl, T, q, B, rfl, h0, h d, hL, hP, rfl⟩

/-- What it does alone on every tape. -/
theorem Reach.lonely (hP : PlainP P) (hB : Blind Q) (hg : PlainG g) (hr : g.status = .running) (hS : SoloTo P Q g w) : Reach P g w fun g' w' => g'.status = .running ∧ PlainG g' ∧ Q g' w' := fun d gs sl T q B h0 hL hp => by
  obtain ⟨N, gs', g', w', sl', T', q', B', e, _, k0, k1, k2, k3, k4, k5, k6⟩ := walk_tree (tree_of_solo hP hB hg hr hS) gs (w.at d) sl T q B ⟨d, rfl⟩ h0 hL hp
  exact ⟨N, gs', g', w', sl', T', q', B', e, k0, ⟨k1, k2, k3⟩, k4, k5, k6⟩
/-- The world is w but for tape and draws. -/
def Same (w w' : World) : Prop := ∃ τ d, w' = On w τ d
theorem Same.refl (w : World) : Same w w := ⟨w.tape, w.drawn, rfl⟩
/-- Steps of its own that turn nothing. -/
theorem Reach.still (hP : PlainP P) (hg : PlainG g) (hr : g.status = .running) (hr' : g'.status = .running) (h : ∀ τ d, Steps P (solo g (On w τ d)) (solo g' (On w τ d))) (hQ : PlainG g' → Reach P g' w Q) : Reach P g w Q := fun d gs sl T q B h0 hL hp => by
  have hS : SoloTo P (fun x w' => x = g' ∧ Same w w') g w := fun τ => by
    obtain ⟨n, e⟩ := h τ 0
    exact ⟨n, g', On w τ 0, e, hr', rfl, τ, 0, rfl⟩
  obtain ⟨N, gs', x, w', sl', T', q', B', e, k0, ⟨_, kp, rfl, τ, dd, rfl⟩, k2, k3, k4⟩ := Reach.lonely hP (fun x w' τ d h => by obtain ⟨h1, τ', d', rfl⟩ := h; exact ⟨h1, τ, d, rfl⟩) hg hr hS d gs sl T q B h0 hL hp
  have hw : On w τ dd = w.at dd := by
    have : τ = w.tape := k4
    rw [this]; rfl
  rw [hw] at e
  obtain ⟨M, gs'', g'', w'', sl'', T'', q'', B'', e', l0, l1, l2, l3, l4⟩ := hQ kp dd gs' sl' T' q' B' k0 k2 k3
  exact ⟨N + M, gs'', g'', w'', sl'', T'', q'', B'', by rw [runNT_add, e]; exact e', l0, l1, l2, l3, l4⟩
theorem Reach.step1 (hP : PlainP P) (hg : PlainG g) (hr : g.status = .running) (hr' : g'.status = .running) (h : ∀ w, stepG P true g w = .go g' w) (hQ : PlainG g' → Reach P g' w Q) : Reach P g w Q :=
  Reach.still hP hg hr hr' (fun τ d => ⟨1, by rw [runN, step, stepT_solo hr, runT_solo_go (h _)]; rfl⟩) hQ

/-- From the go statement to the last word heard. -/
theorem Reach.pipe {c : Nat} {z : Value} {Fin : Goroutine → Prop} {vs : List Value} {a a' child : Goroutine} {es : Array Event} {s : Nat} (ha : a.status = .running) (hchan : w.heap[c]? = some (.chan 0 #[] false s s false))
    (hgo : ∀ w', Aside c w w' → stepG P true a w' = .spawn a' child w' es) (hes : ∀ e ∈ es, EvP e) (hR : Rcv P c w z Fin vs a') (hS : Snd P c w vs child) :
    Reach P a w fun g' w' => g'.status = .running ∧ Fin g' ∧ Aside c w w' := fun d gs sl T q B h0 hL hP => by
  obtain ⟨N, gs', g', w', sl', T', q', B', e, _, k0, k1, k2, k3, k4, k5⟩ := Go.Proofs.Ytkhmooemgjichaa.pipe (P := P) (c := c) (W := w) (z := z) (Fin := Fin) (vs := vs) (sl := sl) _ gs (w.at d) T q B a a' child es s rfl h0 ha hL hP (Aside.at c w d) hchan hgo hes hR hS
  exact ⟨N, gs', g', w', sl', T', q', B', e, k0, ⟨k1, k2, k3⟩, k4, k5, k3.tape⟩

/-! ### calls -/
theorem leaving_on {fr : Frame} {v : Value} (h : fr.leaving P w (.returned v)) (τ : Tp) (d : Nat) : fr.leaving P (On w τ d) (.returned v) := by
  obtain ⟨h1, h2, h3, fn, h4, h5⟩ := h
  refine ⟨h1, h2, h3, fn, h4, ?_⟩
  obtain ⟨_, m, _, hd, hl⟩ := run_loc (inferInstance : Gd P (results fn fr.tmps)).good h5
  obtain rfl : m = 0 := by omega
  exact hl τ d fun j hj => by omega
/-- A call that starts goroutines, whoever leaves beside it. -/
def CallsB (P : Program) (f : FuncId) (args : Array Value) (w : World) (R : Value → World → Prop) : Prop :=
  ∀ cs, PlainC cs → Reach P (G (Frame.enter P f args .normal) cs) w fun g' w' => ∃ fr v, g' = G fr cs ∧ fr.fn = f ∧ fr.leaving P w' (.returned v) ∧ PlainT fr.todo ∧ R v w'
theorem solo_lone (fr : Frame) (cs : List Frame) (w : World) : solo (G fr cs) w = lone fr cs w := rfl
/-- What a contract alone says, it says beside others. -/
theorem CallsB.ofCalls (hP : PlainP P) {f : FuncId} {args : Array Value} {Rv : Value → World → Prop} (hB : ∀ v w τ d, Rv v w → Rv v (On w τ d)) (h : ∀ τ, Calls P f args (On w τ 0) fun e w' => ∃ v, e = .returned v ∧ Rv v w') : CallsB P f args w Rv := by
  intro cs hcs
  have hS : SoloTo P (fun g' w' => ∃ fr v, g' = G fr cs ∧ fr.fn = f ∧ fr.leaving P w' (.returned v) ∧ Rv v w') (G (Frame.enter P f args .normal) cs) w := fun τ => by
    obtain ⟨e, w', fr, ⟨v, rfl, hR⟩, ⟨n, hn⟩, hf, hl⟩ := h τ cs
    exact ⟨n, G fr cs, w', hn, rfl, fr, v, rfl, hf, hl, hR⟩
  refine (Reach.lonely hP (fun g w τ d h => ?_) (show PlainG (G (Frame.enter P f args .normal) cs) from ⟨plain_enter _ _ _, hcs⟩) rfl hS).mono fun g' w' h => ?_
  · obtain ⟨fr, v, h1, h2, h3, h4⟩ := h
    exact ⟨fr, v, h1, h2, leaving_on h3 τ d, hB _ _ _ _ h4⟩
  · obtain ⟨_, hp, fr, v, rfl, h2, h3, h4⟩ := h
    exact ⟨fr, v, rfl, h2, h3, hp.1, h4⟩

section
variable {b : Frame} {a : Act} {k : List Item} {cs : List Frame} {ops : Array Oper} {i : Nat} {rest : List Nat} {o : Oper}
theorem plain_at {l : List Item} (h : PlainT l) (hcs : PlainC cs) : PlainG (G (b.at a l) cs) := ⟨h, hcs⟩
theorem plain_region {l : List Nat} (hk : PlainT k) : PlainT (.inRegion ops l :: k) := PlainT.cons (show PlainI (.inRegion ops l) from trivial) hk
theorem plain_code {x : Code} (hk : PlainT k) : PlainT (.code x :: k) := PlainT.cons (show PlainI (.code x) from trivial) hk
/-- An operation that calls. -/
theorem Reach.call (hP : PlainP P) {f : FuncId} {args : Array Value} {Rv : Value → World → Prop} (hk : PlainT k) (hcs : PlainC cs) (ho : ops[i]? = some o) (hw : Region.wanted o (yielded ops a.tmps) = true) (_ : b.kind ≠ .early)
    (hr : ∀ w, (execOp a.eval o).run P w = .ok (.enter f args) w) (hc : CallsB P f args w Rv) (hQ : ∀ v w', Rv v w' → Reach P (G (b.at (a.put o.dst v) (.inRegion ops rest :: k)) cs) w' Q) :
    Reach P (G (b.at a (.inRegion ops (i :: rest) :: k)) cs) w Q := by
  have hfr : PlainT (b.at a (.inRegion ops (i :: rest) :: k)).todo := plain_region hk
  have hcs' : PlainC (b.at a (.inRegion ops (i :: rest) :: k) :: cs) := PlainC.cons hfr hcs
  have hentry : ∀ w, step P (lone (b.at a (.inRegion ops (i :: rest) :: k)) cs w) = .next (lone (Frame.enter P f args .normal) (b.at a (.inRegion ops (i :: rest) :: k) :: cs) w) := fun w => by
    have hg := stepG_op (P := P) (b := b) (k := k) (cs := cs) (w := w) (rest := rest) ho hw
    exact step_lone_go (by rw [hg]; simp [stepG.apply, hr, Frame.at])
  refine Reach.still hP (plain_at (plain_region hk) hcs) rfl (g' := G (Frame.enter P f args .normal) (b.at a (.inRegion ops (i :: rest) :: k) :: cs)) rfl (fun τ d => Steps.one (hentry _)) fun _ => ?_
  refine (hc _ hcs').trans fun g' w' h => ?_
  obtain ⟨fr, v, rfl, hf, hl, hp, hv⟩ := h
  refine Reach.still hP ⟨hp, hcs'⟩ rfl (g' := G ((b.at a (.inRegion ops (i :: rest) :: k)).finish v) cs) rfl (fun τ d => Steps.one (step_leave_returned (leaving_on hl τ d))) fun _ => ?_
  have hfin : (b.at a (.inRegion ops (i :: rest) :: k)).finish v = b.at (a.put o.dst v) (.inRegion ops rest :: k) := by rw [Frame.finish_at, ho]; rfl
  rw [hfin]
  exact hQ v w' hv
/-- An operation that yields a value and turns nothing. -/
theorem Reach.val (hP : PlainP P) (v : Value) (hk : PlainT k) (hcs : PlainC cs) (ho : ops[i]? = some o) (hw : Region.wanted o (yielded ops a.tmps) = true) (hb : b.kind ≠ .early)
    (hr : ∀ τ d, (execOp a.eval o).run P (On w τ d) = .ok (.value v) (On w τ d)) (hQ : Reach P (G (b.at (a.put o.dst v) (.inRegion ops rest :: k)) cs) w Q) : Reach P (G (b.at a (.inRegion ops (i :: rest) :: k)) cs) w Q :=
  Reach.still hP (plain_at (plain_region hk) hcs) rfl (g' := G (b.at (a.put o.dst v) (.inRegion ops rest :: k)) cs) rfl
    (fun τ d => ⟨1, by rw [runN, step, stepT_solo rfl, runT_solo_go (stepG_value (main := true) ho hw hb (hr τ d))]; rfl⟩) fun _ => hQ
/-- A piece of code that starts nobody. -/
theorem Reach.code (hP : PlainP P) {x : Code} {Qx : Act → World → Prop} (hk : PlainT k) (hcs : PlainC cs) (hB : ∀ a w τ d, Qx a w → Qx a (On w τ d)) (h : ∀ τ, x.wp P (fun e a' w' => e = .normal ∧ Qx a' w') a (On w τ 0))
    (hQ : ∀ a' w', Qx a' w' → Reach P (G (b.at a' k) cs) w' Q) : Reach P (G (b.at a (.code x :: k)) cs) w Q := by
  have hS : SoloTo P (fun g' w' => ∃ a', g' = G (b.at a' k) cs ∧ Qx a' w') (G (b.at a (.code x :: k)) cs) w := fun τ => by
    obtain ⟨e, a', w', ⟨rfl, hq⟩, n, hn⟩ := h τ b k cs
    exact ⟨n, G (b.at a' k) cs, w', hn, rfl, a', rfl, hq⟩
  refine (Reach.lonely hP (fun g w τ d h => ?_) (plain_at (plain_code hk) hcs) rfl hS).trans fun g' w' h => ?_
  · obtain ⟨a', h1, h2⟩ := h
    exact ⟨a', h1, hB _ _ _ _ h2⟩
  · obtain ⟨_, _, a', rfl, h2⟩ := h
    exact hQ a' w' h2
theorem Reach.seq (hP : PlainP P) {x y : Code} (hk : PlainT k) (hcs : PlainC cs) (h : Reach P (G (b.at a (.code x :: .code y :: k)) cs) w Q) : Reach P (G (b.at a (.code (.seq x y) :: k)) cs) w Q :=
  Reach.step1 hP (plain_at (plain_code hk) hcs) rfl rfl (fun _ => stepG_seq) fun _ => h
theorem Reach.region (hP : PlainP P) {id : Nat} (hk : PlainT k) (hcs : PlainC cs) (h : Reach P (G (b.at a (.inRegion ops (List.range ops.size) :: k)) cs) w Q) : Reach P (G (b.at a (.code (.region id ops false) :: k)) cs) w Q :=
  Reach.step1 hP (plain_at (plain_code hk) hcs) rfl rfl (fun _ => stepG_region) fun _ => h
theorem Reach.regionEnd (hP : PlainP P) (hk : PlainT k) (hcs : PlainC cs) (h : Reach P (G (b.at a k) cs) w Q) : Reach P (G (b.at a (.inRegion ops [] :: k)) cs) w Q :=
  Reach.step1 hP (plain_at (plain_region hk) hcs) rfl rfl (fun _ => stepG_region_end) fun _ => h
end
end Go.Proofs.Ytkhmooemgjichaa
