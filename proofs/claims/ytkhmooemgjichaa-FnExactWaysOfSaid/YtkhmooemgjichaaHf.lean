/- A SENDER THAT ONLY READS, AND GOROUTINE 0 RECEIVING: how the machine goes. -/
import Derived.Test.YtkhmooemgjichaaHd
import Derived.Conc.RecvAny
namespace Go.Proofs.Ytkhmooemgjichaa

section
open Go Go.Conc
open Go.ConcN (sumTo upd sumTo_upd upd_ne upd_same)

/-- A plain read of a cell. -/
def EvP (e : Event) : Prop := ∃ a, e = ⟨.cell a, false, false⟩
/-- The step turns nothing but the count of draws, and reads alone. -/
def DR (w w' : World) (es : Array Event) : Prop := (∃ d, w' = w.at d) ∧ ∀ e ∈ es, EvP e
/-- Whatever the others do: all but channel c's block is as in W. -/
def RA (c : Nat) (W : World) (_ w₁ : World) : Prop := Aside c W w₁

section
variable (P : Program) (c : Nat) (W : World) (z : Value) (Fin : Goroutine → Prop)
/-- The receiver stands at the receive; g₂: the record that stands there. -/
def AtRcv (Next : Goroutine → Prop) (g : Goroutine) : Prop := g.status = .running ∧ ∃ es, (∀ e ∈ es, EvP e) ∧ ∃ g₂, g.frame = g₂.frame ∧ g.callers = g₂.callers ∧ g.dying = g₂.dying ∧ Next g₂ ∧ ∀ w, Aside c W w → stepG P true g w = .comm g₂ #[rcase c z] true (.recv true) w es
def Rcv : List Value → Goroutine → Prop
  | [], g => ∃ n, Goes P true (RA c W) DR (fun g _ => AtRcv P c W z (fun g₂ => Fin (Go.Conc.served g₂ (recvd true z false))) g) n g default
  | v :: vs, g => ∃ n, Goes P true (RA c W) DR (fun g _ => AtRcv P c W z (fun g₂ => Rcv vs (Go.Conc.served g₂ (recvd true v true))) g) n g default
def NextR : List Value → Goroutine → Prop
  | [] => fun g₂ => Fin (Go.Conc.served g₂ (recvd true z false))
  | v :: vs => fun g₂ => Rcv P c W z Fin vs (Go.Conc.served g₂ (recvd true v true))
theorem rcv_iff (vs : List Value) (g : Goroutine) : Rcv P c W z Fin vs g ↔ ∃ n, Goes P true (RA c W) DR (fun g _ => AtRcv P c W z (NextR P c W z Fin vs) g) n g default := by
  cases vs <;> exact Iff.rfl
def AtSnd (v : Value) (Next : Goroutine → Prop) (g : Goroutine) : Prop :=
  g.status = .running ∧ ∃ g₂ z' es, (∀ e ∈ es, EvP e) ∧ (∀ w, Aside c W w → stepG P false g w = .comm g₂ #[scase c v z'] true .send w es) ∧ Next (Go.Conc.served g₂ undef)
def AtCls (g : Goroutine) : Prop :=
  g.status = .running ∧ mayWake P g = true ∧ ∃ g₂ n, g₂.status = .running ∧ (∀ w s, Aside c W w → w.heap[c]? = some (.chan 0 #[] false s s false) → stepG P false g w = .go g₂ (w.setChan c 0 #[] true s s false) (closeEvents c)) ∧ QuitsD P n 0 g₂
def Snd : List Value → Goroutine → Prop
  | [], g => ∃ n, Goes P false (RA c W) DR (fun g _ => AtCls P c W g) n g default
  | v :: vs, g => ∃ n, Goes P false (RA c W) DR (fun g _ => AtSnd P c W v (Snd vs) g) n g default
def StopS : List Value → Goroutine → Prop
  | [] => AtCls P c W
  | v :: vs => AtSnd P c W v (Snd P c W vs)
theorem snd_iff (vs : List Value) (g : Goroutine) : Snd P c W vs g ↔ ∃ n, Goes P false (RA c W) DR (fun g _ => StopS P c W vs g) n g default := by
  cases vs <;> exact Iff.rfl

/-- The receiver: on its way to the receive, or parked there (n = 0). -/
def RSt (vs : List Value) (n : Nat) (g : Goroutine) : Prop :=
  (∃ k, n = k + 1 ∧ Goes P true (RA c W) DR (fun g _ => AtRcv P c W z (NextR P c W z Fin vs) g) k g default) ∨
  (n = 0 ∧ ∃ g₂, g = parked g₂ #[rcase c z] (.recv true) ∧ AtRcv P c W z (NextR P c W z Fin vs) { g with status := .running } ∧ NextR P c W z Fin vs g₂)
def SSt (vs : List Value) (n : Nat) (g : Goroutine) : Prop :=
  (∃ k, n = k + 1 ∧ Goes P false (RA c W) DR (fun g _ => StopS P c W vs g) k g default) ∨
  (n = 0 ∧ ∃ v vs' g₂ z', vs = v :: vs' ∧ g = parked g₂ #[scase c v z'] .send ∧ Snd P c W vs' (Go.Conc.served g₂ undef))
end

section
variable {P : Program} {c : Nat} {W : World} {z : Value} {Fin : Goroutine → Prop} {main : Bool} {Stop : Goroutine → Prop}
theorem goes_cases {k : Nat} {g : Goroutine} {w : World} (h : Goes P main (RA c W) DR (fun g _ => Stop g) k g default) (hw : Aside c W w) :
    Stop g ∨ ∃ k' g' d es, k = k' + 1 ∧ g.status = .running ∧ stepG P main g w = .go g' (w.at d) es ∧ (∀ e ∈ es, EvP e) ∧ Goes P main (RA c W) DR (fun g _ => Stop g) k' g' default := by
  cases k with
  | zero => exact .inl (h w hw)
  | succ k =>
    rcases h with h | ⟨hr, h⟩
    · exact .inl (h w hw)
    · obtain ⟨g', w', es, e, ⟨⟨d, hd⟩, hes⟩, hg⟩ := goes_elim (h w hw)
      refine .inr ⟨k, g', d, es, rfl, hr, by rw [e, hd], hes, ?_⟩
      cases k <;> exact hg
theorem goes_run {k : Nat} {g : Goroutine} {w : World} (hs : ∀ g, Stop g → g.status = .running) (h : Goes P main (RA c W) DR (fun g _ => Stop g) k g default) (hw : Aside c W w) : g.status = .running :=
  (goes_cases h hw).elim (hs g) fun ⟨_, _, _, _, _, h, _⟩ => h
theorem RSt.status {vs : List Value} {n : Nat} {g : Goroutine} {w : World} (hw : Aside c W w) (h : RSt P c W z Fin vs n g) : (g.status = .running ∧ 0 < n) ∨ (g.status = .blocked ∧ n = 0) := by
  rcases h with ⟨k, rfl, h⟩ | ⟨rfl, g₂, rfl, _⟩
  · exact .inl ⟨goes_run (fun g h => h.1) h hw, by omega⟩
  · exact .inr ⟨rfl, rfl⟩
theorem SSt.status {vs : List Value} {n : Nat} {g : Goroutine} {w : World} (hw : Aside c W w) (h : SSt P c W vs n g) : (g.status = .running ∧ 0 < n) ∨ (g.status = .blocked ∧ n = 0) := by
  rcases h with ⟨k, rfl, h⟩ | ⟨rfl, v, vs', g₂, z', _, rfl, _⟩
  · exact .inl ⟨goes_run (fun g h => by cases vs <;> exact h.1) h hw, by omega⟩
  · exact .inr ⟨rfl, rfl⟩

theorem evP_ops {i : Nat} {fn : FuncId} {pos : String} {es : Array Event} (h : ∀ e ∈ es, EvP e) :
    (∀ op ∈ MemOp.ofEvents i fn pos es, op.g = i) ∧ (∀ op ∈ MemOp.ofEvents i fn pos es, ∀ b, op.act.touch? = some b → b.write = false ∧ b.loc.isMemory = true) ∧ ∀ t : Trace, Deaf (t ++ MemOp.ofEvents i fn pos es) i = Deaf t i := by
  refine ⟨fun op hop => by obtain ⟨e, _, rfl⟩ := Go.Conc.mem_ofEvents hop; rfl, fun op hop b hb => ?_, fun t => ?_⟩
  · obtain ⟨e, he, rfl⟩ := Go.Conc.mem_ofEvents hop
    obtain ⟨a, rfl⟩ := h e he
    simp only [ofEvent_cell0, MemAct.touch?, Option.some.injEq] at hb
    subst hb
    exact ⟨rfl, rfl⟩
  · rw [Deaf_own]
    exact deafBehind_still (fun e he => by obtain ⟨a, rfl⟩ := h e he; exact ⟨by simp, by simp⟩) _

/-- THE TRACE while they go: goroutine 0 holds; k is loose. -/
def PastP (M : Nat → Prop) (k B : Nat) (T : Trace) : Prop := PastH (fun l => l.isMemory = true) M (fun g => g = k) B 0 T
theorem PastP.mono {M : Nat → Prop} {k B B' : Nat} {T : Trace} (h : PastP M k B T) (hB : B ≤ B') : PastP M k B' T := PastG.mono h hB
theorem PastP.read0 {M : Nat → Prop} {k B : Nat} {T : Trace} (h : PastP M k B T) {fn : FuncId} {pos : String} {es : Array Event} (hes : ∀ e ∈ es, EvP e) : ∃ B', B ≤ B' ∧ PastP M k B' (T ++ MemOp.ofEvents 0 fn pos es) := by
  obtain ⟨h1, h2, h3⟩ := evP_ops (i := 0) (fn := fn) (pos := pos) hes
  obtain ⟨B₁, hB⟩ := low_all (MemOp.ofEvents 0 fn pos es)
  exact ⟨max B B₁, Nat.le_max_left _ _, PastH.appH (PastG.mono h (Nat.le_max_left _ _)) h1 (fun op hop b hb _ => (h2 op hop b hb).1) (h3 T) fun op hop => MemAct.low_mono (Nat.le_max_right _ _) (hB op hop)⟩
theorem PastP.readK {M : Nat → Prop} {k B : Nat} {T : Trace} (h : PastP M k B T) (hM : M k) {fn : FuncId} {pos : String} {es : Array Event} (hes : ∀ e ∈ es, EvP e) : ∃ B', B ≤ B' ∧ PastP M k B' (T ++ MemOp.ofEvents k fn pos es) := by
  obtain ⟨h1, h2, h3⟩ := evP_ops (i := k) (fn := fn) (pos := pos) hes
  obtain ⟨B₁, hB⟩ := low_all (MemOp.ofEvents k fn pos es)
  exact ⟨max B B₁, Nat.le_max_left _ _, PastH.appRead (PastG.mono h (Nat.le_max_left _ _)) hM rfl h1 (fun op hop b hb => h2 op hop b hb) (h3 T) fun op hop => MemAct.low_mono (Nat.le_max_right _ _) (hB op hop)⟩
theorem PastP.mute {M : Nat → Prop} {k B i : Nat} {T : Trace} (h : PastP M k B T) {ops : Array MemOp} (hi : ¬ M i) (ho : ∀ op ∈ ops, op.g = i) (hn : ∀ op ∈ ops, op.act.touch? = none) (hl : ∀ op ∈ ops, op.act.low B) : PastP M k B (T ++ ops) :=
  PastH.appMute h ho hn (fun hm => absurd hm hi) hl
/-- Operations of theirs that touch nothing and turn no deafness. -/
theorem PastP.quiet {M : Nat → Prop} {k B : Nat} {T : Trace} (h : PastP M k B T) {ops : Array MemOp} (hn : ∀ op ∈ ops, op.act.touch? = none) (hq : ∀ g, ∀ op ∈ ops, ∀ d, deafStep g d op = d) : ∃ B', B ≤ B' ∧ PastP M k B' (T ++ ops) := by
  obtain ⟨B₁, hB⟩ := low_all ops
  have h' : PastP M k (max B B₁) T := h.mono (Nat.le_max_left _ _)
  refine ⟨max B B₁, Nat.le_max_left _ _, ⟨fun said => noRace_appendMute (h'.clean said) hn, fun i a ha hm => ?_, fun i a ha hw hS g hg => ?_, fun g hg => (Deaf_quiet (hq g)).trans (h'.hears g hg), seen_app h'.seen fun op hop => MemAct.low_mono (Nat.le_max_right _ _) (hB op hop)⟩⟩
  · obtain ⟨x, hx, hxa⟩ := touch_of ha
    rcases getElem?_append_cases hx with ⟨_, hx'⟩ | ⟨_, hxu⟩
    · exact PastG.old_known h' (fun i => Knows.app ops) hx' hxa hm
    · rw [hn x hxu] at hxa; cases hxa
  · obtain ⟨x, hx, hxa⟩ := touch_of ha
    rcases getElem?_append_cases hx with ⟨_, hx'⟩ | ⟨_, hxu⟩
    · exact (h'.wrote i a (by rw [touchAt_of hx']; exact hxa) hw hS g hg).app ops
    · rw [hn x hxu] at hxa; cases hxa

/-- k has closed the channel at m, and has touched nothing since. -/
structure Shut (c k : Nat) (T : Trace) (m : Nat) : Prop where
  act : T.act? m = some (.close c)
  who : T.g? m = some k
  heard : T.heard m
  last : ∀ i op, T[i]? = some op → op.g = k → op.act.touch? ≠ none → i < m
theorem Shut.app {k m : Nat} {T u : Trace} (h : Shut c k T m) (hu : ∀ op ∈ u, op.g = k → op.act.touch? = none) : Shut c k (T ++ u) m := by
  have hlt : m < T.size := lt_of_act? h.act
  refine ⟨by rw [act?_old hlt]; exact h.act, by rw [g?_old hlt]; exact h.who, ?_, fun i op hi hg ht => ?_⟩
  · obtain ⟨g, hg, hd⟩ := h.heard
    exact ⟨g, by rw [g?_old hlt]; exact hg, by rw [deaf_old (Nat.le_of_lt hlt)]; exact hd⟩
  · rcases getElem?_append_cases hi with ⟨_, hi'⟩ | ⟨_, hiu⟩
    · exact h.last i op hi' hg ht
    · exact absurd (hu op hiu hg) ht

/-- THE RECEIVE THAT FINDS THE CHANNEL CLOSED: goroutine 0 knows all. -/
theorem PastP.take {M : Nat → Prop} {k B m : Nat} {T : Trace} (h : PastP M k B T) (hM : M 0) (hs : Shut c k T m) (fn : FuncId) (pos : String) : ∃ B', B ≤ B' ∧ Past (fun _ => False) B' (T ++ #[{ g := 0, fn := fn, pos := pos, act := .recvClosed c }]) := by
  have hn : ∀ op ∈ (#[{ g := 0, fn := fn, pos := pos, act := .recvClosed c }] : Trace), op.act.touch? = none := by
    intro op hop
    simp only [List.mem_toArray, List.mem_cons, List.not_mem_nil, or_false] at hop
    subst hop; rfl
  have hq : ∀ g, ∀ op ∈ (#[{ g := 0, fn := fn, pos := pos, act := .recvClosed c }] : Trace), ∀ d, deafStep g d op = d := by
    intro g op hop d
    simp only [List.mem_toArray, List.mem_cons, List.not_mem_nil, or_false] at hop
    subst hop; rfl
  obtain ⟨B', hB, h'⟩ := h.quiet hn hq
  refine ⟨B', hB, ?_⟩
  have hlt : m < T.size := lt_of_act? hs.act
  generalize hu : (#[{ g := 0, fn := fn, pos := pos, act := .recvClosed c }] : Trace) = u at *
  have e0 : (T ++ u)[T.size]? = some { g := 0, fn := fn, pos := pos, act := .recvClosed c } := by subst hu; simp
  have hs' : Shut c k (T ++ u) m := hs.app fun op hop _ => hn op hop
  have edge : HappensBefore (T ++ u) m T.size :=
    Relation.TransGen.single (.inr ⟨.closed hs'.act (act?_of e0), hs'.heard, ⟨0, g?_of e0, by rw [deaf_old (Nat.le_refl _)]; exact h.hears 0 hM⟩⟩)
  obtain ⟨om, hom, _⟩ := Option.map_eq_some_iff.1 (show ((T ++ u)[m]?).map (·.g) = some k from hs'.who)
  have hall : PastH (fun l => l.isMemory = true) M (fun _ => False) B' 0 (T ++ u) := by
    refine ⟨h'.clean, fun i a ha hm => ?_, h'.wrote, h'.hears, h'.seen⟩
    rcases h'.known i a ha hm with hk' | ⟨_, _, g, hg, rfl⟩
    · exact .inl hk'
    · obtain ⟨x, hx, hxa⟩ := touch_of ha
      have hxg : x.g = g := by have := g?_of hx; rw [hg] at this; exact (Option.some.inj this).symm
      have hlt' := hs'.last i x hx hxg (by rw [hxa]; simp)
      have homg : om.g = g := by have := g?_of hom; rw [hs'.who] at this; exact (Option.some.inj this).symm
      exact .inl ⟨T.size, _, e0, rfl, .inr ((hb_po hlt' hx hom (hxg.trans homg.symm)).trans edge)⟩
  exact PastH.toPast hall hM fun _ x => x
end

end

open Go Go.Conc
open Go.ConcN (sumTo upd sumTo_upd upd_ne upd_same)

/-- The machine comes to a frame in which goroutine 0 has heard the last word, and all others only leave. -/
def Done (P : Program) (c : Nat) (W : World) (Fin : Goroutine → Prop) (sz : Nat) (m : Machine) (T : Trace) : Prop :=
  ∃ N gs' a w' sl' T' q' B', runNT P N m T = (.next (crowd gs' w' sl'), T') ∧ gs'.size = sz ∧ gs'[0]? = some a ∧ a.status = .running ∧ Fin a ∧ Aside c W w' ∧ Leavers P T' gs' q' ∧ Past (fun _ => False) B' T'
theorem Done.step {P : Program} {c : Nat} {W : World} {Fin : Goroutine → Prop} {sz : Nat} {m m' : Machine} {T : Trace} {ops : Array MemOp} (h : stepT P m = (.next m', ops)) (h' : Done P c W Fin sz m' (T ++ ops)) : Done P c W Fin sz m T := by
  obtain ⟨N, gs', a, w', sl', T', q', B', e, r⟩ := h'
  exact ⟨N + 1, gs', a, w', sl', T', q', B', by simp only [runNT, h]; exact e, r⟩

variable {P : Program} {c : Nat} {W : World} {z : Value} {Fin : Goroutine → Prop}

theorem map_fixed {gs : Array Goroutine} {i : Nat} {g g' : Goroutine} {w : World} (h : ∀ x y, x ≠ i → gs[x]? = some y → y.again w = y) (x : Nat) (hx : x ≠ i) : ((gs.map (woken P g g' w)).setIfInBounds i g')[x]? = gs[x]? := by
  rw [Array.getElem?_setIfInBounds_ne (fun e => hx e.symm), Array.getElem?_map]
  cases e : gs[x]? with
  | none => rfl
  | some y => simp only [Option.map_some, woken_of_again (h x y hx e)]
theorem heap_setChan {w : World} {k s r : Nat} {b : Bool} {tm : Bool} (h : ∃ o, w.heap[k]? = some o) : (w.setChan k 0 #[] b s r tm).heap[k]? = some (.chan 0 #[] b s r tm) := by
  obtain ⟨o, h⟩ := h
  have hlt : k < w.heap.size := (Array.getElem?_eq_some_iff.1 h).1
  simp [World.setChan, hlt]
theorem aside_setChan {w : World} (h : Aside c W w) (b : Bool) (s r : Nat) (tm : Bool) : Aside c W (w.setChan c 0 #[] b s r tm) := h.trans (Aside.put c w _)
theorem aside_at {w : World} (h : Aside c W w) (d : Nat) : Aside c W (w.at d) := h.trans (Aside.at c w d)

/-- Behind the close. -/
structure PhC (P : Program) (c : Nat) (W : World) (z : Value) (Fin : Goroutine → Prop) (k nA : Nat) (gs : Array Goroutine) (w : World) (T : Trace) (q : Nat → Nat) (B : Nat) : Prop where
  pos : k ≠ 0
  recv : ∃ a, gs[0]? = some a ∧ Goes P true (RA c W) DR (fun g _ => AtRcv P c W z (NextR P c W z Fin []) g) nA a default
  old : ∀ i g, 0 < i → gs[i]? = some g → QuitsD P (q i) (Deaf T i) g
  above : ∀ j, gs.size ≤ j → Deaf T j = 0
  chan : ∃ s, w.heap[c]? = some (.chan 0 #[] true s s false)
  keep : Aside c W w
  past : PastP (fun g => g = 0) k B T
  shut : ∃ m, Shut c k T m

theorem phC_run {k : Nat} : ∀ (M nA : Nat) (gs : Array Goroutine) (w : World) (sl : Option (Nat × Nat)) (T : Trace) (q : Nat → Nat) (B : Nat), nA + sumTo gs.size q = M → PhC P c W z Fin k nA gs w T q B → Done P c W Fin gs.size (crowd gs w sl) T := by
  intro M
  induction M using Nat.strongRecOn with
  | ind M ih =>
    intro nA gs w sl T q B hM h
    obtain ⟨hk, ⟨a, h0, hgo⟩, hold, habove, ⟨s, hchan⟩, hkeep, hpast, ⟨m, hshut⟩⟩ := h
    have ha : a.status = .running := goes_run (fun g h => h.1) hgo hkeep
    have hlt0 : 0 < gs.size := (Array.getElem?_eq_some_iff.1 h0).1
    have haw : ∀ x ∈ gs, awake x := by
      intro x hx
      obtain ⟨i, hi, rfl⟩ := Array.mem_iff_getElem.1 hx
      rcases Nat.eq_zero_or_pos i with rfl | hpos
      · have : gs[0] = a := by simpa [Array.getElem?_eq_getElem hi] using h0
        rw [this]; exact awake_of (.inl ha)
      · exact awake_of ((hold i _ hpos (Array.getElem?_eq_getElem hi)).status.elim .inl fun x => .inr (.inr x))
    obtain ⟨i, x, d, sl', hi, hx, hst⟩ := crowd_pick (P := P) (w := w) (sl := sl) haw ⟨0, a, h0, ha⟩
    have hkeep1 : Aside c W (w.at d) := aside_at hkeep d
    have hagain : ∀ (x : Nat) (y : Goroutine), gs[x]? = some y → y.again (w.at d) = y := by
      intro x y hy
      rcases Nat.eq_zero_or_pos x with rfl | hpos
      · rw [h0] at hy; obtain rfl := Option.some.inj hy; exact again_of_running (.inl ha) _
      · exact again_of_running (hold x y hpos hy).status _
    rcases Nat.eq_zero_or_pos i with rfl | hpos
    · obtain rfl : x = a := by rw [h0] at hi; exact (Option.some.inj hi).symm
      rcases goes_cases hgo hkeep1 with hstop | ⟨k', g', d', es, rfl, _, hstep, hes, hgo'⟩
      · -- it hears the last word
        obtain ⟨_, es, hes, g₂, _, _, _, hfin, hcomm⟩ := hstop
        have hcalm : partners (gs.setIfInBounds 0 ph) c true = [] := partners_nil fun j y hj => by
          rcases Nat.eq_zero_or_pos j with rfl | hjp
          · rw [Array.getElem?_setIfInBounds_self_of_lt hlt0] at hj
            obtain rfl := Option.some.inj hj; exact offersAt_ph _ _
          · rw [Array.getElem?_setIfInBounds_ne (by omega)] at hj
            refine offersAt_of_not_blocked (fun hb => ?_) _ _
            rcases (hold j y hjp hj).status with e | e <;> rw [e] at hb <;> cases hb
        have hrun := crowd_recv_closed (P := P) (sl := sl') (i := 0) h0 (show stepG P (0 == 0) x (w.at d) = _ from hcomm _ hkeep1) (show (w.at d).heap[c]? = some (.chan 0 #[] true s s false) from hchan) hcalm
        rw [finishComm_recv] at hrun
        obtain ⟨B₁, hB₁, p1⟩ := hpast.read0 (fn := x.frame.fn) (pos := x.frame.place) hes
        obtain ⟨ho, _, hdf⟩ := evP_ops (i := 0) (fn := x.frame.fn) (pos := x.frame.place) hes
        obtain ⟨B₂, hB₂, p2⟩ := p1.take rfl (hshut.app fun op hop hg => by have := ho op hop; omega) g₂.frame.fn g₂.frame.place
        have hown : ∀ op ∈ MemOp.ofEvents 0 x.frame.fn x.frame.place es ++ #[{ g := 0, fn := g₂.frame.fn, pos := g₂.frame.place, act := .recvClosed c }], op.g = 0 := fun op hop => by
          rcases Array.mem_append.1 hop with hop | hop
          · exact ho op hop
          · simp only [List.mem_toArray, List.mem_cons, List.not_mem_nil, or_false] at hop
            subst hop; rfl
        refine Done.step (hst.trans hrun) ⟨0, _, _, w.at d, sl', _, q, B₂, rfl, by simp, by rw [Array.getElem?_setIfInBounds_self_of_lt hlt0], rfl, hfin, hkeep1, Leavers.own0 (gs := gs) ⟨hold, habove⟩ hown (by simp) hlt0 (fun i hi => by rw [Array.getElem?_setIfInBounds_ne (by omega)]), by rw [← Array.append_assoc]; exact p2⟩
      · have hrun := runT_crowd_go (P := P) (sl := sl') (i := 0) h0 (show stepG P (0 == 0) x (w.at d) = _ from hstep)
        obtain ⟨B₁, hB₁, p1⟩ := hpast.read0 (fn := x.frame.fn) (pos := x.frame.place) hes
        obtain ⟨ho, _, hdf⟩ := evP_ops (i := 0) (fn := x.frame.fn) (pos := x.frame.place) hes
        have hfix := map_fixed (P := P) (gs := gs) (i := 0) (g := x) (g' := g') (w := (w.at d).at d') fun x y _ hy => hagain x y hy
        have hsz : ((gs.map (woken P x g' ((w.at d).at d'))).setIfInBounds 0 g').size = gs.size := by simp
        refine Done.step (hst.trans hrun) ?_
        have := ih (k' + sumTo gs.size q) (by omega) k' ((gs.map (woken P x g' ((w.at d).at d'))).setIfInBounds 0 g') ((w.at d).at d') sl' _ q B₁ (by rw [hsz]) ⟨hk, ⟨g', by rw [Array.getElem?_setIfInBounds_self_of_lt (by simpa using hlt0)], hgo'⟩, fun i y hip hy => by
            rw [hfix i (by omega)] at hy
            rw [Deaf_other T (g' := 0) (by omega) _ ho]
            exact hold i y hip hy, fun j hj => by
            rw [Deaf_other T (g' := 0) (by omega) _ ho]
            exact habove j (by rw [hsz] at hj; exact hj), ⟨s, hchan⟩, aside_at hkeep1 d', p1, ⟨m, hshut.app fun op hop hg => by have := ho op hop; omega⟩⟩
        rw [hsz] at this
        exact this
    · obtain ⟨g', ops, k', hqi, hrun, k1, k2, k3, k4⟩ := slip (P := P) (w := w.at d) (sl := sl') hi hpos hx (hold i x hpos hi)
      have hlt : i < gs.size := (Array.getElem?_eq_some_iff.1 hi).1
      have hfix := map_fixed (P := P) (gs := gs) (i := i) (g := x) (g' := g') (w := w.at d) fun x y _ hy => hagain x y hy
      have hsz : ((gs.map (woken P x g' (w.at d))).setIfInBounds i g').size = gs.size := by simp
      have hsum : sumTo gs.size (upd q i k') + (k' + 1) = sumTo gs.size q + k' := by
        have := sumTo_upd q k' id hlt
        simpa [hqi] using this
      refine Done.step (hst.trans hrun) ?_
      have p1 := hpast.mute (i := i) (by omega) k1 k2 (k3 B)
      have := ih (nA + sumTo gs.size (upd q i k')) (by omega) nA ((gs.map (woken P x g' (w.at d))).setIfInBounds i g') (w.at d) sl' _ (upd q i k') B (by rw [hsz]) ⟨hk, ⟨a, by rw [hfix 0 (by omega)]; exact h0, hgo⟩, fun j y hjp hy => by
          by_cases hji : j = i
          · subst hji
            rw [Array.getElem?_setIfInBounds_self_of_lt (by simpa using hlt)] at hy
            obtain rfl := Option.some.inj hy
            rw [upd_same]; exact k4
          · rw [hfix j hji] at hy
            rw [upd_ne q k' hji, Deaf_other T (g' := i) (fun e => hji e.symm) ops k1]
            exact hold j y hjp hy, fun j hj => by
          rw [Deaf_other T (g' := i) (by simp at hj; omega) ops k1]
          exact habove j (by simpa using hj), ⟨s, hchan⟩, hkeep1, p1, ⟨m, hshut.app fun op hop _ => k2 op hop⟩⟩
      rw [hsz] at this
      exact this

end Go.Proofs.Ytkhmooemgjichaa
