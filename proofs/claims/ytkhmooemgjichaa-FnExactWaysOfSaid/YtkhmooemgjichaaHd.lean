/- .. and so goes the machine: from a frame (goroutine 0 beside others that only leave) to a frame. -/
import Derived.Test.YtkhmooemgjichaaHb
namespace Go.Proofs.Ytkhmooemgjichaa

section
open Go Go.Conc
open Go.ConcN (sumTo upd sumTo_upd upd_ne upd_same)
variable {P : Program} {Stop : Goroutine → World → Prop}

/-- Alone, on every tape, it comes to a stop. -/
def SoloTo (P : Program) (Stop : Goroutine → World → Prop) (g : Goroutine) (w : World) : Prop :=
  ∀ τ, ∃ n g' w', runN P n (solo g (On w τ 0)) = .next (solo g' w') ∧ g'.status = .running ∧ Stop g' w'
/-- What is said of a stop does not hang on the tape. -/
def Blind (Stop : Goroutine → World → Prop) : Prop := ∀ g w τ d, Stop g w → Stop g (On w τ d)

/-- It is on its way to a stop, whatever is drawn between its steps. -/
inductive Tree (P : Program) (Stop : Goroutine → World → Prop) : Goroutine → World → Prop
  | stop {g : Goroutine} {w : World} : g.status = .running → PlainG g → (∀ τ d, Stop g (On w τ d)) → Tree P Stop g w
  | step {g : Goroutine} {w : World} (G : Nat → Goroutine) (W : Nat → World) (M : Nat → Nat) (O : Nat → Array MemOp) : g.status = .running → (∀ d, Own1 P g (w.at d) (G d) (W d) (M d) (O d)) → (∀ d, Tree P Stop (G d) (W d)) → Tree P Stop g w
theorem Tree.step' {g : Goroutine} {w : World} (hr : g.status = .running) (h : ∀ d, ∃ g' w' m ops, Own1 P g (w.at d) g' w' m ops ∧ Tree P Stop g' w') : Tree P Stop g w := by
  have hs := fun d => (h d).choose_spec.choose_spec.choose_spec.choose_spec
  exact .step _ _ _ _ hr (fun d => (hs d).1) fun d => (hs d).2

theorem on_on (w : World) (τ τ' : Tp) (d d' : Nat) : On (On w τ d) τ' d' = On w τ' d' := rfl
theorem on_self (w : World) : On w w.tape w.drawn = w := rfl
/-- A step is the same wherever the coming answers are. -/
theorem Own1.move {g g' : Goroutine} {w w' v : World} {m : Nat} {ops : Array MemOp} (h : Own1 P g w g' w' m ops) (e : ∃ τ d, v = On w τ d) (ha : Agr v.tape v.drawn w m) : Own1 P g v g' (On w' v.tape (v.drawn + m)) m ops := by
  obtain ⟨τ, d, rfl⟩ := e
  refine ⟨h.run, h.plain, rfl, rfl, h.own, h.deaf, fun gs sl τ' d' he h0 ha' => ?_⟩
  exact h.does gs sl τ' d' he h0 fun j hj => (ha' j hj).trans (ha j hj)
theorem Own1.alone {g g' : Goroutine} {w w' : World} {m : Nat} {ops : Array MemOp} (h : Own1 P g w g' w' m ops) (hr : g.status = .running) (τ : Tp) (d : Nat) (ha : Agr τ d w m) : step P (solo g (On w τ d)) = .next (solo g' (On w' τ (d + m))) := by
  obtain ⟨gs', e, h0, _, hs⟩ := h.does #[g] none τ d (fun i x hi hx => by
    have := (Array.getElem?_eq_some_iff.1 hx).1
    simp at this; omega) rfl ha
  have : gs' = #[g'] := by
    apply Array.ext_getElem?
    intro i
    rcases Nat.eq_zero_or_pos i with rfl | hi
    · rw [h0]; rfl
    · rw [Array.getElem?_eq_none (by rw [hs]; exact hi), Array.getElem?_eq_none (by exact hi)]
  rw [step, stepT_solo hr, solo_eq_crowd, e, this]
  rfl

structure St where
  g : Goroutine
  w : World
  c : Nat
  σ : Tp
/-- So far on the way, never at a stop. -/
structure Way1 (P : Program) (Stop : Goroutine → World → Prop) (g0 : Goroutine) (w0 : World) (i : Nat) (s : St) : Prop where
  run : s.g.status = .running
  plain : PlainG s.g
  bad : ¬ Tree P Stop s.g s.w
  here : ∀ τ, (∀ j, j < s.c → τ j = s.σ j) → runN P i (solo g0 (On w0 τ 0)) = .next (solo s.g (On s.w τ s.c))
  old : ∀ τ, (∀ j, j < s.c → τ j = s.σ j) → ∀ k, k < i → ∀ g' w', runN P k (solo g0 (On w0 τ 0)) = .next (solo g' w') → ¬ Stop g' w'

theorem Way1.next (hP : PlainP P) (hB : Blind Stop) {g0 : Goroutine} {w0 : World} (hS : SoloTo P Stop g0 w0) {i : Nat} {s : St} (h : Way1 P Stop g0 w0 i s) :
    ∃ s' : St, Way1 P Stop g0 w0 (i + 1) s' ∧ s.c ≤ s'.c ∧ ∀ j, j < s.c → s'.σ j = s.σ j := by
  obtain ⟨g, w, c, σ⟩ := s
  obtain ⟨hr, hp, hbad, hhere, hold⟩ := h
  dsimp only at *
  have hns : ¬ ∀ τ d, Stop g (On w τ d) := fun x => hbad (.stop hr hp x)
  have hd : ∃ d, ∀ g' w' m ops, Own1 P g (w.at d) g' w' m ops → ¬ Tree P Stop g' w' := by
    refine Classical.byContradiction fun hno => hbad (Tree.step' hr fun d => ?_)
    refine Classical.byContradiction fun h => hno ⟨d, fun g' w' m ops h1 h2 => h ⟨g', w', m, ops, h1, h2⟩⟩
  obtain ⟨d, hd⟩ := hd
  -- the tape on which goroutine 0 alone meets the answers that come here
  let τc : Tp := fun j => if j < c then σ j else w.tape (d + (j - c))
  have hτc : ∀ j, j < c → τc j = σ j := fun j hj => if_pos hj
  have hτd : ∀ j, τc (c + j) = w.tape (d + j) := fun j => by
    show (if c + j < c then σ (c + j) else w.tape (d + (c + j - c))) = _
    rw [if_neg (by omega), Nat.add_sub_cancel_left]
  have hstop : ∀ τ, ¬ Stop g (On w τ c) := fun τ x => hns fun τ' d' => by have := hB g _ τ' d' x; exact this
  rcases own_step hP hp hr (On w τc c) with hL | ⟨g', w', m, ops, hO⟩
  · exfalso
    obtain ⟨n, g', w', hn, hr', hs'⟩ := hS τc
    rcases Nat.lt_trichotomy i n with hlt | rfl | hge
    · obtain ⟨k, rfl⟩ : ∃ k, n = i + (k + 1) := ⟨n - i - 1, by omega⟩
      have e : runN P (i + (k + 1)) (solo g0 (On w0 τc 0)) = runN P (k + 1) (solo g (On w τc c)) := by rw [runN_add, hhere τc hτc]
      rw [e] at hn
      exact hL.no hr' hn
    · rw [hhere τc hτc] at hn
      obtain ⟨rfl, rfl⟩ := solo_inj (Stepped.next.inj hn)
      exact hstop τc hs'
    · exact hold τc hτc n hge g' w' hn hs'
  · have hO' : Own1 P g (w.at d) g' (On w' w.tape (d + m)) m ops := hO.move (v := w.at d) ⟨w.tape, d, rfl⟩ fun j hj => (hτd j).symm
    refine ⟨⟨g', On w' w.tape (d + m), c + m, τc⟩, ⟨hO.run, hO.plain, hd _ _ _ _ hO', fun τ hτ => ?_, fun τ hτ k hk g'' w'' e => ?_⟩, Nat.le_add_right _ _, hτc⟩
    · have e1 := hhere τ fun j hj => (hτ j (Nat.lt_of_lt_of_le hj (Nat.le_add_right _ _))).trans (hτc j hj)
      rw [runN_add, e1]
      show runN P 1 _ = _
      rw [runN, show solo g (On w τ c) = solo g (On (On w τc c) τ c) from rfl, hO.alone hr τ c fun j hj => hτ (c + j) (by dsimp only; omega)]
      rfl
    · have hτ' : ∀ j, j < c → τ j = σ j := fun j hj => (hτ j (Nat.lt_of_lt_of_le hj (Nat.le_add_right _ _))).trans (hτc j hj)
      rcases Nat.lt_or_ge k i with hlt | hge
      · exact hold τ hτ' k hlt g'' w'' e
      · obtain rfl : k = i := by omega
        rw [hhere τ hτ'] at e
        obtain ⟨rfl, rfl⟩ := solo_inj (Stepped.next.inj e)
        exact hstop τ

theorem tree_of_solo (hP : PlainP P) (hB : Blind Stop) {g : Goroutine} {w : World} (hg : PlainG g) (hr : g.status = .running) (hS : SoloTo P Stop g w) : Tree P Stop g w := by
  classical
  refine Classical.byContradiction fun hbad => ?_
  have h0 : Way1 P Stop g w 0 ⟨g, w, 0, w.tape⟩ := ⟨hr, hg, hbad, fun τ _ => rfl, fun _ _ k hk => absurd hk (Nat.not_lt_zero _)⟩
  let f : ∀ i, {s : St // Way1 P Stop g w i s} := fun i => Nat.rec ⟨⟨g, w, 0, w.tape⟩, h0⟩ (fun i s => ⟨Classical.choose (s.2.next hP hB hS), (Classical.choose_spec (s.2.next hP hB hS)).1⟩) i
  have hf : ∀ i, (f i).1.c ≤ (f (i + 1)).1.c ∧ ∀ j, j < (f i).1.c → (f (i + 1)).1.σ j = (f i).1.σ j := fun i => (Classical.choose_spec ((f i).2.next hP hB hS)).2
  have hmono : ∀ i k, (f i).1.c ≤ (f (i + k)).1.c ∧ ∀ j, j < (f i).1.c → (f (i + k)).1.σ j = (f i).1.σ j := by
    intro i k
    induction k with
    | zero => exact ⟨Nat.le_refl _, fun _ _ => rfl⟩
    | succ k ih => exact ⟨Nat.le_trans ih.1 (hf (i + k)).1, fun j hj => ((hf (i + k)).2 j (Nat.lt_of_lt_of_le hj ih.1)).trans (ih.2 j hj)⟩
  let T : Tp := fun j => if h : ∃ i, j < (f i).1.c then (f (Classical.choose h)).1.σ j else fun _ => 0
  have hT : ∀ i j, j < (f i).1.c → T j = (f i).1.σ j := by
    intro i j hj
    have h : ∃ i, j < (f i).1.c := ⟨i, hj⟩
    show (if h : ∃ i, j < (f i).1.c then (f (Classical.choose h)).1.σ j else fun _ => 0) = _
    rw [dif_pos h]
    have hc := Classical.choose_spec h
    generalize Classical.choose h = k at hc
    rcases Nat.le_total i k with hik | hik
    · obtain ⟨x, rfl⟩ := Nat.exists_eq_add_of_le hik
      exact (hmono i x).2 j hj
    · obtain ⟨x, rfl⟩ := Nat.exists_eq_add_of_le hik
      exact ((hmono k x).2 j hc).symm
  obtain ⟨n, g', w', hn, _, hs⟩ := hS T
  exact (f (n + 1)).2.old T (hT (n + 1)) n (Nat.lt_succ_self _) g' w' hn hs

end

open Go Go.Conc
open Go.ConcN (sumTo upd sumTo_upd upd_ne upd_same)
variable {P : Program} {Stop : Goroutine → World → Prop}

theorem low_one (a : MemAct) : ∃ B, a.low B := by
  cases a with
  | access e =>
    obtain ⟨loc, wr, sy⟩ := e
    cases loc with
    | cell a => exact ⟨a.block + 1, Nat.lt_succ_self _⟩
    | obj r => exact ⟨r + 1, Nat.lt_succ_self _⟩
    | _ => exact ⟨0, trivial⟩
  | mark m =>
    cases m with
    | acquire a => exact ⟨a.block + 1, Nat.lt_succ_self _⟩
    | release a => exact ⟨a.block + 1, Nat.lt_succ_self _⟩
    | releaseMerge a => exact ⟨a.block + 1, Nat.lt_succ_self _⟩
    | read a => exact ⟨a.block + 1, Nat.lt_succ_self _⟩
    | write a => exact ⟨a.block + 1, Nat.lt_succ_self _⟩
    | _ => exact ⟨0, trivial⟩
  | go _ => exact ⟨0, trivial⟩
  | start => exact ⟨0, trivial⟩
  | send c k => exact ⟨c + 1, Nat.lt_succ_self _⟩
  | sendDone c k => exact ⟨c + 1, Nat.lt_succ_self _⟩
  | recv c k p => exact ⟨c + 1, Nat.lt_succ_self _⟩
  | recvDone c k => exact ⟨c + 1, Nat.lt_succ_self _⟩
  | close c => exact ⟨c + 1, Nat.lt_succ_self _⟩
  | recvClosed c => exact ⟨c + 1, Nat.lt_succ_self _⟩
theorem low_list : ∀ l : List MemOp, ∃ B, ∀ op ∈ l, op.act.low B
  | [] => ⟨0, fun _ h => by cases h⟩
  | x :: l => by
    obtain ⟨B, h⟩ := low_list l
    obtain ⟨B', h'⟩ := low_one x.act
    refine ⟨max B B', fun op hop => ?_⟩
    rcases List.mem_cons.1 hop with rfl | hop
    · exact MemAct.low_mono (Nat.le_max_right _ _) h'
    · exact MemAct.low_mono (Nat.le_max_left _ _) (h op hop)
theorem low_all (ops : Array MemOp) : ∃ B, ∀ op ∈ ops, op.act.low B :=
  let ⟨B, h⟩ := low_list ops.toList; ⟨B, fun op hop => h op (Array.mem_toList_iff.2 hop)⟩

/-- A leaver's step. -/
theorem slip {gs : Array Goroutine} {w : World} {sl : Option (Nat × Nat)} {t : Trace} {n i : Nat} {g : Goroutine} (hi : gs[i]? = some g) (hpos : 0 < i) (hr : g.status = .running) (hq : QuitsD P n (Deaf t i) g) :
    ∃ g' ops k, n = k + 1 ∧ runT P (crowd gs w sl) i = (.next (crowd ((gs.map (woken P g g' w)).setIfInBounds i g') w sl), ops) ∧ (∀ op ∈ ops, op.g = i) ∧ (∀ op ∈ ops, op.act.touch? = none) ∧
      (∀ B, ∀ op ∈ ops, op.act.low B) ∧ QuitsD P k (Deaf (t ++ ops) i) g' := by
  have hi0 : (i == 0) = false := by simp; omega
  cases n with
  | zero => have := hq.1; rw [hr] at this; cases this
  | succ k =>
    rcases hq with ⟨hf, _⟩ | ⟨_, g', es, hm, hstp, hq'⟩
    · rw [hr] at hf; cases hf
    · refine ⟨g', _, k, rfl, runT_crowd_go (P := P) hi (by rw [hi0]; exact hstp w), fun op hop => ?_, fun op hop => ?_, fun B op hop => ?_, ?_⟩
      · obtain ⟨e, _, rfl⟩ := Go.Conc.mem_ofEvents hop; rfl
      · obtain ⟨e, he, rfl⟩ := Go.Conc.mem_ofEvents hop; exact touch_mute (hm e he)
      · obtain ⟨e, he, rfl⟩ := Go.Conc.mem_ofEvents hop; exact low_mute (hm e he) B
      · rw [Deaf_own]; exact hq'

theorem Leavers.easy {t : Trace} {gs : Array Goroutine} {q : Nat → Nat} (h : Leavers P t gs q) : Easy gs := fun i g hi hg => (h.old i g hi hg).status
theorem Past.own0 {B : Nat} {t : Trace} (h : Past (fun _ => False) B t) {ops : Array MemOp} (ho : ∀ op ∈ ops, op.g = 0) (hd : Deaf (t ++ ops) 0 = Deaf t 0) : ∃ B', B ≤ B' ∧ Past (fun _ => False) B' (t ++ ops) := by
  obtain ⟨B₁, h₁⟩ := low_all ops
  refine ⟨max B B₁, Nat.le_max_left _ _, (h.mono (Nat.le_max_left _ _)).app0 ho (fun _ _ _ _ x => x.elim) hd fun op hop => MemAct.low_mono (Nat.le_max_right _ _) (h₁ op hop)⟩
theorem Leavers.own0 {t : Trace} {gs gs' : Array Goroutine} {q : Nat → Nat} (h : Leavers P t gs q) {ops : Array MemOp} (ho : ∀ op ∈ ops, op.g = 0) (hs : gs'.size = gs.size) (hne : 0 < gs.size) (hg : ∀ i, 0 < i → gs'[i]? = gs[i]?) : Leavers P (t ++ ops) gs' q :=
  ⟨fun i g hi hx => by
    rw [hg i hi] at hx
    rw [Deaf_other t (g' := 0) (by omega) ops ho]
    exact h.old i g hi hx, fun j hj => by
    rw [Deaf_other t (g' := 0) (by omega) ops ho]
    exact h.above j (by omega)⟩

theorem walk_tree {g : Goroutine} {w : World} (h : Tree P Stop g w) : ∀ (gs : Array Goroutine) (w₁ : World) (sl : Option (Nat × Nat)) (t : Trace) (q : Nat → Nat) (B : Nat), (∃ d, w₁ = w.at d) → gs[0]? = some g → Leavers P t gs q → Past (fun _ => False) B t →
    ∃ N gs' g' w' sl' t' q' B', runNT P N (crowd gs w₁ sl) t = (.next (crowd gs' w' sl'), t') ∧ gs'.size = gs.size ∧ gs'[0]? = some g' ∧ g'.status = .running ∧ PlainG g' ∧ Stop g' w' ∧ Leavers P t' gs' q' ∧ Past (fun _ => False) B' t' ∧ w'.tape = w.tape := by
  induction h with
  | @stop g w hr hp hs =>
    rintro gs w₁ sl t q B ⟨d, rfl⟩ h0 hL hP
    exact ⟨0, gs, g, w.at d, sl, t, q, B, rfl, rfl, h0, hr, hp, hs w.tape d, hL, hP, rfl⟩
  | @step g w G W M O hr hO _ ih =>
    have main : ∀ (m : Nat) (gs : Array Goroutine) (w₁ : World) (sl : Option (Nat × Nat)) (t : Trace) (q : Nat → Nat) (B : Nat), sumTo gs.size q = m → (∃ d, w₁ = w.at d) → gs[0]? = some g → Leavers P t gs q → Past (fun _ => False) B t →
        ∃ N gs' g' w' sl' t' q' B', runNT P N (crowd gs w₁ sl) t = (.next (crowd gs' w' sl'), t') ∧ gs'.size = gs.size ∧ gs'[0]? = some g' ∧ g'.status = .running ∧ PlainG g' ∧ Stop g' w' ∧ Leavers P t' gs' q' ∧ Past (fun _ => False) B' t' ∧ w'.tape = w.tape := by
      intro m
      induction m using Nat.strongRecOn with
      | ind m ihm =>
        rintro gs w₁ sl t q B hm ⟨d₀, rfl⟩ h0 hL hP
        have haw : ∀ x ∈ gs, awake x := by
          intro x hx
          obtain ⟨i, hi, rfl⟩ := Array.mem_iff_getElem.1 hx
          rcases Nat.eq_zero_or_pos i with rfl | hpos
          · have : gs[0] = g := by simpa [Array.getElem?_eq_getElem hi] using h0
            rw [this]; exact awake_of (.inl hr)
          · exact awake_of ((hL.old i _ hpos (Array.getElem?_eq_getElem hi)).status.elim .inl fun x => .inr (.inr x))
        have hlt0 : 0 < gs.size := (Array.getElem?_eq_some_iff.1 h0).1
        obtain ⟨i, x, d, sl', hi, hx, hst⟩ := crowd_pick (P := P) (w := w.at d₀) (sl := sl) haw ⟨0, g, h0, hr⟩
        rcases Nat.eq_zero_or_pos i with rfl | hpos
        · have hOd := hO d
          obtain ⟨gs₁, e, k0, k1, k2⟩ := hOd.does gs sl' w.tape d (Leavers.easy hL) h0 fun _ _ => rfl
          obtain ⟨B₁, hB₁, hP₁⟩ := Past.own0 hP hOd.own (hOd.deaf t)
          obtain ⟨N, gs', g', w', sl'', t', q', B', hr', z1, z2, z3, z4, z5, z6, z7, z8⟩ := ih d gs₁ (On (W d) w.tape (d + M d)) sl' (t ++ O d) q B₁ ⟨d + M d, by
            have : (W d).tape = w.tape := hOd.tape
            show On (W d) w.tape (d + M d) = On (W d) (W d).tape (d + M d)
            rw [this]⟩ k0 (Leavers.own0 hL hOd.own k2 hlt0 k1) hP₁
          refine ⟨N + 1, gs', g', w', sl'', t', q', B', ?_, z1.trans k2, z2, z3, z4, z5, z6, z7, z8.trans hOd.tape⟩
          have hst' : stepT P (crowd gs (w.at d₀) sl) = (.next (crowd gs₁ (On (W d) w.tape (d + M d)) sl'), O d) := hst.trans e
          simp only [runNT, hst']
          exact hr'
        · obtain ⟨g', ops, k, hqi, e, k1, k2, k3, k4⟩ := slip (P := P) (w := (w.at d₀).at d) (sl := sl') hi hpos hx (hL.old i x hpos hi)
          have hlt : i < gs.size := (Array.getElem?_eq_some_iff.1 hi).1
          have hsz : ((gs.map (woken P x g' ((w.at d₀).at d))).setIfInBounds i g').size = gs.size := by simp
          have hsum : sumTo gs.size (upd q i k) < m := by
            have h2 : sumTo gs.size (upd q i k) + (k + 1) = sumTo gs.size q + k := by
              have := sumTo_upd q k id hlt
              simpa [hqi] using this
            omega
          have hne : ∀ j, j ≠ i → ((gs.map (woken P x g' ((w.at d₀).at d))).setIfInBounds i g')[j]? = gs[j]? := by
            intro j hj
            rw [Array.getElem?_setIfInBounds_ne (fun z => hj z.symm)]
            rcases Nat.eq_zero_or_pos j with rfl | hjp
            · rw [Array.getElem?_map, h0]
              simp [woken_run hr]
            · exact (Leavers.easy hL).woken hjp _ _ _
          obtain ⟨N, gs', g'', w', sl'', t', q', B', hr', z1, z2, z3, z4, z5, z6, z7, z8⟩ := ihm _ hsum ((gs.map (woken P x g' ((w.at d₀).at d))).setIfInBounds i g') ((w.at d₀).at d) sl' (t ++ ops) (upd q i k) B (by rw [hsz]) ⟨d, rfl⟩
            (by rw [hne 0 (by omega)]; exact h0) ⟨fun j y hj hy => by
              by_cases hji : j = i
              · subst hji
                rw [Array.getElem?_setIfInBounds_self_of_lt (by simpa using hlt)] at hy
                obtain rfl := Option.some.inj hy
                rw [upd_same]; exact k4
              · rw [hne j hji] at hy
                rw [upd_ne q k hji, Deaf_other t (g' := i) (fun z => hji z.symm) ops k1]
                exact hL.old j y hj hy, fun j hj => by
              rw [Deaf_other t (g' := i) (by omega) ops k1]
              exact hL.above j (by omega)⟩ (hP.appMute (by omega) k1 k2 (k3 B))
          refine ⟨N + 1, gs', g'', w', sl'', t', q', B', ?_, z1.trans hsz, z2, z3, z4, z5, z6, z7, z8⟩
          have hst' := hst.trans e
          simp only [runNT, hst']
          exact hr'
    exact fun gs w₁ sl t q B hw h0 hL hP => main _ gs w₁ sl t q B rfl hw h0 hL hP

end Go.Proofs.Ytkhmooemgjichaa
