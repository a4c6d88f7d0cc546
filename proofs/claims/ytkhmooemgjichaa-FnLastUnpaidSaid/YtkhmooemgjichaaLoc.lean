/- Entries that go by the tape's coming answers alone, say neither 'disable' nor 'enable' beyond pairs, and yield what is told: made out of small ones. -/
import Derived.StepT
import Derived.Conc.Events
import GoSem.ClaimLeaving
namespace Go.Proofs.Ytkhmooemgjichaa
open Go

abbrev Tp := Nat → Question → Nat

/-- The world with another tape, and another count of draws. -/
def On (w : World) (τ : Tp) (d : Nat) : World := { w with tape := τ, drawn := d }

def Rw {α : Type} : Result α → World
  | .ok _ w => w
  | .halt _ w => w

def rOn {α : Type} (τ : Tp) (d : Nat) : Result α → Result α
  | .ok a w => .ok a (On w τ d)
  | .halt h w => .halt h (On w τ d)

/-- The m answers that come are those of w. -/
def Agr (τ : Tp) (d : Nat) (w : World) (m : Nat) : Prop := ∀ j, j < m → τ (d + j) = w.tape (w.drawn + j)

theorem Agr.fst {τ : Tp} {d m n : Nat} {w : World} (h : Agr τ d w (m + n)) : Agr τ d w m := fun j hj => h j (by omega)
theorem Agr.snd {τ : Tp} {d m n : Nat} {w w' : World} (h : Agr τ d w (m + n)) (ht : w'.tape = w.tape) (hd : w'.drawn = w.drawn + m) : Agr τ (d + m) w' n := fun j hj => by
  have := h (m + j) (by omega)
  rw [ht, hd, Nat.add_assoc, Nat.add_assoc]
  exact this

theorem ask_loc {α : Type} (x : Ask α) : ∀ w : World, ∃ m, (w.ask x).2 = { w with drawn := w.drawn + m } ∧ ∀ τ d, Agr τ d w m → (On w τ d).ask x = ((w.ask x).1, On (w.ask x).2 τ (d + m)) := by
  induction x with
  | done a => exact fun w => ⟨0, rfl, fun τ d _ => rfl⟩
  | ask what range k ih =>
    intro w
    unfold World.ask
    dsimp only
    by_cases hf : (Question.extern what range).forced = true
    · simp only [hf, if_true]
      exact ih _ w
    · simp only [hf, if_false, Bool.false_eq_true]
      obtain ⟨m, h1, h2⟩ := ih ((Question.extern what range).cut (w.tape w.drawn (.extern what range))) { w with drawn := w.drawn + 1 }
      refine ⟨1 + m, by rw [h1]; simp [Nat.add_assoc], fun τ d ha => ?_⟩
      have e0 : τ d = w.tape w.drawn := by have := ha 0 (by omega); simpa using this
      have := h2 τ (d + 1) (Agr.snd (w' := { w with drawn := w.drawn + 1 }) ha rfl rfl)
      show World.ask (On { w with drawn := w.drawn + 1 } τ (d + 1)) (k ((Question.extern what range).cut (τ d (.extern what range)))) = _
      rw [e0, this, Nat.add_assoc]

theorem sys_of_ask {c : Sys} {w w' : World} {ret : SysRet} {os : Os} (h : w.ask (Kernel.perform c w.os) = ((ret, os), w')) (hb : ret ≠ .wouldBlock) : w.sys c = (ret, { w' with os }) := by
  unfold World.sys
  rw [h]
  cases ret <;> first | rfl | exact absurd rfl hb

/-- A call of the operating system's that would not wait goes by the coming answers alone. -/
theorem sys_loc (c : Sys) (w : World) (hb : (w.sys c).1 ≠ .wouldBlock) : ∃ m, (w.sys c).2.tape = w.tape ∧ (w.sys c).2.drawn = w.drawn + m ∧ ∀ τ d, Agr τ d w m → (On w τ d).sys c = ((w.sys c).1, On (w.sys c).2 τ (d + m)) := by
  obtain ⟨m, h1, h2⟩ := ask_loc (Kernel.perform c w.os) w
  cases hr : w.ask (Kernel.perform c w.os) with
  | mk a w' =>
    obtain ⟨ret, os⟩ := a
    rw [hr] at h1 h2
    dsimp only at h1 h2
    have hret : ret ≠ .wouldBlock := by
      intro e
      subst e
      exact hb (by unfold World.sys; rw [hr])
    rw [sys_of_ask hr hret]
    refine ⟨m, by rw [h1], by rw [h1], fun τ d ha => ?_⟩
    exact sys_of_ask (w := On w τ d) (h2 τ d ha) hret

/-- The run ends here, or its goroutine waits. -/
def Ends {α : Type} : Result α → Prop
  | .halt (.stuck _) _ => True
  | .halt (.unsupported (.initOrder _)) _ => False
  | .halt (.unsupported _) _ => True
  | .halt .blocked _ => True
  | .halt .waiting _ => True
  | _ => False

theorem ends_any {α β : Type} {h : Halt} {w : World} (e : Ends (.halt h w : Result α)) : Ends (.halt h w : Result β) := by
  cases h <;> first | exact e | (rename_i u; cases u <;> exact e)

/-- What it listed is kept. -/
def Heard {α : Type} : Result α → Prop
  | .halt (.unsupported _) _ => False
  | _ => True

theorem heard_any {α β : Type} {h : Halt} {w : World} (e : Heard (.halt h w : Result β)) : Heard (.halt h w : Result α) := by
  cases h <;> exact e

structure FitsP {α : Type} (P : Program) (Q : α → Prop) (x : Sem α) (w : World) (es : Array Event) : Prop where
  loc : ∃ m, (Rw (x.runT P w es).1).tape = w.tape ∧ (Rw (x.runT P w es).1).drawn = w.drawn + m ∧
    ∀ τ d, Agr τ d w m → x.runT P (On w τ d) es = (rOn τ (d + m) (x.runT P w es).1, (x.runT P w es).2)
  bal : Heard (x.runT P w es).1 → ∀ d, deafBehind d (x.runT P w es).2 = deafBehind d es
  out : ∀ a w', (x.runT P w es).1 = .ok a w' → Q a

def Good {α : Type} (P : Program) (Q : α → Prop) (x : Sem α) : Prop := ∀ w es, Ends (x.runT P w es).1 ∨ FitsP P Q x w es

variable {α β : Type} {P : Program} {Q : α → Prop} {R : β → Prop}

theorem Good.pure {a : α} (h : Q a) : Good P Q (Pure.pure a) := fun w es => .inr ⟨⟨0, rfl, rfl, fun τ d _ => rfl⟩, fun _ _ => rfl, fun b w' e => by cases e; exact h⟩
theorem Good.pure' {a : α} (h : Q a) : Good P Q (Sem.pure a) := Good.pure h
theorem Good.halt (h : Halt) : Good P Q (Sem.halt h : Sem α) := fun w es => .inr ⟨⟨0, rfl, rfl, fun τ d _ => rfl⟩, fun _ _ => rfl, fun b w' e => by cases e⟩
theorem Good.mono {Q' : α → Prop} {x : Sem α} (h : Good P Q x) (hq : ∀ a, Q a → Q' a) : Good P Q' x := fun w es =>
  (h w es).imp id fun f => ⟨f.loc, f.bal, fun a w' e => hq a (f.out a w' e)⟩
theorem Good.any {x : Sem α} (h : Good P Q x) : Good P (fun _ => True) x := h.mono fun _ _ => trivial

theorem Good.bind {x : Sem α} {f : α → Sem β} (hx : Good P Q x) (hf : ∀ a, Q a → Good P R (f a)) : Good P R (x >>= f) := by
  intro w es
  have e : ∀ w, (x >>= f).runT P w es = match x.runT P w es with
      | (.ok a w', es') => (f a).runT P w' es'
      | (.halt h w', es') => (.halt h w', es') := fun w => Sem.runT_bind' P x f w es
  have hxx := hx w es
  rcases hr : x.runT P w es with ⟨r, es'⟩
  cases r with
  | halt h w' =>
    have e1 := e w
    rw [hr] at e1
    dsimp only at e1
    rcases hxx with hE | hF
    · left
      rw [hr] at hE
      rw [e1]
      exact ends_any hE
    · right
      obtain ⟨m, h1, h2, h3⟩ := hF.loc
      rw [hr] at h1 h2 h3
      refine ⟨⟨m, by rw [e1]; exact h1, by rw [e1]; exact h2, fun τ d ha => ?_⟩, fun hh d => ?_, fun b w2 hb => ?_⟩
      · rw [e1, e, h3 τ d ha]
        rfl
      · rw [e1] at hh ⊢
        have := hF.bal (by rw [hr]; exact heard_any hh) d
        rw [hr] at this
        exact this
      · rw [e1] at hb; cases hb
  | ok a w' =>
    have e1 := e w
    rw [hr] at e1
    dsimp only at e1
    rcases hxx with hE | hF
    · rw [hr] at hE; exact hE.elim
    · obtain ⟨m, h1, h2, h3⟩ := hF.loc
      rw [hr] at h1 h2 h3
      have ha := hF.out a w' (by rw [hr])
      rcases hf a ha w' es' with hE | hG
      · left; rw [e1]; exact hE
      · right
        obtain ⟨n, g1, g2, g3⟩ := hG.loc
        refine ⟨⟨m + n, by rw [e1, g1]; exact h1, by rw [e1, g2]; show w'.drawn + n = _; rw [show w'.drawn = w.drawn + m from h2]; omega, fun τ d hag => ?_⟩, fun hh d => ?_, fun b w2 hb => ?_⟩
        · rw [e1, e, h3 τ d hag.fst]
          show (f a).runT P (On w' τ (d + m)) es' = _
          rw [g3 τ (d + m) (Agr.snd hag h1 h2), Nat.add_assoc]
        · rw [e1] at hh ⊢
          rw [hG.bal hh d]
          have := hF.bal (by rw [hr]; trivial) d
          rw [hr] at this
          exact this
        · rw [e1] at hb
          exact hG.out b w2 hb

theorem Good.bind' {x : Sem α} {f : α → Sem β} (hx : Good P (fun _ => True) x) (hf : ∀ a, Good P R (f a)) : Good P R (x >>= f) := Good.bind hx fun a _ => hf a
theorem Good.map {x : Sem α} (f : α → β) (hx : Good P (fun _ => True) x) (hf : ∀ a, R (f a)) : Good P R (f <$> x) := Good.bind' (f := fun a => Pure.pure (f a)) hx fun a => Good.pure (hf a)

theorem deaf_push (es : Array Event) (e : Event) (h : e.loc ≠ .mark .disable) (h' : e.loc ≠ .mark .enable) (d : Nat) : deafBehind d (es.push e) = deafBehind d es := by
  unfold deafBehind
  rw [Array.foldl_push]
  split
  · exact absurd ‹_› h
  · exact absurd ‹_› h'
  · rfl

theorem deaf_app (es fs : Array Event) (h : ∀ e ∈ fs, e.loc ≠ .mark .disable ∧ e.loc ≠ .mark .enable) (d : Nat) : deafBehind d (es ++ fs) = deafBehind d es := by
  obtain ⟨l⟩ := fs
  induction l generalizing es with
  | nil => simp
  | cons e l ih =>
    have e1 : es ++ (e :: l).toArray = es.push e ++ l.toArray := by simp
    rw [e1, ih (es.push e) fun x hx => h x (by simp at hx ⊢; exact .inr hx)]
    exact deaf_push es e (h e (by simp)).1 (h e (by simp)).2 d

theorem Good.of_eq_at {x y : Sem α} {w w' : World} {es es' : Array Event} (e : x.runT P w es = y.runT P w' es') (h1 : w'.tape = w.tape) (h2 : w'.drawn = w.drawn) (h3 : ∀ d, deafBehind d es' = deafBehind d es)
    (hy : Good P Q y) (h4 : ∀ τ d, x.runT P (On w τ d) es = y.runT P (On w' τ d) es') : Ends (x.runT P w es).1 ∨ FitsP P Q x w es := by
  rcases hy w' es' with hE | hF
  · left; rw [e]; exact hE
  · right
    obtain ⟨m, g1, g2, g3⟩ := hF.loc
    refine ⟨⟨m, by rw [e, g1, h1], by rw [e, g2, h2], fun τ d ha => ?_⟩, fun hh d => by rw [e] at hh ⊢; rw [hF.bal hh d, h3], fun a w2 => by rw [e]; exact hF.out a w2⟩
    rw [h4, e, g3 τ d (fun j hj => by rw [h1, h2]; exact ha j hj)]

theorem Good.halt_at {x : Sem α} {w : World} {es : Array Event} {h : Halt} (e : x.runT P w es = (.halt h w, es)) (h4 : ∀ τ d, x.runT P (On w τ d) es = (.halt h (On w τ d), es)) : Ends (x.runT P w es).1 ∨ FitsP P Q x w es :=
  .inr ⟨⟨0, by rw [e]; rfl, by rw [e]; rfl, fun τ d _ => by rw [h4, e]; rfl⟩, fun _ d => by rw [e], fun a w2 hb => by rw [e] at hb; cases hb⟩

theorem deafs_refl (es : Array Event) : ∀ d, deafBehind d es = deafBehind d es := fun _ => rfl

theorem Good.dead {x : Sem α} (h : ∀ w es, Ends (x.runT P w es).1) : Good P Q x := fun w es => .inl (h w es)

theorem cellEvent_push (es : Array Event) (a : Addr) (b c : Bool) (d : Nat) : deafBehind d (es.push ⟨.cell a, b, c⟩) = deafBehind d es := deaf_push es _ (by simp) (by simp) d
theorem cellEvents_app (es : Array Event) (l : List Addr) (b c : Bool) (d : Nat) : deafBehind d (es ++ l.toArray.map (⟨.cell ·, b, c⟩)) = deafBehind d es :=
  deaf_app es _ (fun e he => by obtain ⟨x, _, rfl⟩ := Array.mem_map.1 he; exact ⟨by simp, by simp⟩) d

theorem Good.load (a : Addr) (m : Mode) {k : Value → Sem α} (hk : ∀ v, Good P Q (k v)) : Good P Q (Sem.load m a k) := by
  intro w es
  cases hc : w.cell? a with
  | some v =>
    have e : ∀ τ d, (Sem.load m a k).runT P (On w τ d) es = (k v).runT P (On w τ d) (es.push ⟨.cell a, false, m == .atomic⟩) := fun τ d => by
      have : (On w τ d).cell? a = some v := hc
      simp only [Sem.runT, this]
    exact Good.of_eq_at (e w.tape w.drawn) rfl rfl (cellEvent_push _ _ _ _) (hk v) e
  | none =>
    cases hf : w.farLoad P a (m == .atomic) with
    | ok r =>
      obtain ⟨v, t⟩ := r
      have e : ∀ τ d, (Sem.load m a k).runT P (On w τ d) es = (k v).runT P (On w τ d) (es ++ t.toArray.map (⟨.cell ·, false, m == .atomic⟩)) := fun τ d => by
        have h1 : (On w τ d).cell? a = none := hc
        have h2 : (On w τ d).farLoad P a (m == .atomic) = .ok (v, t) := hf
        simp only [Sem.runT, h1, h2]
      exact Good.of_eq_at (e w.tape w.drawn) rfl rfl (cellEvents_app _ _ _ _) (hk v) e
    | error h =>
      have e : ∀ τ d, (Sem.load m a k).runT P (On w τ d) es = (.halt h (On w τ d), es) := fun τ d => by
        have h1 : (On w τ d).cell? a = none := hc
        have h2 : (On w τ d).farLoad P a (m == .atomic) = .error h := hf
        simp only [Sem.runT, h1, h2]
      exact Good.halt_at (e w.tape w.drawn) e

theorem viewStore_on (P : Program) (w : World) (b : Addr) (u : TypeId) (a : Addr) (v : Value) (m : Bool) (τ : Tp) (d : Nat) :
    (On w τ d).viewStore P b u a v m = (w.viewStore P b u a v m).map fun x => (On x.1 τ d, x.2) := by
  have hs : (On w τ d).seen P b u a m = w.seen P b u a m := rfl
  unfold World.viewStore
  rw [hs]
  simp only [bind, Except.bind, pure, Except.pure]
  split
  · rfl
  · split
    · rfl
    · rename_i x _
      obtain ⟨c, e, frozen, first, like, cells⟩ := x
      dsimp only
      split
      · split
        · rfl
        · split
          · rfl
          · rfl
      · rfl

theorem farStore_on (P : Program) (w : World) (a : Addr) (v : Value) (m : Bool) (τ : Tp) (d : Nat) :
    (On w τ d).farStore P a v m = (w.farStore P a v m).map fun x => (On x.1 τ d, x.2) := by
  unfold World.farStore
  have hb : (On w τ d).heap[a.block]? = w.heap[a.block]? := rfl
  rw [hb]
  split
  · rw [viewStore_on]
    cases w.viewStore P _ _ a v m <;> rfl
  · rfl

theorem viewStore_world {P : Program} {w : World} {b : Addr} {u : TypeId} {a : Addr} {v : Value} {m : Bool} {x : World × List Addr} (h : w.viewStore P b u a v m = .ok x) : x.1.tape = w.tape ∧ x.1.drawn = w.drawn := by
  have h2 := viewStore_on P w b u a v m w.tape w.drawn
  have e : On w w.tape w.drawn = w := rfl
  rw [e, h] at h2
  have h3 : x = (On x.1 w.tape w.drawn, x.2) := by
    have := h2
    simp only [Except.map] at this
    exact Except.ok.inj this
  rw [h3]
  exact ⟨rfl, rfl⟩

theorem farStore_world {P : Program} {w : World} {a : Addr} {v : Value} {m : Bool} {x : World × List Addr} (h : w.farStore P a v m = .ok x) : x.1.tape = w.tape ∧ x.1.drawn = w.drawn := by
  have h2 := farStore_on P w a v m w.tape w.drawn
  have e : On w w.tape w.drawn = w := rfl
  rw [e, h] at h2
  have h3 : x = (On x.1 w.tape w.drawn, x.2) := by
    have := h2
    simp only [Except.map] at this
    exact Except.ok.inj this
  rw [h3]
  exact ⟨rfl, rfl⟩

theorem Good.store (a : Addr) (m : Mode) (v : Value) {k : Sem α} (hk : Good P Q k) : Good P Q (Sem.store m a v k) := by
  intro w es
  have main : (∀ w es, (Sem.store m a v k).runT P w es = match w.cell? a with
      | some _ => if w.frozen? a then (.halt (.unsupported (.unsafePointer "a write to bytes that a string shares")) w, es) else k.runT P (w.setCell a v) (es.push ⟨.cell a, true, m == Mode.atomic⟩)
      | none => match w.farStore P a v (m == Mode.atomic) with
        | .ok (w, touched) => k.runT P w (es ++ touched.toArray.map (⟨.cell ·, true, m == Mode.atomic⟩))
        | .error h => (.halt h w, es)) → Ends ((Sem.store m a v k).runT P w es).1 ∨ FitsP P Q (Sem.store m a v k) w es := by
    intro e
    cases hc : w.cell? a with
    | some c =>
      cases hf : w.frozen? a with
      | true =>
        have e' : ∀ τ d, (Sem.store m a v k).runT P (On w τ d) es = (.halt (.unsupported (.unsafePointer "a write to bytes that a string shares")) (On w τ d), es) := fun τ d => by
          have h1 : (On w τ d).cell? a = some c := hc
          have h2 : (On w τ d).frozen? a = true := hf
          rw [e]; simp only [h1, h2, if_true]
        exact Good.halt_at (e' w.tape w.drawn) e'
      | false =>
        have e' : ∀ τ d, (Sem.store m a v k).runT P (On w τ d) es = k.runT P (On (w.setCell a v) τ d) (es.push ⟨.cell a, true, m == Mode.atomic⟩) := fun τ d => by
          have h1 : (On w τ d).cell? a = some c := hc
          have h2 : (On w τ d).frozen? a = false := hf
          rw [e]; simp only [h1, h2, if_false, Bool.false_eq_true]; rfl
        exact Good.of_eq_at (e' w.tape w.drawn) rfl rfl (cellEvent_push _ _ _ _) hk e'
    | none =>
      cases hf : w.farStore P a v (m == Mode.atomic) with
      | ok x =>
        obtain ⟨w₂, t⟩ := x
        have hw := farStore_world hf
        have e' : ∀ τ d, (Sem.store m a v k).runT P (On w τ d) es = k.runT P (On w₂ τ d) (es ++ t.toArray.map (⟨.cell ·, true, m == Mode.atomic⟩)) := fun τ d => by
          have h1 : (On w τ d).cell? a = none := hc
          rw [e, h1, farStore_on, hf]; rfl
        have e0 := e' w.tape w.drawn
        have e2 : On w₂ w.tape w.drawn = w₂ := by rw [← hw.1, ← hw.2]; rfl
        rw [e2] at e0
        exact Good.of_eq_at e0 hw.1 hw.2 (cellEvents_app _ _ _ _) hk e'
      | error h =>
        have e' : ∀ τ d, (Sem.store m a v k).runT P (On w τ d) es = (.halt h (On w τ d), es) := fun τ d => by
          have h1 : (On w τ d).cell? a = none := hc
          rw [e, h1, farStore_on, hf]; rfl
        exact Good.halt_at (e' w.tape w.drawn) e'
  cases v
  case agg => exact Good.halt_at rfl fun _ _ => rfl
  case tuple => exact Good.halt_at rfl fun _ _ => rfl
  all_goals exact main fun w es => by simp only [Sem.runT]; rfl

theorem Good.new (o : Obj) {k : Nat → Sem α} (hk : ∀ r, Good P Q (k r)) : Good P Q (Sem.new o k) := fun w es =>
  Good.of_eq_at (y := k w.heap.size) (w' := { w with heap := w.heap.push o }) (es' := es) rfl rfl rfl (deafs_refl _) (hk _) fun _ _ => rfl
theorem Good.shape (r : Nat) {k : Option (TypeId × Nat) → Sem α} (hk : ∀ r, Good P Q (k r)) : Good P Q (Sem.shape r k) := fun w es =>
  Good.of_eq_at (y := k (w.shape? r)) (w' := w) (es' := es) rfl rfl rfl (deafs_refl _) (hk _) fun _ _ => rfl
theorem Good.freeze (a : Addr) (n : Nat) {k : Sem α} (hk : Good P Q k) : Good P Q (Sem.freeze a n k) := fun w es =>
  Good.of_eq_at (y := k) (w' := w.freeze a n) (es' := es) rfl (by unfold World.freeze; split <;> rfl) (by unfold World.freeze; split <;> rfl) (deafs_refl _) hk fun τ d => by
    show k.runT P ((On w τ d).freeze a n) es = _
    congr 1
    unfold World.freeze
    split <;> rfl
theorem Good.frozen (a : Addr) {k : Bool → Sem α} (hk : ∀ r, Good P Q (k r)) : Good P Q (Sem.frozen a k) := fun w es =>
  Good.of_eq_at (y := k (w.frozen? a)) (w' := w) (es' := es) rfl rfl rfl (deafs_refl _) (hk _) fun _ _ => rfl
theorem Good.program {k : Program → Sem α} (hk : Good P Q (k P)) : Good P Q (Sem.program k) := fun w es =>
  Good.of_eq_at (y := k P) (w' := w) (es' := es) rfl rfl rfl (deafs_refl _) hk fun _ _ => rfl
theorem Good.mark (m : Mark) (h1 : m ≠ .disable) (h2 : m ≠ .enable) {k : Sem α} (hk : Good P Q k) : Good P Q (Sem.mark m k) := fun w es =>
  Good.of_eq_at (y := k) (w' := w) (es' := es.push ⟨.mark m, false, true⟩) rfl rfl rfl (deaf_push _ _ (fun e => h1 (Loc.mark.inj e)) fun e => h2 (Loc.mark.inj e)) hk fun _ _ => rfl
theorem runT_getObj (r : Nat) (k : Obj → Sem α) (w : World) (es : Array Event) : (Sem.getObj r k).runT P w es = match w.heap[r]? with
    | some (.cells ..) => (.halt (.stuck "getObj: a row of cells") w, es)
    | some o => (k o).runT P w (es.push ⟨.obj r, false, o.isChan⟩)
    | none => (.halt (.stuck "getObj: no such block") w, es) := by simp only [Sem.runT]; rfl
theorem runT_setObj (r : Nat) (o : Obj) (k : Sem α) (w : World) (es : Array Event) : (Sem.setObj r o k).runT P w es = match w.heap[r]? with
    | some (.cells ..) => (.halt (.stuck "setObj: a row of cells") w, es)
    | some _ => k.runT P { w with heap := w.heap.setIfInBounds r o } (es.push ⟨.obj r, true, o.isChan⟩)
    | none => (.halt (.stuck "setObj: no such block") w, es) := by simp only [Sem.runT]; rfl
theorem Good.getObj (r : Nat) {k : Obj → Sem α} (hk : ∀ o, Good P Q (k o)) : Good P Q (Sem.getObj r k) := by
  intro w es
  cases hr : w.heap[r]? with
  | none =>
    have e : ∀ τ d, (Sem.getObj r k).runT P (On w τ d) es = (.halt (.stuck "getObj: no such block") (On w τ d), es) := fun τ d => by
      have : (On w τ d).heap[r]? = none := hr
      simp only [Sem.runT, this]
    exact Good.halt_at (e w.tape w.drawn) e
  | some o =>
    have main : (∀ τ d, (Sem.getObj r k).runT P (On w τ d) es = (k o).runT P (On w τ d) (es.push ⟨.obj r, false, o.isChan⟩)) → Ends ((Sem.getObj r k).runT P w es).1 ∨ FitsP P Q (Sem.getObj r k) w es := fun e =>
      Good.of_eq_at (e w.tape w.drawn) rfl rfl (deaf_push _ _ (by simp) (by simp)) (hk o) e
    cases o
    case cells =>
      have e : ∀ τ d, (Sem.getObj r k).runT P (On w τ d) es = (.halt (.stuck "getObj: a row of cells") (On w τ d), es) := fun τ d => by
        have h1 : (On w τ d).heap[r]? = w.heap[r]? := rfl
        simp only [Sem.runT, h1, hr]
      exact Good.halt_at (e w.tape w.drawn) e
    all_goals
      refine main fun τ d => ?_
      have h1 : (On w τ d).heap[r]? = w.heap[r]? := rfl
      rw [runT_getObj, h1, hr]
theorem Good.setObj (r : Nat) (o : Obj) {k : Sem α} (hk : Good P Q k) : Good P Q (Sem.setObj r o k) := by
  intro w es
  cases hr : w.heap[r]? with
  | none =>
    have e : ∀ τ d, (Sem.setObj r o k).runT P (On w τ d) es = (.halt (.stuck "setObj: no such block") (On w τ d), es) := fun τ d => by
      have : (On w τ d).heap[r]? = none := hr
      simp only [Sem.runT, this]
    exact Good.halt_at (e w.tape w.drawn) e
  | some o' =>
    have main : (∀ τ d, (Sem.setObj r o k).runT P (On w τ d) es = k.runT P (On { w with heap := w.heap.setIfInBounds r o } τ d) (es.push ⟨.obj r, true, o.isChan⟩)) → Ends ((Sem.setObj r o k).runT P w es).1 ∨ FitsP P Q (Sem.setObj r o k) w es := fun e =>
      Good.of_eq_at (w' := { w with heap := w.heap.setIfInBounds r o }) (e w.tape w.drawn) rfl rfl (deaf_push _ _ (by simp) (by simp)) hk e
    cases o'
    case cells =>
      have e : ∀ τ d, (Sem.setObj r o k).runT P (On w τ d) es = (.halt (.stuck "setObj: a row of cells") (On w τ d), es) := fun τ d => by
        have h1 : (On w τ d).heap[r]? = w.heap[r]? := rfl
        simp only [Sem.runT, h1, hr]
      exact Good.halt_at (e w.tape w.drawn) e
    all_goals
      refine main fun τ d => ?_
      have h1 : (On w τ d).heap[r]? = w.heap[r]? := rfl
      rw [runT_setObj, h1, hr]
      rfl
theorem Good.choose (q : Question) {k : Nat → Sem α} (hk : ∀ n, Good P Q (k n)) : Good P Q (Sem.choose q k) := by
  intro w es
  cases hq : q.forced with
  | true =>
    have e : ∀ τ d, (Sem.choose q k).runT P (On w τ d) es = (k 0).runT P (On w τ d) es := fun τ d => by simp only [Sem.runT, hq, if_true]
    exact Good.of_eq_at (e w.tape w.drawn) rfl rfl (deafs_refl _) (hk 0) e
  | false =>
    have e : ∀ w, (Sem.choose q k).runT P w es = (k (q.cut (w.tape w.drawn q))).runT P { w with drawn := w.drawn + 1 } es := fun w => by simp only [Sem.runT, hq, if_false, Bool.false_eq_true]
    rcases hk (q.cut (w.tape w.drawn q)) { w with drawn := w.drawn + 1 } es with hE | hF
    · left; rw [e]; exact hE
    · right
      obtain ⟨m, g1, g2, g3⟩ := hF.loc
      refine ⟨⟨1 + m, by rw [e, g1], by rw [e, g2]; show w.drawn + 1 + m = _; omega, fun τ d ha => ?_⟩, fun hh d => by rw [e] at hh ⊢; rw [hF.bal hh d], fun a w2 => by rw [e]; exact hF.out a w2⟩
      have e0 : τ d = w.tape w.drawn := by have := ha 0 (by omega); simpa using this
      rw [e, e]
      show (k (q.cut (τ d q))).runT P (On { w with drawn := w.drawn + 1 } τ (d + 1)) es = _
      rw [e0, g3 τ (d + 1) (Agr.snd (w' := { w with drawn := w.drawn + 1 }) ha rfl rfl), Nat.add_assoc]
/-- A call of the operating system's behind which an answer 'would wait' ends the run. -/
theorem Good.sys (c : Sys) {k : SysRet → Sem α} (hw : ∀ w es, Ends ((k .wouldBlock).runT P w es).1) (hk : ∀ r, Good P Q (k r)) : Good P Q (Sem.sys c k) := by
  intro w es
  have e : ∀ w, (Sem.sys c k).runT P w es = (k (w.sys c).1).runT P (w.sys c).2 (es.push ⟨.output, true, false⟩) := fun w => rfl
  by_cases hb : (w.sys c).1 = .wouldBlock
  · left; rw [e, hb]; exact hw _ _
  · obtain ⟨m, h1, h2, h3⟩ := sys_loc c w hb
    rcases hk (w.sys c).1 (w.sys c).2 (es.push ⟨.output, true, false⟩) with hE | hF
    · left; rw [e]; exact hE
    · right
      obtain ⟨n, g1, g2, g3⟩ := hF.loc
      refine ⟨⟨m + n, by rw [e, g1, h1], by rw [e, g2, h2]; omega, fun τ d ha => ?_⟩, fun hh d => by rw [e] at hh ⊢; rw [hF.bal hh d]; exact deaf_push _ _ (by simp) (by simp) d, fun a w2 => by rw [e]; exact hF.out a w2⟩
      rw [e, e, h3 τ d ha.fst]
      dsimp only
      rw [g3 τ (d + m) (Agr.snd ha h1 h2), Nat.add_assoc]

/-- A stretch in which its goroutine is deaf, and which is left by its end alone (or the run ends, or nothing that it listed is kept). -/
theorem Good.pair {α β : Type} {P : Program} {R : β → Prop} {x : Sem α} {k : α → Sem β} (hx : Good P (fun _ => True) x)
    (hm : ∀ w es, Ends (x.runT P w es).1 ∨ ¬ Heard (x.runT P w es).1 ∨ ∃ a w', (x.runT P w es).1 = .ok a w') (hk : ∀ a, Good P R (k a)) :
    Good P R (Sem.mark .disable (x >>= fun a => Sem.mark .enable (k a))) := by
  intro w es
  have e : ∀ w, (Sem.mark .disable (x >>= fun a => Sem.mark .enable (k a))).runT P w es = match x.runT P w (es.push ⟨.mark .disable, false, true⟩) with
      | (.ok a w', es') => (k a).runT P w' (es'.push ⟨.mark .enable, false, true⟩)
      | (.halt h w', es') => (.halt h w', es') := fun w => by
    show (x >>= fun a => Sem.mark .enable (k a)).runT P w (es.push ⟨.mark .disable, false, true⟩) = _
    exact Sem.runT_bind' P x _ w _
  have hxx := hx w (es.push ⟨.mark .disable, false, true⟩)
  have hmm := hm w (es.push ⟨.mark .disable, false, true⟩)
  rcases hr : x.runT P w (es.push ⟨.mark .disable, false, true⟩) with ⟨r, es'⟩
  rw [hr] at hmm
  have e1 := e w
  rw [hr] at e1
  cases r with
  | halt h w' =>
    dsimp only at e1
    rcases hmm with hE | hN | ⟨a, w2, h0⟩
    · left; rw [e1]; exact ends_any hE
    · rcases hxx with hE | hF
      · left; rw [e1]; rw [hr] at hE; exact ends_any hE
      · right
        obtain ⟨m, h1, h2, h3⟩ := hF.loc
        rw [hr] at h1 h2 h3
        refine ⟨⟨m, by rw [e1]; exact h1, by rw [e1]; exact h2, fun τ d ha => ?_⟩, fun hh => ?_, fun b w2 hb => ?_⟩
        · rw [e1, e, h3 τ d ha]; rfl
        · rw [e1] at hh
          exact absurd (heard_any hh) hN
        · rw [e1] at hb; cases hb
    · cases h0
  | ok a w' =>
    dsimp only at e1
    rcases hxx with hE | hF
    · rw [hr] at hE; exact hE.elim
    · obtain ⟨m, h1, h2, h3⟩ := hF.loc
      rw [hr] at h1 h2 h3
      rcases hk a w' (es'.push ⟨.mark .enable, false, true⟩) with hE | hG
      · left; rw [e1]; exact hE
      · right
        obtain ⟨n, g1, g2, g3⟩ := hG.loc
        refine ⟨⟨m + n, by rw [e1, g1]; exact h1, by rw [e1, g2]; show w'.drawn + n = _; rw [show w'.drawn = w.drawn + m from h2]; omega, fun τ d hag => ?_⟩, fun hh d => ?_, fun b w2 hb => ?_⟩
        · rw [e1, e, h3 τ d hag.fst]
          show (k a).runT P (On w' τ (d + m)) _ = _
          rw [g3 τ (d + m) (Agr.snd hag h1 h2), Nat.add_assoc]
        · rw [e1] at hh ⊢
          rw [hG.bal hh d]
          have hb := hF.bal (by rw [hr]; trivial) d
          rw [hr] at hb
          have p1 : deafBehind d (es'.push ⟨.mark .enable, false, true⟩) = deafBehind d es' - 1 := by unfold deafBehind; rw [Array.foldl_push]
          have p2 : deafBehind d (es.push ⟨.mark .disable, false, true⟩) = deafBehind d es + 1 := by unfold deafBehind; rw [Array.foldl_push]
          rw [p1, show deafBehind d es' = _ from hb, p2]
          omega
        · rw [e1] at hb
          exact hG.out b w2 hb

end Go.Proofs.Ytkhmooemgjichaa
