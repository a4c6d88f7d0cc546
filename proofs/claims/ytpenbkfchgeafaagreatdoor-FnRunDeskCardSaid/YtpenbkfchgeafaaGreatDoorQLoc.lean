/- Entries that go by the tape's coming answers alone, say neither 'disable' nor 'enable' beyond pairs, and yield what is told: made out of small ones. That the model's entries go by the coming answers alone and say no word of deafness: one after another. What an operation yields: of a program whose functions without a body are good. -/
import Derived.StepT
import Derived.Conc.Events
import GoSem.ClaimLeaving
import GoSem.Dispatch
namespace Go.Proofs.YtpenbkfchgeafaaGreatDoor
open Go

abbrev Tp := Nat → Question → Nat

/-- The world with another tape, and another count of draws. -/
def On (w : World) (τ : Tp) (d : Nat) : World := { w with tape := τ, drawn := d }

def Rw {α : Type} : Result α → World
  | .ok _ w => w
  | .halt _ w => w

def rOn {α : Type} (τ : Tp) (d : Nat) : Result α → Result α
  | .ok a w => .ok a (On w τ d)
  | .halt h w => .halt h (On w τ d)

/-- The m answers that come are those of w. -/
def Agr (τ : Tp) (d : Nat) (w : World) (m : Nat) : Prop := ∀ j, j < m → τ (d + j) = w.tape (w.drawn + j)

theorem Agr.fst {τ : Tp} {d m n : Nat} {w : World} (h : Agr τ d w (m + n)) : Agr τ d w m := fun j hj => h j (by omega)
theorem Agr.snd {τ : Tp} {d m n : Nat} {w w' : World} (h : Agr τ d w (m + n)) (ht : w'.tape = w.tape) (hd : w'.drawn = w.drawn + m) : Agr τ (d + m) w' n := fun j hj => by
  have := h (m + j) (by omega)
  rw [ht, hd, Nat.add_assoc, Nat.add_assoc]
  exact this

theorem ask_loc {α : Type} (x : Ask α) : ∀ w : World, ∃ m, (w.ask x).2 = { w with drawn := w.drawn + m } ∧ ∀ τ d, Agr τ d w m → (On w τ d).ask x = ((w.ask x).1, On (w.ask x).2 τ (d + m)) := by
  induction x with
  | done a => exact fun w => ⟨0, rfl, fun τ d _ => rfl⟩
  | ask what range k ih =>
    intro w
    unfold World.ask
    dsimp only
    by_cases hf : (Question.extern what range).forced = true
    · simp only [hf, if_true]
      exact ih _ w
    · simp only [hf, if_false, Bool.false_eq_true]
      obtain ⟨m, h1, h2⟩ := ih ((Question.extern what range).cut (w.tape w.drawn (.extern what range))) { w with drawn := w.drawn + 1 }
      refine ⟨1 + m, by rw [h1]; simp [Nat.add_assoc], fun τ d ha => ?_⟩
      have e0 : τ d = w.tape w.drawn := by have := ha 0 (by omega); simpa using this
      have := h2 τ (d + 1) (Agr.snd (w' := { w with drawn := w.drawn + 1 }) ha rfl rfl)
      show World.ask (On { w with drawn := w.drawn + 1 } τ (d + 1)) (k ((Question.extern what range).cut (τ d (.extern what range)))) = _
      rw [e0, this, Nat.add_assoc]

theorem sys_of_ask {c : Sys} {w w' : World} {ret : SysRet} {os : Os} (h : w.ask (Kernel.perform c w.os) = ((ret, os), w')) (hb : ret ≠ .wouldBlock) : w.sys c = (ret, { w' with os }) := by
  unfold World.sys
  rw [h]
  cases ret <;> first | rfl | exact absurd rfl hb

/-- A call of the operating system's that would not wait goes by the coming answers alone. -/
theorem sys_loc (c : Sys) (w : World) (hb : (w.sys c).1 ≠ .wouldBlock) : ∃ m, (w.sys c).2.tape = w.tape ∧ (w.sys c).2.drawn = w.drawn + m ∧ ∀ τ d, Agr τ d w m → (On w τ d).sys c = ((w.sys c).1, On (w.sys c).2 τ (d + m)) := by
  obtain ⟨m, h1, h2⟩ := ask_loc (Kernel.perform c w.os) w
  cases hr : w.ask (Kernel.perform c w.os) with
  | mk a w' =>
    obtain ⟨ret, os⟩ := a
    rw [hr] at h1 h2
    dsimp only at h1 h2
    have hret : ret ≠ .wouldBlock := by
      intro e
      subst e
      exact hb (by unfold World.sys; rw [hr])
    rw [sys_of_ask hr hret]
    refine ⟨m, by rw [h1], by rw [h1], fun τ d ha => ?_⟩
    exact sys_of_ask (w := On w τ d) (h2 τ d ha) hret

/-- The run ends here, or its goroutine waits. -/
def Ends {α : Type} : Result α → Prop
  | .halt (.stuck _) _ => True
  | .halt (.unsupported (.initOrder _)) _ => False
  | .halt (.unsupported _) _ => True
  | .halt .blocked _ => True
  | .halt .waiting _ => True
  | _ => False

theorem ends_any {α β : Type} {h : Halt} {w : World} (e : Ends (.halt h w : Result α)) : Ends (.halt h w : Result β) := by
  cases h <;> first | exact e | (rename_i u; cases u <;> exact e)

/-- What it listed is kept. -/
def Heard {α : Type} : Result α → Prop
  | .halt (.unsupported _) _ => False
  | _ => True

theorem heard_any {α β : Type} {h : Halt} {w : World} (e : Heard (.halt h w : Result β)) : Heard (.halt h w : Result α) := by
  cases h <;> exact e

structure FitsP {α : Type} (P : Program) (Q : α → Prop) (x : Sem α) (w : World) (es : Array Event) : Prop where
  loc : ∃ m, (Rw (x.runT P w es).1).tape = w.tape ∧ (Rw (x.runT P w es).1).drawn = w.drawn + m ∧
    ∀ τ d, Agr τ d w m → x.runT P (On w τ d) es = (rOn τ (d + m) (x.runT P w es).1, (x.runT P w es).2)
  bal : Heard (x.runT P w es).1 → ∀ d, deafBehind d (x.runT P w es).2 = deafBehind d es
  out : ∀ a w', (x.runT P w es).1 = .ok a w' → Q a

def Good {α : Type} (P : Program) (Q : α → Prop) (x : Sem α) : Prop := ∀ w es, Ends (x.runT P w es).1 ∨ FitsP P Q x w es

variable {α β : Type} {P : Program} {Q : α → Prop} {R : β → Prop}

theorem Good.pure {a : α} (h : Q a) : Good P Q (Pure.pure a) := fun w es => .inr ⟨⟨0, rfl, rfl, fun τ d _ => rfl⟩, fun _ _ => rfl, fun b w' e => by cases e; exact h⟩
theorem Good.pure' {a : α} (h : Q a) : Good P Q (Sem.pure a) := Good.pure h
theorem Good.halt (h : Halt) : Good P Q (Sem.halt h : Sem α) := fun w es => .inr ⟨⟨0, rfl, rfl, fun τ d _ => rfl⟩, fun _ _ => rfl, fun b w' e => by cases e⟩
theorem Good.mono {Q' : α → Prop} {x : Sem α} (h : Good P Q x) (hq : ∀ a, Q a → Q' a) : Good P Q' x := fun w es =>
  (h w es).imp id fun f => ⟨f.loc, f.bal, fun a w' e => hq a (f.out a w' e)⟩
theorem Good.any {x : Sem α} (h : Good P Q x) : Good P (fun _ => True) x := h.mono fun _ _ => trivial

theorem Good.bind {x : Sem α} {f : α → Sem β} (hx : Good P Q x) (hf : ∀ a, Q a → Good P R (f a)) : Good P R (x >>= f) := by
  intro w es
  have e : ∀ w, (x >>= f).runT P w es = match x.runT P w es with
      | (.ok a w', es') => (f a).runT P w' es'
      | (.halt h w', es') => (.halt h w', es') := fun w => Sem.runT_bind' P x f w es
  have hxx := hx w es
  rcases hr : x.runT P w es with ⟨r, es'⟩
  cases r with
  | halt h w' =>
    have e1 := e w
    rw [hr] at e1
    dsimp only at e1
    rcases hxx with hE | hF
    · left
      rw [hr] at hE
      rw [e1]
      exact ends_any hE
    · right
      obtain ⟨m, h1, h2, h3⟩ := hF.loc
      rw [hr] at h1 h2 h3
      refine ⟨⟨m, by rw [e1]; exact h1, by rw [e1]; exact h2, fun τ d ha => ?_⟩, fun hh d => ?_, fun b w2 hb => ?_⟩
      · rw [e1, e, h3 τ d ha]
        rfl
      · rw [e1] at hh ⊢
        have := hF.bal (by rw [hr]; exact heard_any hh) d
        rw [hr] at this
        exact this
      · rw [e1] at hb; cases hb
  | ok a w' =>
    have e1 := e w
    rw [hr] at e1
    dsimp only at e1
    rcases hxx with hE | hF
    · rw [hr] at hE; exact hE.elim
    · obtain ⟨m, h1, h2, h3⟩ := hF.loc
      rw [hr] at h1 h2 h3
      have ha := hF.out a w' (by rw [hr])
      rcases hf a ha w' es' with hE | hG
      · left; rw [e1]; exact hE
      · right
        obtain ⟨n, g1, g2, g3⟩ := hG.loc
        refine ⟨⟨m + n, by rw [e1, g1]; exact h1, by rw [e1, g2]; show w'.drawn + n = _; rw [show w'.drawn = w.drawn + m from h2]; omega, fun τ d hag => ?_⟩, fun hh d => ?_, fun b w2 hb => ?_⟩
        · rw [e1, e, h3 τ d hag.fst]
          show (f a).runT P (On w' τ (d + m)) es' = _
          rw [g3 τ (d + m) (Agr.snd hag h1 h2), Nat.add_assoc]
        · rw [e1] at hh ⊢
          rw [hG.bal hh d]
          have := hF.bal (by rw [hr]; trivial) d
          rw [hr] at this
          exact this
        · rw [e1] at hb
          exact hG.out b w2 hb

theorem Good.bind' {x : Sem α} {f : α → Sem β} (hx : Good P (fun _ => True) x) (hf : ∀ a, Good P R (f a)) : Good P R (x >>= f) := Good.bind hx fun a _ => hf a
theorem Good.map {x : Sem α} (f : α → β) (hx : Good P (fun _ => True) x) (hf : ∀ a, R (f a)) : Good P R (f <$> x) := Good.bind' (f := fun a => Pure.pure (f a)) hx fun a => Good.pure (hf a)

theorem deaf_push (es : Array Event) (e : Event) (h : e.loc ≠ .mark .disable) (h' : e.loc ≠ .mark .enable) (d : Nat) : deafBehind d (es.push e) = deafBehind d es := by
  unfold deafBehind
  rw [Array.foldl_push]
  split
  · exact absurd ‹_› h
  · exact absurd ‹_› h'
  · rfl

theorem deaf_app (es fs : Array Event) (h : ∀ e ∈ fs, e.loc ≠ .mark .disable ∧ e.loc ≠ .mark .enable) (d : Nat) : deafBehind d (es ++ fs) = deafBehind d es := by
  obtain ⟨l⟩ := fs
  induction l generalizing es with
  | nil => simp
  | cons e l ih =>
    have e1 : es ++ (e :: l).toArray = es.push e ++ l.toArray := by simp
    rw [e1, ih (es.push e) fun x hx => h x (by simp at hx ⊢; exact .inr hx)]
    exact deaf_push es e (h e (by simp)).1 (h e (by simp)).2 d

theorem Good.of_eq_at {x y : Sem α} {w w' : World} {es es' : Array Event} (e : x.runT P w es = y.runT P w' es') (h1 : w'.tape = w.tape) (h2 : w'.drawn = w.drawn) (h3 : ∀ d, deafBehind d es' = deafBehind d es)
    (hy : Good P Q y) (h4 : ∀ τ d, x.runT P (On w τ d) es = y.runT P (On w' τ d) es') : Ends (x.runT P w es).1 ∨ FitsP P Q x w es := by
  rcases hy w' es' with hE | hF
  · left; rw [e]; exact hE
  · right
    obtain ⟨m, g1, g2, g3⟩ := hF.loc
    refine ⟨⟨m, by rw [e, g1, h1], by rw [e, g2, h2], fun τ d ha => ?_⟩, fun hh d => by rw [e] at hh ⊢; rw [hF.bal hh d, h3], fun a w2 => by rw [e]; exact hF.out a w2⟩
    rw [h4, e, g3 τ d (fun j hj => by rw [h1, h2]; exact ha j hj)]

theorem Good.halt_at {x : Sem α} {w : World} {es : Array Event} {h : Halt} (e : x.runT P w es = (.halt h w, es)) (h4 : ∀ τ d, x.runT P (On w τ d) es = (.halt h (On w τ d), es)) : Ends (x.runT P w es).1 ∨ FitsP P Q x w es :=
  .inr ⟨⟨0, by rw [e]; rfl, by rw [e]; rfl, fun τ d _ => by rw [h4, e]; rfl⟩, fun _ d => by rw [e], fun a w2 hb => by rw [e] at hb; cases hb⟩

theorem deafs_refl (es : Array Event) : ∀ d, deafBehind d es = deafBehind d es := fun _ => rfl

theorem Good.dead {x : Sem α} (h : ∀ w es, Ends (x.runT P w es).1) : Good P Q x := fun w es => .inl (h w es)

theorem cellEvent_push (es : Array Event) (a : Addr) (b c : Bool) (d : Nat) : deafBehind d (es.push ⟨.cell a, b, c⟩) = deafBehind d es := deaf_push es _ (by simp) (by simp) d
theorem cellEvents_app (es : Array Event) (l : List Addr) (b c : Bool) (d : Nat) : deafBehind d (es ++ l.toArray.map (⟨.cell ·, b, c⟩)) = deafBehind d es :=
  deaf_app es _ (fun e he => by obtain ⟨x, _, rfl⟩ := Array.mem_map.1 he; exact ⟨by simp, by simp⟩) d

theorem Good.load (a : Addr) (m : Mode) {k : Value → Sem α} (hk : ∀ v, Good P Q (k v)) : Good P Q (Sem.load m a k) := by
  intro w es
  cases hc : w.cell? a with
  | some v =>
    have e : ∀ τ d, (Sem.load m a k).runT P (On w τ d) es = (k v).runT P (On w τ d) (es.push ⟨.cell a, false, m == .atomic⟩) := fun τ d => by
      have : (On w τ d).cell? a = some v := hc
      simp only [Sem.runT, this]
    exact Good.of_eq_at (e w.tape w.drawn) rfl rfl (cellEvent_push _ _ _ _) (hk v) e
  | none =>
    cases hf : w.farLoad P a (m == .atomic) with
    | ok r =>
      obtain ⟨v, t⟩ := r
      have e : ∀ τ d, (Sem.load m a k).runT P (On w τ d) es = (k v).runT P (On w τ d) (es ++ t.toArray.map (⟨.cell ·, false, m == .atomic⟩)) := fun τ d => by
        have h1 : (On w τ d).cell? a = none := hc
        have h2 : (On w τ d).farLoad P a (m == .atomic) = .ok (v, t) := hf
        simp only [Sem.runT, h1, h2]
      exact Good.of_eq_at (e w.tape w.drawn) rfl rfl (cellEvents_app _ _ _ _) (hk v) e
    | error h =>
      have e : ∀ τ d, (Sem.load m a k).runT P (On w τ d) es = (.halt h (On w τ d), es) := fun τ d => by
        have h1 : (On w τ d).cell? a = none := hc
        have h2 : (On w τ d).farLoad P a (m == .atomic) = .error h := hf
        simp only [Sem.runT, h1, h2]
      exact Good.halt_at (e w.tape w.drawn) e

theorem viewStore_on (P : Program) (w : World) (b : Addr) (u : TypeId) (a : Addr) (v : Value) (m : Bool) (τ : Tp) (d : Nat) :
    (On w τ d).viewStore P b u a v m = (w.viewStore P b u a v m).map fun x => (On x.1 τ d, x.2) := by
  have hs : (On w τ d).seen P b u a m = w.seen P b u a m := rfl
  unfold World.viewStore
  rw [hs]
  simp only [bind, Except.bind, pure, Except.pure]
  split
  · rfl
  · split
    · rfl
    · rename_i x _
      obtain ⟨c, e, frozen, first, like, cells⟩ := x
      dsimp only
      split
      · split
        · rfl
        · split
          · rfl
          · rfl
      · rfl

theorem farStore_on (P : Program) (w : World) (a : Addr) (v : Value) (m : Bool) (τ : Tp) (d : Nat) :
    (On w τ d).farStore P a v m = (w.farStore P a v m).map fun x => (On x.1 τ d, x.2) := by
  unfold World.farStore
  have hb : (On w τ d).heap[a.block]? = w.heap[a.block]? := rfl
  rw [hb]
  split
  · rw [viewStore_on]
    cases w.viewStore P _ _ a v m <;> rfl
  · rfl

theorem viewStore_world {P : Program} {w : World} {b : Addr} {u : TypeId} {a : Addr} {v : Value} {m : Bool} {x : World × List Addr} (h : w.viewStore P b u a v m = .ok x) : x.1.tape = w.tape ∧ x.1.drawn = w.drawn := by
  have h2 := viewStore_on P w b u a v m w.tape w.drawn
  have e : On w w.tape w.drawn = w := rfl
  rw [e, h] at h2
  have h3 : x = (On x.1 w.tape w.drawn, x.2) := by
    have := h2
    simp only [Except.map] at this
    exact Except.ok.inj this
  rw [h3]
  exact ⟨rfl, rfl⟩

theorem farStore_world {P : Program} {w : World} {a : Addr} {v : Value} {m : Bool} {x : World × List Addr} (h : w.farStore P a v m = .ok x) : x.1.tape = w.tape ∧ x.1.drawn = w.drawn := by
  have h2 := farStore_on P w a v m w.tape w.drawn
  have e : On w w.tape w.drawn = w := rfl
  rw [e, h] at h2
  have h3 : x = (On x.1 w.tape w.drawn, x.2) := by
    have := h2
    simp only [Except.map] at this
    exact Except.ok.inj this
  rw [h3]
  exact ⟨rfl, rfl⟩

theorem Good.store (a : Addr) (m : Mode) (v : Value) {k : Sem α} (hk : Good P Q k) : Good P Q (Sem.store m a v k) := by
  intro w es
  have main : (∀ w es, (Sem.store m a v k).runT P w es = match w.cell? a with
      | some _ => if w.frozen? a then (.halt (.unsupported (.unsafePointer "a write to bytes that a string shares")) w, es) else k.runT P (w.setCell a v) (es.push ⟨.cell a, true, m == Mode.atomic⟩)
      | none => match w.farStore P a v (m == Mode.atomic) with
        | .ok (w, touched) => k.runT P w (es ++ touched.toArray.map (⟨.cell ·, true, m == Mode.atomic⟩))
        | .error h => (.halt h w, es)) → Ends ((Sem.store m a v k).runT P w es).1 ∨ FitsP P Q (Sem.store m a v k) w es := by
    intro e
    cases hc : w.cell? a with
    | some c =>
      cases hf : w.frozen? a with
      | true =>
        have e' : ∀ τ d, (Sem.store m a v k).runT P (On w τ d) es = (.halt (.unsupported (.unsafePointer "a write to bytes that a string shares")) (On w τ d), es) := fun τ d => by
          have h1 : (On w τ d).cell? a = some c := hc
          have h2 : (On w τ d).frozen? a = true := hf
          rw [e]; simp only [h1, h2, if_true]
        exact Good.halt_at (e' w.tape w.drawn) e'
      | false =>
        have e' : ∀ τ d, (Sem.store m a v k).runT P (On w τ d) es = k.runT P (On (w.setCell a v) τ d) (es.push ⟨.cell a, true, m == Mode.atomic⟩) := fun τ d => by
          have h1 : (On w τ d).cell? a = some c := hc
          have h2 : (On w τ d).frozen? a = false := hf
          rw [e]; simp only [h1, h2, if_false, Bool.false_eq_true]; rfl
        exact Good.of_eq_at (e' w.tape w.drawn) rfl rfl (cellEvent_push _ _ _ _) hk e'
    | none =>
      cases hf : w.farStore P a v (m == Mode.atomic) with
      | ok x =>
        obtain ⟨w₂, t⟩ := x
        have hw := farStore_world hf
        have e' : ∀ τ d, (Sem.store m a v k).runT P (On w τ d) es = k.runT P (On w₂ τ d) (es ++ t.toArray.map (⟨.cell ·, true, m == Mode.atomic⟩)) := fun τ d => by
          have h1 : (On w τ d).cell? a = none := hc
          rw [e, h1, farStore_on, hf]; rfl
        have e0 := e' w.tape w.drawn
        have e2 : On w₂ w.tape w.drawn = w₂ := by rw [← hw.1, ← hw.2]; rfl
        rw [e2] at e0
        exact Good.of_eq_at e0 hw.1 hw.2 (cellEvents_app _ _ _ _) hk e'
      | error h =>
        have e' : ∀ τ d, (Sem.store m a v k).runT P (On w τ d) es = (.halt h (On w τ d), es) := fun τ d => by
          have h1 : (On w τ d).cell? a = none := hc
          rw [e, h1, farStore_on, hf]; rfl
        exact Good.halt_at (e' w.tape w.drawn) e'
  cases v
  case agg => exact Good.halt_at rfl fun _ _ => rfl
  case tuple => exact Good.halt_at rfl fun _ _ => rfl
  all_goals exact main fun w es => by simp only [Sem.runT]; rfl

theorem Good.new (o : Obj) {k : Nat → Sem α} (hk : ∀ r, Good P Q (k r)) : Good P Q (Sem.new o k) := fun w es =>
  Good.of_eq_at (y := k w.heap.size) (w' := { w with heap := w.heap.push o }) (es' := es) rfl rfl rfl (deafs_refl _) (hk _) fun _ _ => rfl
theorem Good.shape (r : Nat) {k : Option (TypeId × Nat) → Sem α} (hk : ∀ r, Good P Q (k r)) : Good P Q (Sem.shape r k) := fun w es =>
  Good.of_eq_at (y := k (w.shape? r)) (w' := w) (es' := es) rfl rfl rfl (deafs_refl _) (hk _) fun _ _ => rfl
theorem Good.freeze (a : Addr) (n : Nat) {k : Sem α} (hk : Good P Q k) : Good P Q (Sem.freeze a n k) := fun w es =>
  Good.of_eq_at (y := k) (w' := w.freeze a n) (es' := es) rfl (by unfold World.freeze; split <;> rfl) (by unfold World.freeze; split <;> rfl) (deafs_refl _) hk fun τ d => by
    show k.runT P ((On w τ d).freeze a n) es = _
    congr 1
    unfold World.freeze
    split <;> rfl
theorem Good.frozen (a : Addr) {k : Bool → Sem α} (hk : ∀ r, Good P Q (k r)) : Good P Q (Sem.frozen a k) := fun w es =>
  Good.of_eq_at (y := k (w.frozen? a)) (w' := w) (es' := es) rfl rfl rfl (deafs_refl _) (hk _) fun _ _ => rfl
theorem Good.program {k : Program → Sem α} (hk : Good P Q (k P)) : Good P Q (Sem.program k) := fun w es =>
  Good.of_eq_at (y := k P) (w' := w) (es' := es) rfl rfl rfl (deafs_refl _) hk fun _ _ => rfl
theorem Good.mark (m : Mark) (h1 : m ≠ .disable) (h2 : m ≠ .enable) {k : Sem α} (hk : Good P Q k) : Good P Q (Sem.mark m k) := fun w es =>
  Good.of_eq_at (y := k) (w' := w) (es' := es.push ⟨.mark m, false, true⟩) rfl rfl rfl (deaf_push _ _ (fun e => h1 (Loc.mark.inj e)) fun e => h2 (Loc.mark.inj e)) hk fun _ _ => rfl
theorem runT_getObj (r : Nat) (k : Obj → Sem α) (w : World) (es : Array Event) : (Sem.getObj r k).runT P w es = match w.heap[r]? with
    | some (.cells ..) => (.halt (.stuck "getObj: a row of cells") w, es)
    | some o => (k o).runT P w (es.push ⟨.obj r, false, o.isChan⟩)
    | none => (.halt (.stuck "getObj: no such block") w, es) := by simp only [Sem.runT]; rfl
theorem runT_setObj (r : Nat) (o : Obj) (k : Sem α) (w : World) (es : Array Event) : (Sem.setObj r o k).runT P w es = match w.heap[r]? with
    | some (.cells ..) => (.halt (.stuck "setObj: a row of cells") w, es)
    | some _ => k.runT P { w with heap := w.heap.setIfInBounds r o } (es.push ⟨.obj r, true, o.isChan⟩)
    | none => (.halt (.stuck "setObj: no such block") w, es) := by simp only [Sem.runT]; rfl
theorem Good.getObj (r : Nat) {k : Obj → Sem α} (hk : ∀ o, Good P Q (k o)) : Good P Q (Sem.getObj r k) := by
  intro w es
  cases hr : w.heap[r]? with
  | none =>
    have e : ∀ τ d, (Sem.getObj r k).runT P (On w τ d) es = (.halt (.stuck "getObj: no such block") (On w τ d), es) := fun τ d => by
      have : (On w τ d).heap[r]? = none := hr
      simp only [Sem.runT, this]
    exact Good.halt_at (e w.tape w.drawn) e
  | some o =>
    have main : (∀ τ d, (Sem.getObj r k).runT P (On w τ d) es = (k o).runT P (On w τ d) (es.push ⟨.obj r, false, o.isChan⟩)) → Ends ((Sem.getObj r k).runT P w es).1 ∨ FitsP P Q (Sem.getObj r k) w es := fun e =>
      Good.of_eq_at (e w.tape w.drawn) rfl rfl (deaf_push _ _ (by simp) (by simp)) (hk o) e
    cases o
    case cells =>
      have e : ∀ τ d, (Sem.getObj r k).runT P (On w τ d) es = (.halt (.stuck "getObj: a row of cells") (On w τ d), es) := fun τ d => by
        have h1 : (On w τ d).heap[r]? = w.heap[r]? := rfl
        simp only [Sem.runT, h1, hr]
      exact Good.halt_at (e w.tape w.drawn) e
    all_goals
      refine main fun τ d => ?_
      have h1 : (On w τ d).heap[r]? = w.heap[r]? := rfl
      rw [runT_getObj, h1, hr]
theorem Good.setObj (r : Nat) (o : Obj) {k : Sem α} (hk : Good P Q k) : Good P Q (Sem.setObj r o k) := by
  intro w es
  cases hr : w.heap[r]? with
  | none =>
    have e : ∀ τ d, (Sem.setObj r o k).runT P (On w τ d) es = (.halt (.stuck "setObj: no such block") (On w τ d), es) := fun τ d => by
      have : (On w τ d).heap[r]? = none := hr
      simp only [Sem.runT, this]
    exact Good.halt_at (e w.tape w.drawn) e
  | some o' =>
    have main : (∀ τ d, (Sem.setObj r o k).runT P (On w τ d) es = k.runT P (On { w with heap := w.heap.setIfInBounds r o } τ d) (es.push ⟨.obj r, true, o.isChan⟩)) → Ends ((Sem.setObj r o k).runT P w es).1 ∨ FitsP P Q (Sem.setObj r o k) w es := fun e =>
      Good.of_eq_at (w' := { w with heap := w.heap.setIfInBounds r o }) (e w.tape w.drawn) rfl rfl (deaf_push _ _ (by simp) (by simp)) hk e
    cases o'
    case cells =>
      have e : ∀ τ d, (Sem.setObj r o k).runT P (On w τ d) es = (.halt (.stuck "setObj: a row of cells") (On w τ d), es) := fun τ d => by
        have h1 : (On w τ d).heap[r]? = w.heap[r]? := rfl
        simp only [Sem.runT, h1, hr]
      exact Good.halt_at (e w.tape w.drawn) e
    all_goals
      refine main fun τ d => ?_
      have h1 : (On w τ d).heap[r]? = w.heap[r]? := rfl
      rw [runT_setObj, h1, hr]
      rfl
theorem Good.choose (q : Question) {k : Nat → Sem α} (hk : ∀ n, Good P Q (k n)) : Good P Q (Sem.choose q k) := by
  intro w es
  cases hq : q.forced with
  | true =>
    have e : ∀ τ d, (Sem.choose q k).runT P (On w τ d) es = (k 0).runT P (On w τ d) es := fun τ d => by simp only [Sem.runT, hq, if_true]
    exact Good.of_eq_at (e w.tape w.drawn) rfl rfl (deafs_refl _) (hk 0) e
  | false =>
    have e : ∀ w, (Sem.choose q k).runT P w es = (k (q.cut (w.tape w.drawn q))).runT P { w with drawn := w.drawn + 1 } es := fun w => by simp only [Sem.runT, hq, if_false, Bool.false_eq_true]
    rcases hk (q.cut (w.tape w.drawn q)) { w with drawn := w.drawn + 1 } es with hE | hF
    · left; rw [e]; exact hE
    · right
      obtain ⟨m, g1, g2, g3⟩ := hF.loc
      refine ⟨⟨1 + m, by rw [e, g1], by rw [e, g2]; show w.drawn + 1 + m = _; omega, fun τ d ha => ?_⟩, fun hh d => by rw [e] at hh ⊢; rw [hF.bal hh d], fun a w2 => by rw [e]; exact hF.out a w2⟩
      have e0 : τ d = w.tape w.drawn := by have := ha 0 (by omega); simpa using this
      rw [e, e]
      show (k (q.cut (τ d q))).runT P (On { w with drawn := w.drawn + 1 } τ (d + 1)) es = _
      rw [e0, g3 τ (d + 1) (Agr.snd (w' := { w with drawn := w.drawn + 1 }) ha rfl rfl), Nat.add_assoc]
/-- A call of the operating system's behind which an answer 'would wait' ends the run. -/
theorem Good.sys (c : Sys) {k : SysRet → Sem α} (hw : ∀ w es, Ends ((k .wouldBlock).runT P w es).1) (hk : ∀ r, Good P Q (k r)) : Good P Q (Sem.sys c k) := by
  intro w es
  have e : ∀ w, (Sem.sys c k).runT P w es = (k (w.sys c).1).runT P (w.sys c).2 (es.push ⟨.output, true, false⟩) := fun w => rfl
  by_cases hb : (w.sys c).1 = .wouldBlock
  · left; rw [e, hb]; exact hw _ _
  · obtain ⟨m, h1, h2, h3⟩ := sys_loc c w hb
    rcases hk (w.sys c).1 (w.sys c).2 (es.push ⟨.output, true, false⟩) with hE | hF
    · left; rw [e]; exact hE
    · right
      obtain ⟨n, g1, g2, g3⟩ := hF.loc
      refine ⟨⟨m + n, by rw [e, g1, h1], by rw [e, g2, h2]; omega, fun τ d ha => ?_⟩, fun hh d => by rw [e] at hh ⊢; rw [hF.bal hh d]; exact deaf_push _ _ (by simp) (by simp) d, fun a w2 => by rw [e]; exact hF.out a w2⟩
      rw [e, e, h3 τ d ha.fst]
      dsimp only
      rw [g3 τ (d + m) (Agr.snd ha h1 h2), Nat.add_assoc]

/-- A stretch in which its goroutine is deaf, and which is left by its end alone (or the run ends, or nothing that it listed is kept). -/
theorem Good.pair {α β : Type} {P : Program} {R : β → Prop} {x : Sem α} {k : α → Sem β} (hx : Good P (fun _ => True) x)
    (hm : ∀ w es, Ends (x.runT P w es).1 ∨ ¬ Heard (x.runT P w es).1 ∨ ∃ a w', (x.runT P w es).1 = .ok a w') (hk : ∀ a, Good P R (k a)) :
    Good P R (Sem.mark .disable (x >>= fun a => Sem.mark .enable (k a))) := by
  intro w es
  have e : ∀ w, (Sem.mark .disable (x >>= fun a => Sem.mark .enable (k a))).runT P w es = match x.runT P w (es.push ⟨.mark .disable, false, true⟩) with
      | (.ok a w', es') => (k a).runT P w' (es'.push ⟨.mark .enable, false, true⟩)
      | (.halt h w', es') => (.halt h w', es') := fun w => by
    show (x >>= fun a => Sem.mark .enable (k a)).runT P w (es.push ⟨.mark .disable, false, true⟩) = _
    exact Sem.runT_bind' P x _ w _
  have hxx := hx w (es.push ⟨.mark .disable, false, true⟩)
  have hmm := hm w (es.push ⟨.mark .disable, false, true⟩)
  rcases hr : x.runT P w (es.push ⟨.mark .disable, false, true⟩) with ⟨r, es'⟩
  rw [hr] at hmm
  have e1 := e w
  rw [hr] at e1
  cases r with
  | halt h w' =>
    dsimp only at e1
    rcases hmm with hE | hN | ⟨a, w2, h0⟩
    · left; rw [e1]; exact ends_any hE
    · rcases hxx with hE | hF
      · left; rw [e1]; rw [hr] at hE; exact ends_any hE
      · right
        obtain ⟨m, h1, h2, h3⟩ := hF.loc
        rw [hr] at h1 h2 h3
        refine ⟨⟨m, by rw [e1]; exact h1, by rw [e1]; exact h2, fun τ d ha => ?_⟩, fun hh => ?_, fun b w2 hb => ?_⟩
        · rw [e1, e, h3 τ d ha]; rfl
        · rw [e1] at hh
          exact absurd (heard_any hh) hN
        · rw [e1] at hb; cases hb
    · cases h0
  | ok a w' =>
    dsimp only at e1
    rcases hxx with hE | hF
    · rw [hr] at hE; exact hE.elim
    · obtain ⟨m, h1, h2, h3⟩ := hF.loc
      rw [hr] at h1 h2 h3
      rcases hk a w' (es'.push ⟨.mark .enable, false, true⟩) with hE | hG
      · left; rw [e1]; exact hE
      · right
        obtain ⟨n, g1, g2, g3⟩ := hG.loc
        refine ⟨⟨m + n, by rw [e1, g1]; exact h1, by rw [e1, g2]; show w'.drawn + n = _; rw [show w'.drawn = w.drawn + m from h2]; omega, fun τ d hag => ?_⟩, fun hh d => ?_, fun b w2 hb => ?_⟩
        · rw [e1, e, h3 τ d hag.fst]
          show (k a).runT P (On w' τ (d + m)) _ = _
          rw [g3 τ (d + m) (Agr.snd hag h1 h2), Nat.add_assoc]
        · rw [e1] at hh ⊢
          rw [hG.bal hh d]
          have hb := hF.bal (by rw [hr]; trivial) d
          rw [hr] at hb
          have p1 : deafBehind d (es'.push ⟨.mark .enable, false, true⟩) = deafBehind d es' - 1 := by unfold deafBehind; rw [Array.foldl_push]
          have p2 : deafBehind d (es.push ⟨.mark .disable, false, true⟩) = deafBehind d es + 1 := by unfold deafBehind; rw [Array.foldl_push]
          rw [p1, show deafBehind d es' = _ from hb, p2]
          omega
        · rw [e1] at hb
          exact hG.out b w2 hb

end Go.Proofs.YtpenbkfchgeafaaGreatDoor

namespace Go.Proofs.YtpenbkfchgeafaaGreatDoor
open Go

class Gd {α : Type} (P : Program) (x : Sem α) : Prop where
  good : Good P (fun _ => True) x

variable {α β : Type} {P : Program}
theorem Gd.bind {x : Sem α} {f : α → Sem β} (hx : Gd P x) (hf : ∀ a, Gd P (f a)) : Gd P (x >>= f) := ⟨Good.bind' hx.good fun a => (hf a).good⟩
theorem Gd.map {x : Sem α} (f : α → β) (hx : Gd P x) : Gd P (f <$> x) := ⟨Good.map f hx.good fun _ => trivial⟩
instance (a : α) : Gd P (Pure.pure a : Sem α) := ⟨Good.pure trivial⟩
instance (a : α) : Gd P (Sem.pure a) := ⟨Good.pure trivial⟩
instance (h : Halt) : Gd P (Sem.halt h : Sem α) := ⟨Good.halt h⟩
instance (a : Addr) (m : Mode) (k : Value → Sem α) [h : ∀ v, Gd P (k v)] : Gd P (Sem.load m a k) := ⟨Good.load a m fun v => (h v).good⟩
instance (a : Addr) (m : Mode) (v : Value) (k : Sem α) [h : Gd P k] : Gd P (Sem.store m a v k) := ⟨Good.store a m v h.good⟩
instance (o : Obj) (k : Nat → Sem α) [h : ∀ v, Gd P (k v)] : Gd P (Sem.new o k) := ⟨Good.new o fun v => (h v).good⟩
instance (r : Nat) (k : Option (TypeId × Nat) → Sem α) [h : ∀ v, Gd P (k v)] : Gd P (Sem.shape r k) := ⟨Good.shape r fun v => (h v).good⟩
instance (a : Addr) (n : Nat) (k : Sem α) [h : Gd P k] : Gd P (Sem.freeze a n k) := ⟨Good.freeze a n h.good⟩
instance (a : Addr) (k : Bool → Sem α) [h : ∀ v, Gd P (k v)] : Gd P (Sem.frozen a k) := ⟨Good.frozen a fun v => (h v).good⟩
instance (r : Nat) (k : Obj → Sem α) [h : ∀ v, Gd P (k v)] : Gd P (Sem.getObj r k) := ⟨Good.getObj r fun v => (h v).good⟩
instance (r : Nat) (o : Obj) (k : Sem α) [h : Gd P k] : Gd P (Sem.setObj r o k) := ⟨Good.setObj r o h.good⟩
instance (q : Question) (k : Nat → Sem α) [h : ∀ v, Gd P (k v)] : Gd P (Sem.choose q k) := ⟨Good.choose q fun v => (h v).good⟩
instance : Gd P Go.program := ⟨Good.program (Good.pure trivial)⟩
instance gd_noRoom : Gd P (Go.mark .noRoom) := ⟨Good.mark _ (by simp) (by simp) (Good.pure trivial)⟩
instance gd_extern (f : FuncId) : Gd P (Go.mark (.extern f)) := ⟨Good.mark _ (by simp) (by simp) (Good.pure trivial)⟩

theorem Gd.mapM_list {f : α → Sem β} (h : ∀ a, Gd P (f a)) : ∀ l : List α, Gd P (l.mapM f) := by
  intro l
  induction l with
  | nil => rw [List.mapM_nil]; infer_instance
  | cons a l ih =>
    rw [List.mapM_cons]
    exact Gd.bind (h a) fun _ => Gd.bind ih fun _ => inferInstance
instance gd_mapM_list (f : α → Sem β) [h : ∀ a, Gd P (f a)] (l : List α) : Gd P (l.mapM f) := Gd.mapM_list h l
instance gd_mapM (f : α → Sem β) [h : ∀ a, Gd P (f a)] (l : Array α) : Gd P (l.mapM f) := by
  rw [Array.mapM_eq_mapM_toList]
  exact Gd.map _ (Gd.mapM_list h _)
theorem Gd.foldlM_list {f : β → α → Sem β} (h : ∀ b a, Gd P (f b a)) : ∀ (l : List α) (b : β), Gd P (l.foldlM f b) := by
  intro l
  induction l with
  | nil => intro b; show Gd P (pure b); infer_instance
  | cons a l ih => intro b; rw [List.foldlM_cons]; exact Gd.bind (h b a) fun _ => ih _
theorem Gd.mapM_arr {f : α → Sem β} (h : ∀ a, Gd P (f a)) (l : Array α) : Gd P (l.mapM f) := by
  rw [Array.mapM_eq_mapM_toList]
  exact Gd.map _ (Gd.mapM_list h _)
instance gd_foldlM (f : β → α → Sem β) [h : ∀ b a, Gd P (f b a)] (l : List α) (b : β) : Gd P (l.foldlM f b) := Gd.foldlM_list h l b
theorem Gd.forIn_list {f : α → β → Sem (ForInStep β)} (h : ∀ a b, Gd P (f a b)) : ∀ (l : List α) (b : β), Gd P (forIn l b f) := by
  intro l
  induction l with
  | nil => intro b; rw [List.forIn_nil]; infer_instance
  | cons a l ih =>
    intro b
    rw [List.forIn_cons]
    refine Gd.bind (h a b) fun x => ?_
    cases x with
    | done b => infer_instance
    | yield b => exact ih b
theorem Gd.sbind {x : Sem α} {f : α → Sem β} (hx : Gd P x) (hf : ∀ a, Gd P (f a)) : Gd P (Sem.bind x f) := Gd.bind hx hf
theorem Gd.wchoose {q : Question} {k : Nat → Sem α} (h : ∀ v, Gd P (k v)) : Gd P (Sem.choose q k) := ⟨Good.choose q fun v => (h v).good⟩
theorem Gd.wget {r : Nat} {k : Obj → Sem α} (h : ∀ v, Gd P (k v)) : Gd P (Sem.getObj r k) := ⟨Good.getObj r fun v => (h v).good⟩
theorem Gd.wset {r : Nat} {o : Obj} {k : Sem α} (h : Gd P k) : Gd P (Sem.setObj r o k) := ⟨Good.setObj r o h.good⟩
theorem Gd.wnew {o : Obj} {k : Nat → Sem α} (h : ∀ v, Gd P (k v)) : Gd P (Sem.new o k) := ⟨Good.new o fun v => (h v).good⟩
theorem Gd.wshape {r : Nat} {k : Option (TypeId × Nat) → Sem α} (h : ∀ v, Gd P (k v)) : Gd P (Sem.shape r k) := ⟨Good.shape r fun v => (h v).good⟩
theorem Gd.wprogram {k : Program → Sem α} (h : Gd P (k P)) : Gd P (Sem.program k) := ⟨Good.program h.good⟩
theorem Gd.wdec {p : Prop} {f : ¬ p → Sem α} {g : p → Sem α} (hf : ∀ h, Gd P (f h)) (hg : ∀ h, Gd P (g h)) (d : Decidable p) : Gd P (Decidable.rec (motive := fun _ => Sem α) f g d) := by
  cases d
  · exact hf _
  · exact hg _
theorem gd_dead (h : Halt) : Gd P (Sem.halt h : Sem α) := inferInstance
theorem Gd.forIn_arr {f : α → β → Sem (ForInStep β)} (h : ∀ a b, Gd P (f a b)) (l : Array α) (b : β) : Gd P (forIn l b f) := by
  obtain ⟨l⟩ := l
  rw [List.forIn_toArray]
  exact Gd.forIn_list h l b
theorem Gd.forIn_range {f : Nat → β → Sem (ForInStep β)} (h : ∀ a b, Gd P (f a b)) (r : Std.Legacy.Range) (b : β) : Gd P (forIn r b f) := by
  rw [Std.Legacy.Range.forIn_eq_forIn_range']
  exact Gd.forIn_list h _ b

instance gd_load : ∀ x0 x1, Gd P (Go.load x0 x1) := by
  intros
  unfold Go.load
  repeat' first
    | infer_instance
    | refine Gd.bind ?_ fun _ => ?_
    | refine Gd.map _ ?_
    | refine Gd.mapM_arr (fun _ => ?_) _
    | refine Gd.mapM_list (fun _ => ?_) _
    | refine Gd.foldlM_list (fun _ _ => ?_) _ _
    | refine Gd.forIn_arr (fun _ _ => ?_) _ _
    | refine Gd.forIn_range (fun _ _ => ?_) _ _
    | intro _
    | split
    | dsimp only [Function.comp]

instance gd_store : ∀ x0 x1 x2, Gd P (Go.store x0 x1 x2) := by
  intros
  unfold Go.store
  repeat' first
    | infer_instance
    | refine Gd.bind ?_ fun _ => ?_
    | refine Gd.map _ ?_
    | refine Gd.mapM_arr (fun _ => ?_) _
    | refine Gd.mapM_list (fun _ => ?_) _
    | refine Gd.foldlM_list (fun _ _ => ?_) _ _
    | refine Gd.forIn_arr (fun _ _ => ?_) _ _
    | refine Gd.forIn_range (fun _ _ => ?_) _ _
    | intro _
    | split
    | dsimp only [Function.comp]

instance gd_newObj : ∀ x0, Gd P (Go.newObj x0) := by
  intros
  unfold Go.newObj
  repeat' first
    | infer_instance
    | refine Gd.bind ?_ fun _ => ?_
    | refine Gd.map _ ?_
    | refine Gd.mapM_arr (fun _ => ?_) _
    | refine Gd.mapM_list (fun _ => ?_) _
    | refine Gd.foldlM_list (fun _ _ => ?_) _ _
    | refine Gd.forIn_arr (fun _ _ => ?_) _ _
    | refine Gd.forIn_range (fun _ _ => ?_) _ _
    | intro _
    | split
    | dsimp only [Function.comp]

instance gd_shape : ∀ x0, Gd P (Go.shape x0) := by
  intros
  unfold Go.shape
  repeat' first
    | infer_instance
    | refine Gd.bind ?_ fun _ => ?_
    | refine Gd.map _ ?_
    | refine Gd.mapM_arr (fun _ => ?_) _
    | refine Gd.mapM_list (fun _ => ?_) _
    | refine Gd.foldlM_list (fun _ _ => ?_) _ _
    | refine Gd.forIn_arr (fun _ _ => ?_) _ _
    | refine Gd.forIn_range (fun _ _ => ?_) _ _
    | intro _
    | split
    | dsimp only [Function.comp]

instance gd_freeze : ∀ x0 x1, Gd P (Go.freeze x0 x1) := by
  intros
  unfold Go.freeze
  repeat' first
    | infer_instance
    | refine Gd.bind ?_ fun _ => ?_
    | refine Gd.map _ ?_
    | refine Gd.mapM_arr (fun _ => ?_) _
    | refine Gd.mapM_list (fun _ => ?_) _
    | refine Gd.foldlM_list (fun _ _ => ?_) _ _
    | refine Gd.forIn_arr (fun _ _ => ?_) _ _
    | refine Gd.forIn_range (fun _ _ => ?_) _ _
    | intro _
    | split
    | dsimp only [Function.comp]

instance gd_frozen : ∀ x0, Gd P (Go.frozen x0) := by
  intros
  unfold Go.frozen
  repeat' first
    | infer_instance
    | refine Gd.bind ?_ fun _ => ?_
    | refine Gd.map _ ?_
    | refine Gd.mapM_arr (fun _ => ?_) _
    | refine Gd.mapM_list (fun _ => ?_) _
    | refine Gd.foldlM_list (fun _ _ => ?_) _ _
    | refine Gd.forIn_arr (fun _ _ => ?_) _ _
    | refine Gd.forIn_range (fun _ _ => ?_) _ _
    | intro _
    | split
    | dsimp only [Function.comp]

instance gd_getObj : ∀ x0, Gd P (Go.getObj x0) := by
  intros
  unfold Go.getObj
  repeat' first
    | infer_instance
    | refine Gd.bind ?_ fun _ => ?_
    | refine Gd.map _ ?_
    | refine Gd.mapM_arr (fun _ => ?_) _
    | refine Gd.mapM_list (fun _ => ?_) _
    | refine Gd.foldlM_list (fun _ _ => ?_) _ _
    | refine Gd.forIn_arr (fun _ _ => ?_) _ _
    | refine Gd.forIn_range (fun _ _ => ?_) _ _
    | intro _
    | split
    | dsimp only [Function.comp]

instance gd_setObj : ∀ x0 x1, Gd P (Go.setObj x0 x1) := by
  intros
  unfold Go.setObj
  repeat' first
    | infer_instance
    | refine Gd.bind ?_ fun _ => ?_
    | refine Gd.map _ ?_
    | refine Gd.mapM_arr (fun _ => ?_) _
    | refine Gd.mapM_list (fun _ => ?_) _
    | refine Gd.foldlM_list (fun _ _ => ?_) _ _
    | refine Gd.forIn_arr (fun _ _ => ?_) _ _
    | refine Gd.forIn_range (fun _ _ => ?_) _ _
    | intro _
    | split
    | dsimp only [Function.comp]

instance gd_choose : ∀ x0, Gd P (Go.choose x0) := by
  intros
  unfold Go.choose
  repeat' first
    | infer_instance
    | refine Gd.bind ?_ fun _ => ?_
    | refine Gd.map _ ?_
    | refine Gd.mapM_arr (fun _ => ?_) _
    | refine Gd.mapM_list (fun _ => ?_) _
    | refine Gd.foldlM_list (fun _ _ => ?_) _ _
    | refine Gd.forIn_arr (fun _ _ => ?_) _ _
    | refine Gd.forIn_range (fun _ _ => ?_) _ _
    | intro _
    | split
    | dsimp only [Function.comp]

instance gd_askRoom : ∀ x0, Gd P (Go.askRoom x0) := by
  intros
  unfold Go.askRoom
  repeat' first
    | infer_instance
    | refine Gd.bind ?_ fun _ => ?_
    | refine Gd.map _ ?_
    | refine Gd.mapM_arr (fun _ => ?_) _
    | refine Gd.mapM_list (fun _ => ?_) _
    | refine Gd.foldlM_list (fun _ _ => ?_) _ _
    | refine Gd.forIn_arr (fun _ _ => ?_) _ _
    | refine Gd.forIn_range (fun _ _ => ?_) _ _
    | intro _
    | split
    | dsimp only [Function.comp]

instance gd_stuck {α : Type} : ∀ x0, Gd P (Go.stuck x0 : Sem α) := by
  intros
  unfold Go.stuck
  repeat' first
    | infer_instance
    | refine Gd.bind ?_ fun _ => ?_
    | refine Gd.map _ ?_
    | refine Gd.mapM_arr (fun _ => ?_) _
    | refine Gd.mapM_list (fun _ => ?_) _
    | refine Gd.foldlM_list (fun _ _ => ?_) _ _
    | refine Gd.forIn_arr (fun _ _ => ?_) _ _
    | refine Gd.forIn_range (fun _ _ => ?_) _ _
    | intro _
    | split
    | dsimp only [Function.comp]

instance gd_unsupported {α : Type} : ∀ x0, Gd P (Go.unsupported x0 : Sem α) := by
  intros
  unfold Go.unsupported
  repeat' first
    | infer_instance
    | refine Gd.bind ?_ fun _ => ?_
    | refine Gd.map _ ?_
    | refine Gd.mapM_arr (fun _ => ?_) _
    | refine Gd.mapM_list (fun _ => ?_) _
    | refine Gd.foldlM_list (fun _ _ => ?_) _ _
    | refine Gd.forIn_arr (fun _ _ => ?_) _ _
    | refine Gd.forIn_range (fun _ _ => ?_) _ _
    | intro _
    | split
    | dsimp only [Function.comp]

instance gd_goPanic {α : Type} : ∀ x0, Gd P (Go.goPanic x0 : Sem α) := by
  intros
  unfold Go.goPanic
  repeat' first
    | infer_instance
    | refine Gd.bind ?_ fun _ => ?_
    | refine Gd.map _ ?_
    | refine Gd.mapM_arr (fun _ => ?_) _
    | refine Gd.mapM_list (fun _ => ?_) _
    | refine Gd.foldlM_list (fun _ _ => ?_) _ _
    | refine Gd.forIn_arr (fun _ _ => ?_) _ _
    | refine Gd.forIn_range (fun _ _ => ?_) _ _
    | intro _
    | split
    | dsimp only [Function.comp]

instance gd_fatal {α : Type} : ∀ x0, Gd P (Go.fatal x0 : Sem α) := by
  intros
  unfold Go.fatal
  repeat' first
    | infer_instance
    | refine Gd.bind ?_ fun _ => ?_
    | refine Gd.map _ ?_
    | refine Gd.mapM_arr (fun _ => ?_) _
    | refine Gd.mapM_list (fun _ => ?_) _
    | refine Gd.foldlM_list (fun _ _ => ?_) _ _
    | refine Gd.forIn_arr (fun _ _ => ?_) _ _
    | refine Gd.forIn_range (fun _ _ => ?_) _ _
    | intro _
    | split
    | dsimp only [Function.comp]

instance gd_throw {α : Type} : ∀ x0, Gd P (Go.throw x0 : Sem α) := by
  intros
  unfold Go.throw
  repeat' first
    | infer_instance
    | refine Gd.bind ?_ fun _ => ?_
    | refine Gd.map _ ?_
    | refine Gd.mapM_arr (fun _ => ?_) _
    | refine Gd.mapM_list (fun _ => ?_) _
    | refine Gd.foldlM_list (fun _ _ => ?_) _ _
    | refine Gd.forIn_arr (fun _ _ => ?_) _ _
    | refine Gd.forIn_range (fun _ _ => ?_) _ _
    | intro _
    | split
    | dsimp only [Function.comp]

instance gd_blocked {α : Type} : Gd P (Go.blocked  : Sem α) := by
  intros
  unfold Go.blocked
  repeat' first
    | infer_instance
    | refine Gd.bind ?_ fun _ => ?_
    | refine Gd.map _ ?_
    | refine Gd.mapM_arr (fun _ => ?_) _
    | refine Gd.mapM_list (fun _ => ?_) _
    | refine Gd.foldlM_list (fun _ _ => ?_) _ _
    | refine Gd.forIn_arr (fun _ _ => ?_) _ _
    | refine Gd.forIn_range (fun _ _ => ?_) _ _
    | intro _
    | split
    | dsimp only [Function.comp]

instance gd_blockedOutside {α : Type} : Gd P (Go.blockedOutside  : Sem α) := by
  intros
  unfold Go.blockedOutside
  repeat' first
    | infer_instance
    | refine Gd.bind ?_ fun _ => ?_
    | refine Gd.map _ ?_
    | refine Gd.mapM_arr (fun _ => ?_) _
    | refine Gd.mapM_list (fun _ => ?_) _
    | refine Gd.foldlM_list (fun _ _ => ?_) _ _
    | refine Gd.forIn_arr (fun _ _ => ?_) _ _
    | refine Gd.forIn_range (fun _ _ => ?_) _ _
    | intro _
    | split
    | dsimp only [Function.comp]

instance gd_viewAt : ∀ x0, Gd P (Go.viewAt x0) := by
  intros
  unfold Go.viewAt
  repeat' first
    | infer_instance
    | refine Gd.bind ?_ fun _ => ?_
    | refine Gd.map _ ?_
    | refine Gd.mapM_arr (fun _ => ?_) _
    | refine Gd.mapM_list (fun _ => ?_) _
    | refine Gd.foldlM_list (fun _ _ => ?_) _ _
    | refine Gd.forIn_arr (fun _ _ => ?_) _ _
    | refine Gd.forIn_range (fun _ _ => ?_) _ _
    | intro _
    | split
    | dsimp only [Function.comp]

instance gd_numberAt : ∀ x0, Gd P (Go.numberAt x0) := by
  intros
  unfold Go.numberAt
  repeat' first
    | infer_instance
    | refine Gd.bind ?_ fun _ => ?_
    | refine Gd.map _ ?_
    | refine Gd.mapM_arr (fun _ => ?_) _
    | refine Gd.mapM_list (fun _ => ?_) _
    | refine Gd.foldlM_list (fun _ _ => ?_) _ _
    | refine Gd.forIn_arr (fun _ _ => ?_) _ _
    | refine Gd.forIn_range (fun _ _ => ?_) _ _
    | intro _
    | split
    | dsimp only [Function.comp]

instance gd_cellsIn : ∀ x0, Gd P (Go.cellsIn x0) := by
  intros
  unfold Go.cellsIn
  repeat' first
    | infer_instance
    | refine Gd.bind ?_ fun _ => ?_
    | refine Gd.map _ ?_
    | refine Gd.mapM_arr (fun _ => ?_) _
    | refine Gd.mapM_list (fun _ => ?_) _
    | refine Gd.foldlM_list (fun _ _ => ?_) _ _
    | refine Gd.forIn_arr (fun _ _ => ?_) _ _
    | refine Gd.forIn_range (fun _ _ => ?_) _ _
    | intro _
    | split
    | dsimp only [Function.comp]

instance gd_asNumber : ∀ x0 x1, Gd P (Go.asNumber x0 x1) := by
  intros
  unfold Go.asNumber
  repeat' first
    | infer_instance
    | refine Gd.bind ?_ fun _ => ?_
    | refine Gd.map _ ?_
    | refine Gd.mapM_arr (fun _ => ?_) _
    | refine Gd.mapM_list (fun _ => ?_) _
    | refine Gd.foldlM_list (fun _ _ => ?_) _ _
    | refine Gd.forIn_arr (fun _ _ => ?_) _ _
    | refine Gd.forIn_range (fun _ _ => ?_) _ _
    | intro _
    | split
    | dsimp only [Function.comp]

instance gd_behindNumber : ∀ x0, Gd P (Go.behindNumber x0) := by
  intros
  unfold Go.behindNumber
  repeat' first
    | infer_instance
    | refine Gd.bind ?_ fun _ => ?_
    | refine Gd.map _ ?_
    | refine Gd.mapM_arr (fun _ => ?_) _
    | refine Gd.mapM_list (fun _ => ?_) _
    | refine Gd.foldlM_list (fun _ _ => ?_) _ _
    | refine Gd.forIn_arr (fun _ _ => ?_) _ _
    | refine Gd.forIn_range (fun _ _ => ?_) _ _
    | intro _
    | split
    | dsimp only [Function.comp]

instance gd_backFromNumber : ∀ x0, Gd P (Go.backFromNumber x0) := by
  intros
  unfold Go.backFromNumber
  repeat' first
    | infer_instance
    | refine Gd.bind ?_ fun _ => ?_
    | refine Gd.map _ ?_
    | refine Gd.mapM_arr (fun _ => ?_) _
    | refine Gd.mapM_list (fun _ => ?_) _
    | refine Gd.foldlM_list (fun _ _ => ?_) _ _
    | refine Gd.forIn_arr (fun _ _ => ?_) _ _
    | refine Gd.forIn_range (fun _ _ => ?_) _ _
    | intro _
    | split
    | dsimp only [Function.comp]

instance gd_noView : ∀ x0, Gd P (Go.noView x0) := by
  intros
  unfold Go.noView
  repeat' first
    | infer_instance
    | refine Gd.bind ?_ fun _ => ?_
    | refine Gd.map _ ?_
    | refine Gd.mapM_arr (fun _ => ?_) _
    | refine Gd.mapM_list (fun _ => ?_) _
    | refine Gd.foldlM_list (fun _ _ => ?_) _ _
    | refine Gd.forIn_arr (fun _ _ => ?_) _ _
    | refine Gd.forIn_range (fun _ _ => ?_) _ _
    | intro _
    | split
    | dsimp only [Function.comp]

instance gd_markStringish : ∀ x0, Gd P (Go.markStringish x0) := by
  intros
  unfold Go.markStringish
  repeat' first
    | infer_instance
    | refine Gd.bind ?_ fun _ => ?_
    | refine Gd.map _ ?_
    | refine Gd.mapM_arr (fun _ => ?_) _
    | refine Gd.mapM_list (fun _ => ?_) _
    | refine Gd.foldlM_list (fun _ _ => ?_) _ _
    | refine Gd.forIn_arr (fun _ _ => ?_) _ _
    | refine Gd.forIn_range (fun _ _ => ?_) _ _
    | intro _
    | split
    | dsimp only [Function.comp]

instance gd_stringish : ∀ x0, Gd P (Go.stringish x0) := by
  intros
  unfold Go.stringish
  repeat' first
    | infer_instance
    | refine Gd.bind ?_ fun _ => ?_
    | refine Gd.map _ ?_
    | refine Gd.mapM_arr (fun _ => ?_) _
    | refine Gd.mapM_list (fun _ => ?_) _
    | refine Gd.foldlM_list (fun _ _ => ?_) _ _
    | refine Gd.forIn_arr (fun _ _ => ?_) _ _
    | refine Gd.forIn_range (fun _ _ => ?_) _ _
    | intro _
    | split
    | dsimp only [Function.comp]

instance gd_mayBeOne : ∀ x0 x1, Gd P (Go.mayBeOne x0 x1) := by
  intros
  unfold Go.mayBeOne
  repeat' first
    | infer_instance
    | refine Gd.bind ?_ fun _ => ?_
    | refine Gd.map _ ?_
    | refine Gd.mapM_arr (fun _ => ?_) _
    | refine Gd.mapM_list (fun _ => ?_) _
    | refine Gd.foldlM_list (fun _ _ => ?_) _ _
    | refine Gd.forIn_arr (fun _ _ => ?_) _ _
    | refine Gd.forIn_range (fun _ _ => ?_) _ _
    | intro _
    | split
    | dsimp only [Function.comp]

instance gd_sameAddr : ∀ x0 x1, Gd P (Go.sameAddr x0 x1) := by
  intros
  unfold Go.sameAddr
  repeat' first
    | infer_instance
    | refine Gd.bind ?_ fun _ => ?_
    | refine Gd.map _ ?_
    | refine Gd.mapM_arr (fun _ => ?_) _
    | refine Gd.mapM_list (fun _ => ?_) _
    | refine Gd.foldlM_list (fun _ _ => ?_) _ _
    | refine Gd.forIn_arr (fun _ _ => ?_) _ _
    | refine Gd.forIn_range (fun _ _ => ?_) _ _
    | intro _
    | split
    | dsimp only [Function.comp]

instance gd_samePointer : ∀ x0 x1, Gd P (Go.samePointer x0 x1) := by
  intros
  unfold Go.samePointer
  repeat' first
    | infer_instance
    | refine Gd.bind ?_ fun _ => ?_
    | refine Gd.map _ ?_
    | refine Gd.mapM_arr (fun _ => ?_) _
    | refine Gd.mapM_list (fun _ => ?_) _
    | refine Gd.foldlM_list (fun _ _ => ?_) _ _
    | refine Gd.forIn_arr (fun _ _ => ?_) _ _
    | refine Gd.forIn_range (fun _ _ => ?_) _ _
    | intro _
    | split
    | dsimp only [Function.comp]

instance gd_typeInfo : ∀ x0, Gd P (Go.typeInfo x0) := by
  intros
  unfold Go.typeInfo
  repeat' first
    | infer_instance
    | refine Gd.bind ?_ fun _ => ?_
    | refine Gd.map _ ?_
    | refine Gd.mapM_arr (fun _ => ?_) _
    | refine Gd.mapM_list (fun _ => ?_) _
    | refine Gd.foldlM_list (fun _ _ => ?_) _ _
    | refine Gd.forIn_arr (fun _ _ => ?_) _ _
    | refine Gd.forIn_range (fun _ _ => ?_) _ _
    | intro _
    | split
    | dsimp only [Function.comp]

instance gd_underlying : ∀ x0, Gd P (Go.underlying x0) := by
  intros
  unfold Go.underlying
  repeat' first
    | infer_instance
    | refine Gd.bind ?_ fun _ => ?_
    | refine Gd.map _ ?_
    | refine Gd.mapM_arr (fun _ => ?_) _
    | refine Gd.mapM_list (fun _ => ?_) _
    | refine Gd.foldlM_list (fun _ _ => ?_) _ _
    | refine Gd.forIn_arr (fun _ _ => ?_) _ _
    | refine Gd.forIn_range (fun _ _ => ?_) _ _
    | intro _
    | split
    | dsimp only [Function.comp]

instance gd_cutType : ∀ x0, Gd P (Go.cutType x0) := by
  intros
  unfold Go.cutType
  repeat' first
    | infer_instance
    | refine Gd.bind ?_ fun _ => ?_
    | refine Gd.map _ ?_
    | refine Gd.mapM_arr (fun _ => ?_) _
    | refine Gd.mapM_list (fun _ => ?_) _
    | refine Gd.foldlM_list (fun _ _ => ?_) _ _
    | refine Gd.forIn_arr (fun _ _ => ?_) _ _
    | refine Gd.forIn_range (fun _ _ => ?_) _ _
    | intro _
    | split
    | dsimp only [Function.comp]

instance gd_globalAddr : ∀ x0, Gd P (Go.globalAddr x0) := by
  intros
  unfold Go.globalAddr
  repeat' first
    | infer_instance
    | refine Gd.bind ?_ fun _ => ?_
    | refine Gd.map _ ?_
    | refine Gd.mapM_arr (fun _ => ?_) _
    | refine Gd.mapM_list (fun _ => ?_) _
    | refine Gd.foldlM_list (fun _ _ => ?_) _ _
    | refine Gd.forIn_arr (fun _ _ => ?_) _ _
    | refine Gd.forIn_range (fun _ _ => ?_) _ _
    | intro _
    | split
    | dsimp only [Function.comp]

instance gd_typeStr : ∀ x0, Gd P (Go.typeStr x0) := by
  intros
  unfold Go.typeStr
  repeat' first
    | infer_instance
    | refine Gd.bind ?_ fun _ => ?_
    | refine Gd.map _ ?_
    | refine Gd.mapM_arr (fun _ => ?_) _
    | refine Gd.mapM_list (fun _ => ?_) _
    | refine Gd.foldlM_list (fun _ _ => ?_) _ _
    | refine Gd.forIn_arr (fun _ _ => ?_) _ _
    | refine Gd.forIn_range (fun _ _ => ?_) _ _
    | intro _
    | split
    | dsimp only [Function.comp]

instance gd_zeroValue : ∀ x0, Gd P (Go.zeroValue x0) := by
  intros
  unfold Go.zeroValue
  repeat' first
    | infer_instance
    | refine Gd.bind ?_ fun _ => ?_
    | refine Gd.map _ ?_
    | refine Gd.mapM_arr (fun _ => ?_) _
    | refine Gd.mapM_list (fun _ => ?_) _
    | refine Gd.foldlM_list (fun _ _ => ?_) _ _
    | refine Gd.forIn_arr (fun _ _ => ?_) _ _
    | refine Gd.forIn_range (fun _ _ => ?_) _ _
    | intro _
    | split
    | dsimp only [Function.comp]

instance gd_sizeOf : ∀ x0, Gd P (Go.sizeOf x0) := by
  intros
  unfold Go.sizeOf
  repeat' first
    | infer_instance
    | refine Gd.bind ?_ fun _ => ?_
    | refine Gd.map _ ?_
    | refine Gd.mapM_arr (fun _ => ?_) _
    | refine Gd.mapM_list (fun _ => ?_) _
    | refine Gd.foldlM_list (fun _ _ => ?_) _ _
    | refine Gd.forIn_arr (fun _ _ => ?_) _ _
    | refine Gd.forIn_range (fun _ _ => ?_) _ _
    | intro _
    | split
    | dsimp only [Function.comp]

instance gd_isAgg : ∀ x0, Gd P (Go.isAgg x0) := by
  intros
  unfold Go.isAgg
  repeat' first
    | infer_instance
    | refine Gd.bind ?_ fun _ => ?_
    | refine Gd.map _ ?_
    | refine Gd.mapM_arr (fun _ => ?_) _
    | refine Gd.mapM_list (fun _ => ?_) _
    | refine Gd.foldlM_list (fun _ _ => ?_) _ _
    | refine Gd.forIn_arr (fun _ _ => ?_) _ _
    | refine Gd.forIn_range (fun _ _ => ?_) _ _
    | intro _
    | split
    | dsimp only [Function.comp]

instance gd_loadCellsFrom : ∀ x0 x1 x2 x3, Gd P (Go.loadCellsFrom x0 x1 x2 x3) := by
  intro x0 x1 x2 x3
  induction x2 generalizing x0 x1 x3 with
  | zero =>
    unfold Go.loadCellsFrom
    repeat' first
      | infer_instance
      | refine Gd.bind ?_ fun _ => ?_
      | refine Gd.map _ ?_
      | refine Gd.mapM_arr (fun _ => ?_) _
      | refine Gd.mapM_list (fun _ => ?_) _
      | refine Gd.foldlM_list (fun _ _ => ?_) _ _
      | refine Gd.forIn_arr (fun _ _ => ?_) _ _
      | refine Gd.forIn_range (fun _ _ => ?_) _ _
      | intro _
      | split
      | dsimp only [Function.comp]
  | succ n ih =>
    unfold Go.loadCellsFrom
    repeat' first
      | exact ih _ _ _ | infer_instance
      | refine Gd.bind ?_ fun _ => ?_
      | refine Gd.map _ ?_
      | refine Gd.mapM_arr (fun _ => ?_) _
      | refine Gd.mapM_list (fun _ => ?_) _
      | refine Gd.foldlM_list (fun _ _ => ?_) _ _
      | refine Gd.forIn_arr (fun _ _ => ?_) _ _
      | refine Gd.forIn_range (fun _ _ => ?_) _ _
      | intro _
      | split
      | dsimp only [Function.comp]

instance gd_loadCells : ∀ x0 x1, Gd P (Go.loadCells x0 x1) := by
  intros
  unfold Go.loadCells
  repeat' first
    | infer_instance
    | refine Gd.bind ?_ fun _ => ?_
    | refine Gd.map _ ?_
    | refine Gd.mapM_arr (fun _ => ?_) _
    | refine Gd.mapM_list (fun _ => ?_) _
    | refine Gd.foldlM_list (fun _ _ => ?_) _ _
    | refine Gd.forIn_arr (fun _ _ => ?_) _ _
    | refine Gd.forIn_range (fun _ _ => ?_) _ _
    | intro _
    | split
    | dsimp only [Function.comp]

instance gd_storeCells : ∀ x0 x1 x2, Gd P (Go.storeCells x0 x1 x2) := by
  intro x0 x1 x2
  induction x1 generalizing x0 x2 with
  | nil =>
    unfold Go.storeCells
    repeat' first
      | infer_instance
      | refine Gd.bind ?_ fun _ => ?_
      | refine Gd.map _ ?_
      | refine Gd.mapM_arr (fun _ => ?_) _
      | refine Gd.mapM_list (fun _ => ?_) _
      | refine Gd.foldlM_list (fun _ _ => ?_) _ _
      | refine Gd.forIn_arr (fun _ _ => ?_) _ _
      | refine Gd.forIn_range (fun _ _ => ?_) _ _
      | intro _
      | split
      | dsimp only [Function.comp]
  | cons a l ih =>
    unfold Go.storeCells
    repeat' first
      | exact ih _ _ | infer_instance
      | refine Gd.bind ?_ fun _ => ?_
      | refine Gd.map _ ?_
      | refine Gd.mapM_arr (fun _ => ?_) _
      | refine Gd.mapM_list (fun _ => ?_) _
      | refine Gd.foldlM_list (fun _ _ => ?_) _ _
      | refine Gd.forIn_arr (fun _ _ => ?_) _ _
      | refine Gd.forIn_range (fun _ _ => ?_) _ _
      | intro _
      | split
      | dsimp only [Function.comp]

instance gd_loadVar : ∀ x0 x1, Gd P (Go.loadVar x0 x1) := by
  intros
  unfold Go.loadVar
  repeat' first
    | infer_instance
    | refine Gd.bind ?_ fun _ => ?_
    | refine Gd.map _ ?_
    | refine Gd.mapM_arr (fun _ => ?_) _
    | refine Gd.mapM_list (fun _ => ?_) _
    | refine Gd.foldlM_list (fun _ _ => ?_) _ _
    | refine Gd.forIn_arr (fun _ _ => ?_) _ _
    | refine Gd.forIn_range (fun _ _ => ?_) _ _
    | intro _
    | split
    | dsimp only [Function.comp]

instance gd_storeVar : ∀ x0 x1 x2, Gd P (Go.storeVar x0 x1 x2) := by
  intros
  unfold Go.storeVar
  repeat' first
    | infer_instance
    | refine Gd.bind ?_ fun _ => ?_
    | refine Gd.map _ ?_
    | refine Gd.mapM_arr (fun _ => ?_) _
    | refine Gd.mapM_list (fun _ => ?_) _
    | refine Gd.foldlM_list (fun _ _ => ?_) _ _
    | refine Gd.forIn_arr (fun _ _ => ?_) _ _
    | refine Gd.forIn_range (fun _ _ => ?_) _ _
    | intro _
    | split
    | dsimp only [Function.comp]

instance gd_newRow : ∀ x0 x1, Gd P (Go.newRow x0 x1) := by
  intros
  unfold Go.newRow
  repeat' first
    | infer_instance
    | refine Gd.bind ?_ fun _ => ?_
    | refine Gd.map _ ?_
    | refine Gd.mapM_arr (fun _ => ?_) _
    | refine Gd.mapM_list (fun _ => ?_) _
    | refine Gd.foldlM_list (fun _ _ => ?_) _ _
    | refine Gd.forIn_arr (fun _ _ => ?_) _ _
    | refine Gd.forIn_range (fun _ _ => ?_) _ _
    | intro _
    | split
    | dsimp only [Function.comp]

instance gd_newVar : ∀ x0 x1, Gd P (Go.newVar x0 x1) := by
  intros
  unfold Go.newVar
  repeat' first
    | infer_instance
    | refine Gd.bind ?_ fun _ => ?_
    | refine Gd.map _ ?_
    | refine Gd.mapM_arr (fun _ => ?_) _
    | refine Gd.mapM_list (fun _ => ?_) _
    | refine Gd.foldlM_list (fun _ _ => ?_) _ _
    | refine Gd.forIn_arr (fun _ _ => ?_) _ _
    | refine Gd.forIn_range (fun _ _ => ?_) _ _
    | intro _
    | split
    | dsimp only [Function.comp]

instance gd_elemOf : ∀ x0, Gd P (Go.elemOf x0) := by
  intros
  unfold Go.elemOf
  repeat' first
    | infer_instance
    | refine Gd.bind ?_ fun _ => ?_
    | refine Gd.map _ ?_
    | refine Gd.mapM_arr (fun _ => ?_) _
    | refine Gd.mapM_list (fun _ => ?_) _
    | refine Gd.foldlM_list (fun _ _ => ?_) _ _
    | refine Gd.forIn_arr (fun _ _ => ?_) _ _
    | refine Gd.forIn_range (fun _ _ => ?_) _ _
    | intro _
    | split
    | dsimp only [Function.comp]

instance gd_part : ∀ x0 x1 x2, Gd P (Go.part x0 x1 x2) := by
  intros
  unfold Go.part
  repeat' first
    | infer_instance
    | refine Gd.bind ?_ fun _ => ?_
    | refine Gd.map _ ?_
    | refine Gd.mapM_arr (fun _ => ?_) _
    | refine Gd.mapM_list (fun _ => ?_) _
    | refine Gd.foldlM_list (fun _ _ => ?_) _ _
    | refine Gd.forIn_arr (fun _ _ => ?_) _ _
    | refine Gd.forIn_range (fun _ _ => ?_) _ _
    | intro _
    | split
    | dsimp only [Function.comp]

instance gd_panicString {α : Type} : ∀ x0, Gd P (Go.panicString x0 : Sem α) := by
  intros
  unfold Go.panicString
  repeat' first
    | infer_instance
    | refine Gd.bind ?_ fun _ => ?_
    | refine Gd.map _ ?_
    | refine Gd.mapM_arr (fun _ => ?_) _
    | refine Gd.mapM_list (fun _ => ?_) _
    | refine Gd.foldlM_list (fun _ _ => ?_) _ _
    | refine Gd.forIn_arr (fun _ _ => ?_) _ _
    | refine Gd.forIn_range (fun _ _ => ?_) _ _
    | intro _
    | split
    | dsimp only [Function.comp]

instance gd_externState : ∀ x0, Gd P (Go.externState x0) := by
  intros
  unfold Go.externState
  repeat' first
    | infer_instance
    | refine Gd.bind ?_ fun _ => ?_
    | refine Gd.map _ ?_
    | refine Gd.mapM_arr (fun _ => ?_) _
    | refine Gd.mapM_list (fun _ => ?_) _
    | refine Gd.foldlM_list (fun _ _ => ?_) _ _
    | refine Gd.forIn_arr (fun _ _ => ?_) _ _
    | refine Gd.forIn_range (fun _ _ => ?_) _ _
    | intro _
    | split
    | dsimp only [Function.comp]

instance gd_runtimePanic {α : Type} : ∀ x0, Gd P (Go.runtimePanic x0 : Sem α) := by
  intros
  unfold Go.runtimePanic
  repeat' first
    | infer_instance
    | refine Gd.bind ?_ fun _ => ?_
    | refine Gd.map _ ?_
    | refine Gd.mapM_arr (fun _ => ?_) _
    | refine Gd.mapM_list (fun _ => ?_) _
    | refine Gd.foldlM_list (fun _ _ => ?_) _ _
    | refine Gd.forIn_arr (fun _ _ => ?_) _ _
    | refine Gd.forIn_range (fun _ _ => ?_) _ _
    | intro _
    | split
    | dsimp only [Function.comp]

instance gd_boundsPanic {α : Type} : ∀ x0 x1 x2 x3, Gd P (Go.boundsPanic x0 x1 x2 x3 : Sem α) := by
  intros
  unfold Go.boundsPanic
  repeat' first
    | infer_instance
    | refine Gd.bind ?_ fun _ => ?_
    | refine Gd.map _ ?_
    | refine Gd.mapM_arr (fun _ => ?_) _
    | refine Gd.mapM_list (fun _ => ?_) _
    | refine Gd.foldlM_list (fun _ _ => ?_) _ _
    | refine Gd.forIn_arr (fun _ _ => ?_) _ _
    | refine Gd.forIn_range (fun _ _ => ?_) _ _
    | intro _
    | split
    | dsimp only [Function.comp]

instance gd_asIntOf : ∀ x0, Gd P (Go.asIntOf x0) := by
  intros
  unfold Go.asIntOf
  repeat' first
    | infer_instance
    | refine Gd.bind ?_ fun _ => ?_
    | refine Gd.map _ ?_
    | refine Gd.mapM_arr (fun _ => ?_) _
    | refine Gd.mapM_list (fun _ => ?_) _
    | refine Gd.foldlM_list (fun _ _ => ?_) _ _
    | refine Gd.forIn_arr (fun _ _ => ?_) _ _
    | refine Gd.forIn_range (fun _ _ => ?_) _ _
    | intro _
    | split
    | dsimp only [Function.comp]

instance gd_asInt : ∀ x0, Gd P (Go.asInt x0) := by
  intros
  unfold Go.asInt
  repeat' first
    | infer_instance
    | refine Gd.bind ?_ fun _ => ?_
    | refine Gd.map _ ?_
    | refine Gd.mapM_arr (fun _ => ?_) _
    | refine Gd.mapM_list (fun _ => ?_) _
    | refine Gd.foldlM_list (fun _ _ => ?_) _ _
    | refine Gd.forIn_arr (fun _ _ => ?_) _ _
    | refine Gd.forIn_range (fun _ _ => ?_) _ _
    | intro _
    | split
    | dsimp only [Function.comp]

instance gd_asBool : ∀ x0, Gd P (Go.asBool x0) := by
  intros
  unfold Go.asBool
  repeat' first
    | infer_instance
    | refine Gd.bind ?_ fun _ => ?_
    | refine Gd.map _ ?_
    | refine Gd.mapM_arr (fun _ => ?_) _
    | refine Gd.mapM_list (fun _ => ?_) _
    | refine Gd.foldlM_list (fun _ _ => ?_) _ _
    | refine Gd.forIn_arr (fun _ _ => ?_) _ _
    | refine Gd.forIn_range (fun _ _ => ?_) _ _
    | intro _
    | split
    | dsimp only [Function.comp]

instance gd_asString : ∀ x0, Gd P (Go.asString x0) := by
  intros
  unfold Go.asString
  repeat' first
    | infer_instance
    | refine Gd.bind ?_ fun _ => ?_
    | refine Gd.map _ ?_
    | refine Gd.mapM_arr (fun _ => ?_) _
    | refine Gd.mapM_list (fun _ => ?_) _
    | refine Gd.foldlM_list (fun _ _ => ?_) _ _
    | refine Gd.forIn_arr (fun _ _ => ?_) _ _
    | refine Gd.forIn_range (fun _ _ => ?_) _ _
    | intro _
    | split
    | dsimp only [Function.comp]

instance gd_asAgg : ∀ x0, Gd P (Go.asAgg x0) := by
  intros
  unfold Go.asAgg
  repeat' first
    | infer_instance
    | refine Gd.bind ?_ fun _ => ?_
    | refine Gd.map _ ?_
    | refine Gd.mapM_arr (fun _ => ?_) _
    | refine Gd.mapM_list (fun _ => ?_) _
    | refine Gd.foldlM_list (fun _ _ => ?_) _ _
    | refine Gd.forIn_arr (fun _ _ => ?_) _ _
    | refine Gd.forIn_range (fun _ _ => ?_) _ _
    | intro _
    | split
    | dsimp only [Function.comp]

instance gd_asAddr : ∀ x0, Gd P (Go.asAddr x0) := by
  intros
  unfold Go.asAddr
  repeat' first
    | infer_instance
    | refine Gd.bind ?_ fun _ => ?_
    | refine Gd.map _ ?_
    | refine Gd.mapM_arr (fun _ => ?_) _
    | refine Gd.mapM_list (fun _ => ?_) _
    | refine Gd.foldlM_list (fun _ _ => ?_) _ _
    | refine Gd.forIn_arr (fun _ _ => ?_) _ _
    | refine Gd.forIn_range (fun _ _ => ?_) _ _
    | intro _
    | split
    | dsimp only [Function.comp]

instance gd_Deferred_ofValue : ∀ x0 x1, Gd P (Go.Deferred.ofValue x0 x1) := by
  intros
  unfold Go.Deferred.ofValue
  repeat' first
    | infer_instance
    | refine Gd.bind ?_ fun _ => ?_
    | refine Gd.map _ ?_
    | refine Gd.mapM_arr (fun _ => ?_) _
    | refine Gd.mapM_list (fun _ => ?_) _
    | refine Gd.foldlM_list (fun _ _ => ?_) _ _
    | refine Gd.forIn_arr (fun _ _ => ?_) _ _
    | refine Gd.forIn_range (fun _ _ => ?_) _ _
    | intro _
    | split
    | dsimp only [Function.comp]

instance gd_Instr_alloc : ∀ x0 x1 x2, Gd P (Go.Instr.alloc x0 x1 x2) := by
  intros
  unfold Go.Instr.alloc
  repeat' first
    | infer_instance
    | refine Gd.bind ?_ fun _ => ?_
    | refine Gd.map _ ?_
    | refine Gd.mapM_arr (fun _ => ?_) _
    | refine Gd.mapM_list (fun _ => ?_) _
    | refine Gd.foldlM_list (fun _ _ => ?_) _ _
    | refine Gd.forIn_arr (fun _ _ => ?_) _ _
    | refine Gd.forIn_range (fun _ _ => ?_) _ _
    | intro _
    | split
    | dsimp only [Function.comp]

instance gd_Instr_sliceBound : ∀ x0 x1 x2, Gd P (Go.Instr.sliceBound x0 x1 x2) := by
  intros
  unfold Go.Instr.sliceBound
  repeat' first
    | infer_instance
    | refine Gd.bind ?_ fun _ => ?_
    | refine Gd.map _ ?_
    | refine Gd.mapM_arr (fun _ => ?_) _
    | refine Gd.mapM_list (fun _ => ?_) _
    | refine Gd.foldlM_list (fun _ _ => ?_) _ _
    | refine Gd.forIn_arr (fun _ _ => ?_) _ _
    | refine Gd.forIn_range (fun _ _ => ?_) _ _
    | intro _
    | split
    | dsimp only [Function.comp]

instance gd_Instr_sliceBounds : ∀ x0 x1 x2 x3 x4 x5, Gd P (Go.Instr.sliceBounds x0 x1 x2 x3 x4 x5) := by
  intros
  unfold Go.Instr.sliceBounds
  repeat' first
    | infer_instance
    | refine Gd.bind ?_ fun _ => ?_
    | refine Gd.map _ ?_
    | refine Gd.mapM_arr (fun _ => ?_) _
    | refine Gd.mapM_list (fun _ => ?_) _
    | refine Gd.foldlM_list (fun _ _ => ?_) _ _
    | refine Gd.forIn_arr (fun _ _ => ?_) _ _
    | refine Gd.forIn_range (fun _ _ => ?_) _ _
    | intro _
    | split
    | dsimp only [Function.comp]

instance gd_Instr_slice : ∀ x0 x1 x2 x3 x4, Gd P (Go.Instr.slice x0 x1 x2 x3 x4) := by
  intros
  unfold Go.Instr.slice
  repeat' first
    | infer_instance
    | refine Gd.bind ?_ fun _ => ?_
    | refine Gd.map _ ?_
    | refine Gd.mapM_arr (fun _ => ?_) _
    | refine Gd.mapM_list (fun _ => ?_) _
    | refine Gd.foldlM_list (fun _ _ => ?_) _ _
    | refine Gd.forIn_arr (fun _ _ => ?_) _ _
    | refine Gd.forIn_range (fun _ _ => ?_) _ _
    | intro _
    | split
    | dsimp only [Function.comp]

instance gd_byteOf : ∀ x0, Gd P (Go.byteOf x0) := by
  intros
  unfold Go.byteOf
  repeat' first
    | infer_instance
    | refine Gd.bind ?_ fun _ => ?_
    | refine Gd.map _ ?_
    | refine Gd.mapM_arr (fun _ => ?_) _
    | refine Gd.mapM_list (fun _ => ?_) _
    | refine Gd.foldlM_list (fun _ _ => ?_) _ _
    | refine Gd.forIn_arr (fun _ _ => ?_) _ _
    | refine Gd.forIn_range (fun _ _ => ?_) _ _
    | intro _
    | split
    | dsimp only [Function.comp]

instance gd_partAt : ∀ x0 x1 x2, Gd P (Go.partAt x0 x1 x2) := by
  intros
  unfold Go.partAt
  repeat' first
    | infer_instance
    | refine Gd.bind ?_ fun _ => ?_
    | refine Gd.map _ ?_
    | refine Gd.mapM_arr (fun _ => ?_) _
    | refine Gd.mapM_list (fun _ => ?_) _
    | refine Gd.foldlM_list (fun _ _ => ?_) _ _
    | refine Gd.forIn_arr (fun _ _ => ?_) _ _
    | refine Gd.forIn_range (fun _ _ => ?_) _ _
    | intro _
    | split
    | dsimp only [Function.comp]

instance gd_fieldPlace : ∀ x0 x1, Gd P (Go.fieldPlace x0 x1) := by
  intros
  unfold Go.fieldPlace
  repeat' first
    | infer_instance
    | refine Gd.bind ?_ fun _ => ?_
    | refine Gd.map _ ?_
    | refine Gd.mapM_arr (fun _ => ?_) _
    | refine Gd.mapM_list (fun _ => ?_) _
    | refine Gd.foldlM_list (fun _ _ => ?_) _ _
    | refine Gd.forIn_arr (fun _ _ => ?_) _ _
    | refine Gd.forIn_range (fun _ _ => ?_) _ _
    | intro _
    | split
    | dsimp only [Function.comp]

instance gd_variablesAt : ∀ x0 x1 x2, Gd P (Go.variablesAt x0 x1 x2) := by
  intros
  unfold Go.variablesAt
  repeat' first
    | infer_instance
    | refine Gd.bind ?_ fun _ => ?_
    | refine Gd.map _ ?_
    | refine Gd.mapM_arr (fun _ => ?_) _
    | refine Gd.mapM_list (fun _ => ?_) _
    | refine Gd.foldlM_list (fun _ _ => ?_) _ _
    | refine Gd.forIn_arr (fun _ _ => ?_) _ _
    | refine Gd.forIn_range (fun _ _ => ?_) _ _
    | intro _
    | split
    | dsimp only [Function.comp]

instance gd_intVariablesAt : ∀ x0 x1 x2, Gd P (Go.intVariablesAt x0 x1 x2) := by
  intros
  unfold Go.intVariablesAt
  repeat' first
    | infer_instance
    | refine Gd.bind ?_ fun _ => ?_
    | refine Gd.map _ ?_
    | refine Gd.mapM_arr (fun _ => ?_) _
    | refine Gd.mapM_list (fun _ => ?_) _
    | refine Gd.foldlM_list (fun _ _ => ?_) _ _
    | refine Gd.forIn_arr (fun _ _ => ?_) _ _
    | refine Gd.forIn_range (fun _ _ => ?_) _ _
    | intro _
    | split
    | dsimp only [Function.comp]

instance gd_byteVariablesAt : ∀ x0 x1, Gd P (Go.byteVariablesAt x0 x1) := by
  intros
  unfold Go.byteVariablesAt
  repeat' first
    | infer_instance
    | refine Gd.bind ?_ fun _ => ?_
    | refine Gd.map _ ?_
    | refine Gd.mapM_arr (fun _ => ?_) _
    | refine Gd.mapM_list (fun _ => ?_) _
    | refine Gd.foldlM_list (fun _ _ => ?_) _ _
    | refine Gd.forIn_arr (fun _ _ => ?_) _ _
    | refine Gd.forIn_range (fun _ _ => ?_) _ _
    | intro _
    | split
    | dsimp only [Function.comp]

instance gd_loadBytes : ∀ x0 x1 x2, Gd P (Go.loadBytes x0 x1 x2) := by
  intro x0 x1 x2
  induction x2 generalizing x0 x1 with
  | zero =>
    unfold Go.loadBytes
    repeat' first
      | infer_instance
      | refine Gd.bind ?_ fun _ => ?_
      | refine Gd.map _ ?_
      | refine Gd.mapM_arr (fun _ => ?_) _
      | refine Gd.mapM_list (fun _ => ?_) _
      | refine Gd.foldlM_list (fun _ _ => ?_) _ _
      | refine Gd.forIn_arr (fun _ _ => ?_) _ _
      | refine Gd.forIn_range (fun _ _ => ?_) _ _
      | intro _
      | split
      | dsimp only [Function.comp]
  | succ n ih =>
    unfold Go.loadBytes
    repeat' first
      | exact ih _ _ | infer_instance
      | refine Gd.bind ?_ fun _ => ?_
      | refine Gd.map _ ?_
      | refine Gd.mapM_arr (fun _ => ?_) _
      | refine Gd.mapM_list (fun _ => ?_) _
      | refine Gd.foldlM_list (fun _ _ => ?_) _ _
      | refine Gd.forIn_arr (fun _ _ => ?_) _ _
      | refine Gd.forIn_range (fun _ _ => ?_) _ _
      | intro _
      | split
      | dsimp only [Function.comp]

instance gd_storeBytes : ∀ x0 x1, Gd P (Go.storeBytes x0 x1) := by
  intros
  unfold Go.storeBytes
  repeat' first
    | infer_instance
    | refine Gd.bind ?_ fun _ => ?_
    | refine Gd.map _ ?_
    | refine Gd.mapM_arr (fun _ => ?_) _
    | refine Gd.mapM_list (fun _ => ?_) _
    | refine Gd.foldlM_list (fun _ _ => ?_) _ _
    | refine Gd.forIn_arr (fun _ _ => ?_) _ _
    | refine Gd.forIn_range (fun _ _ => ?_) _ _
    | intro _
    | split
    | dsimp only [Function.comp]

instance gd_Instr_sureAddr : ∀ x0, Gd P (Go.Instr.sureAddr x0) := by
  intros
  unfold Go.Instr.sureAddr
  repeat' first
    | infer_instance
    | refine Gd.bind ?_ fun _ => ?_
    | refine Gd.map _ ?_
    | refine Gd.mapM_arr (fun _ => ?_) _
    | refine Gd.mapM_list (fun _ => ?_) _
    | refine Gd.foldlM_list (fun _ _ => ?_) _ _
    | refine Gd.forIn_arr (fun _ _ => ?_) _ _
    | refine Gd.forIn_range (fun _ _ => ?_) _ _
    | intro _
    | split
    | dsimp only [Function.comp]

instance gd_Instr_loadAt : ∀ x0 x1, Gd P (Go.Instr.loadAt x0 x1) := by
  intros
  unfold Go.Instr.loadAt
  repeat' first
    | infer_instance
    | refine Gd.bind ?_ fun _ => ?_
    | refine Gd.map _ ?_
    | refine Gd.mapM_arr (fun _ => ?_) _
    | refine Gd.mapM_list (fun _ => ?_) _
    | refine Gd.foldlM_list (fun _ _ => ?_) _ _
    | refine Gd.forIn_arr (fun _ _ => ?_) _ _
    | refine Gd.forIn_range (fun _ _ => ?_) _ _
    | intro _
    | split
    | dsimp only [Function.comp]

instance gd_Instr_storeAt : ∀ x0 x1 x2, Gd P (Go.Instr.storeAt x0 x1 x2) := by
  intros
  unfold Go.Instr.storeAt
  repeat' first
    | infer_instance
    | refine Gd.bind ?_ fun _ => ?_
    | refine Gd.map _ ?_
    | refine Gd.mapM_arr (fun _ => ?_) _
    | refine Gd.mapM_list (fun _ => ?_) _
    | refine Gd.foldlM_list (fun _ _ => ?_) _ _
    | refine Gd.forIn_arr (fun _ _ => ?_) _ _
    | refine Gd.forIn_range (fun _ _ => ?_) _ _
    | intro _
    | split
    | dsimp only [Function.comp]

instance gd_Instr_fieldAt : ∀ x0 x1 x2, Gd P (Go.Instr.fieldAt x0 x1 x2) := by
  intros
  unfold Go.Instr.fieldAt
  repeat' first
    | infer_instance
    | refine Gd.bind ?_ fun _ => ?_
    | refine Gd.map _ ?_
    | refine Gd.mapM_arr (fun _ => ?_) _
    | refine Gd.mapM_list (fun _ => ?_) _
    | refine Gd.foldlM_list (fun _ _ => ?_) _ _
    | refine Gd.forIn_arr (fun _ _ => ?_) _ _
    | refine Gd.forIn_range (fun _ _ => ?_) _ _
    | intro _
    | split
    | dsimp only [Function.comp]

instance gd_Instr_indexAt : ∀ x0 x1 x2, Gd P (Go.Instr.indexAt x0 x1 x2) := by
  intros
  unfold Go.Instr.indexAt
  repeat' first
    | infer_instance
    | refine Gd.bind ?_ fun _ => ?_
    | refine Gd.map _ ?_
    | refine Gd.mapM_arr (fun _ => ?_) _
    | refine Gd.mapM_list (fun _ => ?_) _
    | refine Gd.foldlM_list (fun _ _ => ?_) _ _
    | refine Gd.forIn_arr (fun _ _ => ?_) _ _
    | refine Gd.forIn_range (fun _ _ => ?_) _ _
    | intro _
    | split
    | dsimp only [Function.comp]

instance gd_Instr_sliceAt : ∀ x0 x1 x2 x3 x4, Gd P (Go.Instr.sliceAt x0 x1 x2 x3 x4) := by
  intros
  unfold Go.Instr.sliceAt
  repeat' first
    | infer_instance
    | refine Gd.bind ?_ fun _ => ?_
    | refine Gd.map _ ?_
    | refine Gd.mapM_arr (fun _ => ?_) _
    | refine Gd.mapM_list (fun _ => ?_) _
    | refine Gd.foldlM_list (fun _ _ => ?_) _ _
    | refine Gd.forIn_arr (fun _ _ => ?_) _ _
    | refine Gd.forIn_range (fun _ _ => ?_) _ _
    | intro _
    | split
    | dsimp only [Function.comp]

instance gd_Instr_arrayAt : ∀ x0 x1, Gd P (Go.Instr.arrayAt x0 x1) := by
  intros
  unfold Go.Instr.arrayAt
  repeat' first
    | infer_instance
    | refine Gd.bind ?_ fun _ => ?_
    | refine Gd.map _ ?_
    | refine Gd.mapM_arr (fun _ => ?_) _
    | refine Gd.mapM_list (fun _ => ?_) _
    | refine Gd.foldlM_list (fun _ _ => ?_) _ _
    | refine Gd.forIn_arr (fun _ _ => ?_) _ _
    | refine Gd.forIn_range (fun _ _ => ?_) _ _
    | intro _
    | split
    | dsimp only [Function.comp]

instance gd_Instr_box : ∀ x0 x1, Gd P (Go.Instr.box x0 x1) := by
  intros
  unfold Go.Instr.box
  repeat' first
    | infer_instance
    | refine Gd.bind ?_ fun _ => ?_
    | refine Gd.map _ ?_
    | refine Gd.mapM_arr (fun _ => ?_) _
    | refine Gd.mapM_list (fun _ => ?_) _
    | refine Gd.foldlM_list (fun _ _ => ?_) _ _
    | refine Gd.forIn_arr (fun _ _ => ?_) _ _
    | refine Gd.forIn_range (fun _ _ => ?_) _ _
    | intro _
    | split
    | dsimp only [Function.comp]

instance gd_Instr_build : ∀ x0 x1, Gd P (Go.Instr.build x0 x1) := by
  intros
  unfold Go.Instr.build
  repeat' first
    | infer_instance
    | refine Gd.bind ?_ fun _ => ?_
    | refine Gd.map _ ?_
    | refine Gd.mapM_arr (fun _ => ?_) _
    | refine Gd.mapM_list (fun _ => ?_) _
    | refine Gd.foldlM_list (fun _ _ => ?_) _ _
    | refine Gd.forIn_arr (fun _ _ => ?_) _ _
    | refine Gd.forIn_range (fun _ _ => ?_) _ _
    | intro _
    | split
    | dsimp only [Function.comp]

instance gd_Instr_buildSlice : ∀ x0 x1 x2, Gd P (Go.Instr.buildSlice x0 x1 x2) := by
  intros
  unfold Go.Instr.buildSlice
  repeat' first
    | infer_instance
    | refine Gd.bind ?_ fun _ => ?_
    | refine Gd.map _ ?_
    | refine Gd.mapM_arr (fun _ => ?_) _
    | refine Gd.mapM_list (fun _ => ?_) _
    | refine Gd.foldlM_list (fun _ _ => ?_) _ _
    | refine Gd.forIn_arr (fun _ _ => ?_) _ _
    | refine Gd.forIn_range (fun _ _ => ?_) _ _
    | intro _
    | split
    | dsimp only [Function.comp]

instance gd_Instr_waits : ∀ x0, Gd P (Go.Instr.waits x0) := by
  intros
  unfold Go.Instr.waits
  repeat' first
    | infer_instance
    | refine Gd.bind ?_ fun _ => ?_
    | refine Gd.map _ ?_
    | refine Gd.mapM_arr (fun _ => ?_) _
    | refine Gd.mapM_list (fun _ => ?_) _
    | refine Gd.foldlM_list (fun _ _ => ?_) _ _
    | refine Gd.forIn_arr (fun _ _ => ?_) _ _
    | refine Gd.forIn_range (fun _ _ => ?_) _ _
    | intro _
    | split
    | dsimp only [Function.comp]

instance gd_Instr_ready : ∀ x0, Gd P (Go.Instr.ready x0) := by
  intros
  unfold Go.Instr.ready
  repeat' first
    | infer_instance
    | refine Gd.bind ?_ fun _ => ?_
    | refine Gd.map _ ?_
    | refine Gd.mapM_arr (fun _ => ?_) _
    | refine Gd.mapM_list (fun _ => ?_) _
    | refine Gd.foldlM_list (fun _ _ => ?_) _ _
    | refine Gd.forIn_arr (fun _ _ => ?_) _ _
    | refine Gd.forIn_range (fun _ _ => ?_) _ _
    | intro _
    | split
    | dsimp only [Function.comp]

instance gd_Instr_makeInterface : ∀ x0 x1, Gd P (Go.Instr.makeInterface x0 x1) := by
  intros
  unfold Go.Instr.makeInterface
  repeat' first
    | infer_instance
    | refine Gd.bind ?_ fun _ => ?_
    | refine Gd.map _ ?_
    | refine Gd.mapM_arr (fun _ => ?_) _
    | refine Gd.mapM_list (fun _ => ?_) _
    | refine Gd.foldlM_list (fun _ _ => ?_) _ _
    | refine Gd.forIn_arr (fun _ _ => ?_) _ _
    | refine Gd.forIn_range (fun _ _ => ?_) _ _
    | intro _
    | split
    | dsimp only [Function.comp]

instance gd_Instr_makeFunc : ∀ x0 x1 x2, Gd P (Go.Instr.makeFunc x0 x1 x2) := by
  intros
  unfold Go.Instr.makeFunc
  repeat' first
    | infer_instance
    | refine Gd.bind ?_ fun _ => ?_
    | refine Gd.map _ ?_
    | refine Gd.mapM_arr (fun _ => ?_) _
    | refine Gd.mapM_list (fun _ => ?_) _
    | refine Gd.foldlM_list (fun _ _ => ?_) _ _
    | refine Gd.forIn_arr (fun _ _ => ?_) _ _
    | refine Gd.forIn_range (fun _ _ => ?_) _ _
    | intro _
    | split
    | dsimp only [Function.comp]

instance gd_Instr_makeMap : ∀ x0 x1, Gd P (Go.Instr.makeMap x0 x1) := by
  intros
  unfold Go.Instr.makeMap
  repeat' first
    | infer_instance
    | refine Gd.bind ?_ fun _ => ?_
    | refine Gd.map _ ?_
    | refine Gd.mapM_arr (fun _ => ?_) _
    | refine Gd.mapM_list (fun _ => ?_) _
    | refine Gd.foldlM_list (fun _ _ => ?_) _ _
    | refine Gd.forIn_arr (fun _ _ => ?_) _ _
    | refine Gd.forIn_range (fun _ _ => ?_) _ _
    | intro _
    | split
    | dsimp only [Function.comp]

instance gd_Instr_makeChan : ∀ x0 x1, Gd P (Go.Instr.makeChan x0 x1) := by
  intros
  unfold Go.Instr.makeChan
  repeat' first
    | infer_instance
    | refine Gd.bind ?_ fun _ => ?_
    | refine Gd.map _ ?_
    | refine Gd.mapM_arr (fun _ => ?_) _
    | refine Gd.mapM_list (fun _ => ?_) _
    | refine Gd.foldlM_list (fun _ _ => ?_) _ _
    | refine Gd.forIn_arr (fun _ _ => ?_) _ _
    | refine Gd.forIn_range (fun _ _ => ?_) _ _
    | intro _
    | split
    | dsimp only [Function.comp]

instance gd_Instr_makeSlice : ∀ x0 x1 x2, Gd P (Go.Instr.makeSlice x0 x1 x2) := by
  intros
  unfold Go.Instr.makeSlice
  repeat' first
    | infer_instance
    | refine Gd.bind ?_ fun _ => ?_
    | refine Gd.map _ ?_
    | refine Gd.mapM_arr (fun _ => ?_) _
    | refine Gd.mapM_list (fun _ => ?_) _
    | refine Gd.foldlM_list (fun _ _ => ?_) _ _
    | refine Gd.forIn_arr (fun _ _ => ?_) _ _
    | refine Gd.forIn_range (fun _ _ => ?_) _ _
    | intro _
    | split
    | dsimp only [Function.comp]

instance gd_Instr_field : ∀ x0 x1 x2, Gd P (Go.Instr.field x0 x1 x2) := by
  intros
  unfold Go.Instr.field
  repeat' first
    | infer_instance
    | refine Gd.bind ?_ fun _ => ?_
    | refine Gd.map _ ?_
    | refine Gd.mapM_arr (fun _ => ?_) _
    | refine Gd.mapM_list (fun _ => ?_) _
    | refine Gd.foldlM_list (fun _ _ => ?_) _ _
    | refine Gd.forIn_arr (fun _ _ => ?_) _ _
    | refine Gd.forIn_range (fun _ _ => ?_) _ _
    | intro _
    | split
    | dsimp only [Function.comp]

instance gd_Instr_index : ∀ x0 x1 x2, Gd P (Go.Instr.index x0 x1 x2) := by
  intros
  unfold Go.Instr.index
  repeat' first
    | infer_instance
    | refine Gd.bind ?_ fun _ => ?_
    | refine Gd.map _ ?_
    | refine Gd.mapM_arr (fun _ => ?_) _
    | refine Gd.mapM_list (fun _ => ?_) _
    | refine Gd.foldlM_list (fun _ _ => ?_) _ _
    | refine Gd.forIn_arr (fun _ _ => ?_) _ _
    | refine Gd.forIn_range (fun _ _ => ?_) _ _
    | intro _
    | split
    | dsimp only [Function.comp]

instance gd_Op_equalIn : ∀ x0 x1 x2 x3, Gd P (Go.Op.equalIn x0 x1 x2 x3) := by
  intro x0 x1 x2 x3
  induction x0 generalizing x1 x2 x3 with
  | zero =>
    unfold Go.Op.equalIn
    repeat' first
      | infer_instance
      | refine Gd.bind ?_ fun _ => ?_
      | refine Gd.map _ ?_
      | refine Gd.mapM_arr (fun _ => ?_) _
      | refine Gd.mapM_list (fun _ => ?_) _
      | refine Gd.foldlM_list (fun _ _ => ?_) _ _
      | refine Gd.forIn_arr (fun _ _ => ?_) _ _
      | refine Gd.forIn_range (fun _ _ => ?_) _ _
      | intro _
      | split
      | dsimp only [Function.comp]
  | succ n ih =>
    unfold Go.Op.equalIn
    repeat' first
      | exact ih _ _ _ | infer_instance
      | refine Gd.bind ?_ fun _ => ?_
      | refine Gd.map _ ?_
      | refine Gd.mapM_arr (fun _ => ?_) _
      | refine Gd.mapM_list (fun _ => ?_) _
      | refine Gd.foldlM_list (fun _ _ => ?_) _ _
      | refine Gd.forIn_arr (fun _ _ => ?_) _ _
      | refine Gd.forIn_range (fun _ _ => ?_) _ _
      | intro _
      | split
      | dsimp only [Function.comp]

instance gd_Op_equal : ∀ x0 x1 x2, Gd P (Go.Op.equal x0 x1 x2) := by
  intros
  unfold Go.Op.equal
  repeat' first
    | infer_instance
    | refine Gd.bind ?_ fun _ => ?_
    | refine Gd.map _ ?_
    | refine Gd.mapM_arr (fun _ => ?_) _
    | refine Gd.mapM_list (fun _ => ?_) _
    | refine Gd.foldlM_list (fun _ _ => ?_) _ _
    | refine Gd.forIn_arr (fun _ _ => ?_) _ _
    | refine Gd.forIn_range (fun _ _ => ?_) _ _
    | intro _
    | split
    | dsimp only [Function.comp]

instance gd_Op_eqGuardIn : ∀ x0 x1 x2 x3, Gd P (Go.Op.eqGuardIn x0 x1 x2 x3) := by
  intro x0 x1 x2 x3
  induction x0 generalizing x1 x2 x3 with
  | zero =>
    unfold Go.Op.eqGuardIn
    repeat' first
      | infer_instance
      | refine Gd.bind ?_ fun _ => ?_
      | refine Gd.map _ ?_
      | refine Gd.mapM_arr (fun _ => ?_) _
      | refine Gd.mapM_list (fun _ => ?_) _
      | refine Gd.foldlM_list (fun _ _ => ?_) _ _
      | refine Gd.forIn_arr (fun _ _ => ?_) _ _
      | refine Gd.forIn_range (fun _ _ => ?_) _ _
      | intro _
      | split
      | dsimp only [Function.comp]
  | succ n ih =>
    unfold Go.Op.eqGuardIn
    repeat' first
      | exact ih _ _ _ | infer_instance
      | refine Gd.bind ?_ fun _ => ?_
      | refine Gd.map _ ?_
      | refine Gd.mapM_arr (fun _ => ?_) _
      | refine Gd.mapM_list (fun _ => ?_) _
      | refine Gd.foldlM_list (fun _ _ => ?_) _ _
      | refine Gd.forIn_arr (fun _ _ => ?_) _ _
      | refine Gd.forIn_range (fun _ _ => ?_) _ _
      | intro _
      | split
      | dsimp only [Function.comp]

instance gd_Instr_checkKey : ∀ x0 x1 x2 x3, Gd P (Go.Instr.checkKey x0 x1 x2 x3) := by
  intro x0 x1 x2 x3
  induction x1 generalizing x0 x2 x3 with
  | zero =>
    unfold Go.Instr.checkKey
    repeat' first
      | infer_instance
      | refine Gd.bind ?_ fun _ => ?_
      | refine Gd.map _ ?_
      | refine Gd.mapM_arr (fun _ => ?_) _
      | refine Gd.mapM_list (fun _ => ?_) _
      | refine Gd.foldlM_list (fun _ _ => ?_) _ _
      | refine Gd.forIn_arr (fun _ _ => ?_) _ _
      | refine Gd.forIn_range (fun _ _ => ?_) _ _
      | intro _
      | split
      | dsimp only [Function.comp]
  | succ n ih =>
    unfold Go.Instr.checkKey
    repeat' first
      | exact ih _ _ _ | infer_instance
      | refine Gd.bind ?_ fun _ => ?_
      | refine Gd.map _ ?_
      | refine Gd.mapM_arr (fun _ => ?_) _
      | refine Gd.mapM_list (fun _ => ?_) _
      | refine Gd.foldlM_list (fun _ _ => ?_) _ _
      | refine Gd.forIn_arr (fun _ _ => ?_) _ _
      | refine Gd.forIn_range (fun _ _ => ?_) _ _
      | intro _
      | split
      | dsimp only [Function.comp]

instance gd_Instr_findAsking : ∀ x0 x1 x2 x3, Gd P (Go.Instr.findAsking x0 x1 x2 x3) := by
  intro x0 x1 x2 x3
  induction x2 generalizing x3 with
  | nil =>
    unfold Go.Instr.findAsking
    repeat' first
      | infer_instance
      | refine Gd.bind ?_ fun _ => ?_
      | refine Gd.map _ ?_
      | refine Gd.mapM_arr (fun _ => ?_) _
      | refine Gd.mapM_list (fun _ => ?_) _
      | refine Gd.foldlM_list (fun _ _ => ?_) _ _
      | refine Gd.forIn_arr (fun _ _ => ?_) _ _
      | refine Gd.forIn_range (fun _ _ => ?_) _ _
      | intro _
      | split
      | dsimp only [Function.comp]
  | cons a l ih =>
    unfold Go.Instr.findAsking
    repeat' first
      | exact ih _ | infer_instance
      | refine Gd.bind ?_ fun _ => ?_
      | refine Gd.map _ ?_
      | refine Gd.mapM_arr (fun _ => ?_) _
      | refine Gd.mapM_list (fun _ => ?_) _
      | refine Gd.foldlM_list (fun _ _ => ?_) _ _
      | refine Gd.forIn_arr (fun _ _ => ?_) _ _
      | refine Gd.forIn_range (fun _ _ => ?_) _ _
      | intro _
      | split
      | dsimp only [Function.comp]

instance gd_Instr_findKey : ∀ x0 x1 x2, Gd P (Go.Instr.findKey x0 x1 x2) := by
  intros
  unfold Go.Instr.findKey
  repeat' first
    | infer_instance
    | refine Gd.bind ?_ fun _ => ?_
    | refine Gd.map _ ?_
    | refine Gd.mapM_arr (fun _ => ?_) _
    | refine Gd.mapM_list (fun _ => ?_) _
    | refine Gd.foldlM_list (fun _ _ => ?_) _ _
    | refine Gd.forIn_arr (fun _ _ => ?_) _ _
    | refine Gd.forIn_range (fun _ _ => ?_) _ _
    | intro _
    | split
    | dsimp only [Function.comp]

instance gd_Instr_lookup : ∀ x0 x1 x2 x3, Gd P (Go.Instr.lookup x0 x1 x2 x3) := by
  intros
  unfold Go.Instr.lookup
  repeat' first
    | infer_instance
    | refine Gd.bind ?_ fun _ => ?_
    | refine Gd.map _ ?_
    | refine Gd.mapM_arr (fun _ => ?_) _
    | refine Gd.mapM_list (fun _ => ?_) _
    | refine Gd.foldlM_list (fun _ _ => ?_) _ _
    | refine Gd.forIn_arr (fun _ _ => ?_) _ _
    | refine Gd.forIn_range (fun _ _ => ?_) _ _
    | intro _
    | split
    | dsimp only [Function.comp]

instance gd_Instr_keyThatStays : ∀ x0 x1, Gd P (Go.Instr.keyThatStays x0 x1) := by
  intros
  unfold Go.Instr.keyThatStays
  repeat' first
    | infer_instance
    | refine Gd.bind ?_ fun _ => ?_
    | refine Gd.map _ ?_
    | refine Gd.mapM_arr (fun _ => ?_) _
    | refine Gd.mapM_list (fun _ => ?_) _
    | refine Gd.foldlM_list (fun _ _ => ?_) _ _
    | refine Gd.forIn_arr (fun _ _ => ?_) _ _
    | refine Gd.forIn_range (fun _ _ => ?_) _ _
    | intro _
    | split
    | dsimp only [Function.comp]

instance gd_Instr_mapUpdate : ∀ x0 x1 x2 x3, Gd P (Go.Instr.mapUpdate x0 x1 x2 x3) := by
  intros
  unfold Go.Instr.mapUpdate
  repeat' first
    | infer_instance
    | refine Gd.bind ?_ fun _ => ?_
    | refine Gd.map _ ?_
    | refine Gd.mapM_arr (fun _ => ?_) _
    | refine Gd.mapM_list (fun _ => ?_) _
    | refine Gd.foldlM_list (fun _ _ => ?_) _ _
    | refine Gd.forIn_arr (fun _ _ => ?_) _ _
    | refine Gd.forIn_range (fun _ _ => ?_) _ _
    | intro _
    | split
    | dsimp only [Function.comp]

instance gd_Instr_mapEntry : ∀ x0 x1 x2, Gd P (Go.Instr.mapEntry x0 x1 x2) := by
  intros
  unfold Go.Instr.mapEntry
  repeat' first
    | infer_instance
    | refine Gd.bind ?_ fun _ => ?_
    | refine Gd.map _ ?_
    | refine Gd.mapM_arr (fun _ => ?_) _
    | refine Gd.mapM_list (fun _ => ?_) _
    | refine Gd.foldlM_list (fun _ _ => ?_) _ _
    | refine Gd.forIn_arr (fun _ _ => ?_) _ _
    | refine Gd.forIn_range (fun _ _ => ?_) _ _
    | intro _
    | split
    | dsimp only [Function.comp]

instance gd_Instr_entryStore : ∀ x0 x1 x2 x3, Gd P (Go.Instr.entryStore x0 x1 x2 x3) := by
  intros
  unfold Go.Instr.entryStore
  repeat' first
    | infer_instance
    | refine Gd.bind ?_ fun _ => ?_
    | refine Gd.map _ ?_
    | refine Gd.mapM_arr (fun _ => ?_) _
    | refine Gd.mapM_list (fun _ => ?_) _
    | refine Gd.foldlM_list (fun _ _ => ?_) _ _
    | refine Gd.forIn_arr (fun _ _ => ?_) _ _
    | refine Gd.forIn_range (fun _ _ => ?_) _ _
    | intro _
    | split
    | dsimp only [Function.comp]

instance gd_Instr_range : ∀ x0 x1, Gd P (Go.Instr.range x0 x1) := by
  intros
  unfold Go.Instr.range
  repeat' first
    | infer_instance
    | refine Gd.bind ?_ fun _ => ?_
    | refine Gd.map _ ?_
    | refine Gd.mapM_arr (fun _ => ?_) _
    | refine Gd.mapM_list (fun _ => ?_) _
    | refine Gd.foldlM_list (fun _ _ => ?_) _ _
    | refine Gd.forIn_arr (fun _ _ => ?_) _ _
    | refine Gd.forIn_range (fun _ _ => ?_) _ _
    | intro _
    | split
    | dsimp only [Function.comp]

instance gd_Instr_next : ∀ x0 x1 x2, Gd P (Go.Instr.next x0 x1 x2) := by
  intros
  unfold Go.Instr.next
  repeat' first
    | infer_instance
    | refine Gd.bind ?_ fun _ => ?_
    | refine Gd.map _ ?_
    | refine Gd.mapM_arr (fun _ => ?_) _
    | refine Gd.mapM_list (fun _ => ?_) _
    | refine Gd.foldlM_list (fun _ _ => ?_) _ _
    | refine Gd.forIn_arr (fun _ _ => ?_) _ _
    | refine Gd.forIn_range (fun _ _ => ?_) _ _
    | intro _
    | split
    | dsimp only [Function.comp]

instance gd_Instr_entry : ∀ x0, Gd P (Go.Instr.entry x0) := by
  intros
  unfold Go.Instr.entry
  repeat' first
    | infer_instance
    | refine Gd.bind ?_ fun _ => ?_
    | refine Gd.map _ ?_
    | refine Gd.mapM_arr (fun _ => ?_) _
    | refine Gd.mapM_list (fun _ => ?_) _
    | refine Gd.foldlM_list (fun _ _ => ?_) _ _
    | refine Gd.forIn_arr (fun _ _ => ?_) _ _
    | refine Gd.forIn_range (fun _ _ => ?_) _ _
    | intro _
    | split
    | dsimp only [Function.comp]

instance gd_Instr_getLoop : ∀ x0, Gd P (Go.Instr.getLoop x0) := by
  intros
  unfold Go.Instr.getLoop
  repeat' first
    | infer_instance
    | refine Gd.bind ?_ fun _ => ?_
    | refine Gd.map _ ?_
    | refine Gd.mapM_arr (fun _ => ?_) _
    | refine Gd.mapM_list (fun _ => ?_) _
    | refine Gd.foldlM_list (fun _ _ => ?_) _ _
    | refine Gd.forIn_arr (fun _ _ => ?_) _ _
    | refine Gd.forIn_range (fun _ _ => ?_) _ _
    | intro _
    | split
    | dsimp only [Function.comp]

instance gd_Instr_enterLoop : ∀ x0 x1 x2 x3 x4 x5, Gd P (Go.Instr.enterLoop x0 x1 x2 x3 x4 x5) := by
  intros
  unfold Go.Instr.enterLoop
  repeat' first
    | infer_instance
    | refine Gd.bind ?_ fun _ => ?_
    | refine Gd.map _ ?_
    | refine Gd.mapM_arr (fun _ => ?_) _
    | refine Gd.mapM_list (fun _ => ?_) _
    | refine Gd.foldlM_list (fun _ _ => ?_) _ _
    | refine Gd.forIn_arr (fun _ _ => ?_) _ _
    | refine Gd.forIn_range (fun _ _ => ?_) _ _
    | intro _
    | split
    | dsimp only [Function.comp]

instance gd_Instr_beginRound : ∀ x0, Gd P (Go.Instr.beginRound x0) := by
  intros
  unfold Go.Instr.beginRound
  repeat' first
    | infer_instance
    | refine Gd.bind ?_ fun _ => ?_
    | refine Gd.map _ ?_
    | refine Gd.mapM_arr (fun _ => ?_) _
    | refine Gd.mapM_list (fun _ => ?_) _
    | refine Gd.foldlM_list (fun _ _ => ?_) _ _
    | refine Gd.forIn_arr (fun _ _ => ?_) _ _
    | refine Gd.forIn_range (fun _ _ => ?_) _ _
    | intro _
    | split
    | dsimp only [Function.comp]

instance gd_Instr_endRound : ∀ x0 x1, Gd P (Go.Instr.endRound x0 x1) := by
  intros
  unfold Go.Instr.endRound
  repeat' first
    | infer_instance
    | refine Gd.bind ?_ fun _ => ?_
    | refine Gd.map _ ?_
    | refine Gd.mapM_arr (fun _ => ?_) _
    | refine Gd.mapM_list (fun _ => ?_) _
    | refine Gd.foldlM_list (fun _ _ => ?_) _ _
    | refine Gd.forIn_arr (fun _ _ => ?_) _ _
    | refine Gd.forIn_range (fun _ _ => ?_) _ _
    | intro _
    | split
    | dsimp only [Function.comp]

instance gd_Instr_endLoop : ∀ x0, Gd P (Go.Instr.endLoop x0) := by
  intros
  unfold Go.Instr.endLoop
  repeat' first
    | infer_instance
    | refine Gd.bind ?_ fun _ => ?_
    | refine Gd.map _ ?_
    | refine Gd.mapM_arr (fun _ => ?_) _
    | refine Gd.mapM_list (fun _ => ?_) _
    | refine Gd.foldlM_list (fun _ _ => ?_) _ _
    | refine Gd.forIn_arr (fun _ _ => ?_) _ _
    | refine Gd.forIn_range (fun _ _ => ?_) _ _
    | intro _
    | split
    | dsimp only [Function.comp]

instance gd_Instr_deferInRound : ∀ x0 x1, Gd P (Go.Instr.deferInRound x0 x1) := by
  intros
  unfold Go.Instr.deferInRound
  repeat' first
    | infer_instance
    | refine Gd.bind ?_ fun _ => ?_
    | refine Gd.map _ ?_
    | refine Gd.mapM_arr (fun _ => ?_) _
    | refine Gd.mapM_list (fun _ => ?_) _
    | refine Gd.foldlM_list (fun _ _ => ?_) _ _
    | refine Gd.forIn_arr (fun _ _ => ?_) _ _
    | refine Gd.forIn_range (fun _ _ => ?_) _ _
    | intro _
    | split
    | dsimp only [Function.comp]

instance gd_Instr_takeDeferred : ∀ x0, Gd P (Go.Instr.takeDeferred x0) := by
  intros
  unfold Go.Instr.takeDeferred
  repeat' first
    | infer_instance
    | refine Gd.bind ?_ fun _ => ?_
    | refine Gd.map _ ?_
    | refine Gd.mapM_arr (fun _ => ?_) _
    | refine Gd.mapM_list (fun _ => ?_) _
    | refine Gd.foldlM_list (fun _ _ => ?_) _ _
    | refine Gd.forIn_arr (fun _ _ => ?_) _ _
    | refine Gd.forIn_range (fun _ _ => ?_) _ _
    | intro _
    | split
    | dsimp only [Function.comp]

set_option maxHeartbeats 1000000 in
instance gd_Builtin_ssaWrapNilChk_ : ∀ x0 x1 x2, Gd P (Go.Builtin.ssaWrapNilChk_ x0 x1 x2) := by
  intro x0 x1 x2
  obtain ⟨l⟩ := x2
  rcases l with _ | ⟨a, _ | ⟨b, _ | ⟨c, _ | ⟨z, l⟩⟩⟩⟩
  case cons.cons.cons.nil =>
    cases b
    case string b0 =>
      cases c
      case string c0 =>
        cases a
        case pointer a0 =>
          all_goals cases a0
          all_goals unfold Go.Builtin.ssaWrapNilChk_
          all_goals conv => arg 2; whnf
          all_goals (repeat' first
              | infer_instance
              | refine Gd.wchoose fun _ => ?_
              | refine Gd.wget fun _ => ?_
              | refine Gd.wset ?_
              | refine Gd.wnew fun _ => ?_
              | refine Gd.wshape fun _ => ?_
              | refine Gd.wprogram ?_
              | refine Gd.wdec (fun _ => ?_) (fun _ => ?_) _
              | refine Gd.bind ?_ fun _ => ?_
              | refine Gd.sbind ?_ fun _ => ?_
              | refine Gd.map _ ?_
              | intro _
              | split
              | dsimp only [Function.comp])
        all_goals exact gd_dead _
      all_goals exact gd_dead _
    all_goals exact gd_dead _
  all_goals exact gd_dead _

instance gd_Place_get : ∀ x0 x1, Gd P (Go.Place.get x0 x1) := by
  intros
  unfold Go.Place.get
  repeat' first
    | infer_instance
    | refine Gd.bind ?_ fun _ => ?_
    | refine Gd.map _ ?_
    | refine Gd.mapM_arr (fun _ => ?_) _
    | refine Gd.mapM_list (fun _ => ?_) _
    | refine Gd.foldlM_list (fun _ _ => ?_) _ _
    | refine Gd.forIn_arr (fun _ _ => ?_) _ _
    | refine Gd.forIn_range (fun _ _ => ?_) _ _
    | intro _
    | split
    | dsimp only [Function.comp]

instance gd_follow : ∀ x0 x1 x2, Gd P (Go.follow x0 x1 x2) := by
  intro x0 x1 x2
  induction x0 generalizing x1 x2 with
  | nil =>
    unfold Go.follow
    repeat' first
      | infer_instance
      | refine Gd.bind ?_ fun _ => ?_
      | refine Gd.map _ ?_
      | refine Gd.mapM_arr (fun _ => ?_) _
      | refine Gd.mapM_list (fun _ => ?_) _
      | refine Gd.foldlM_list (fun _ _ => ?_) _ _
      | refine Gd.forIn_arr (fun _ _ => ?_) _ _
      | refine Gd.forIn_range (fun _ _ => ?_) _ _
      | intro _
      | split
      | dsimp only [Function.comp]
  | cons a l ih =>
    unfold Go.follow
    repeat' first
      | exact ih _ _ | infer_instance
      | refine Gd.bind ?_ fun _ => ?_
      | refine Gd.map _ ?_
      | refine Gd.mapM_arr (fun _ => ?_) _
      | refine Gd.mapM_list (fun _ => ?_) _
      | refine Gd.foldlM_list (fun _ _ => ?_) _ _
      | refine Gd.forIn_arr (fun _ _ => ?_) _ _
      | refine Gd.forIn_range (fun _ _ => ?_) _ _
      | intro _
      | split
      | dsimp only [Function.comp]

instance gd_receiverAt : ∀ x0 x1 x2 x3, Gd P (Go.receiverAt x0 x1 x2 x3) := by
  intros
  unfold Go.receiverAt
  repeat' first
    | infer_instance
    | refine Gd.bind ?_ fun _ => ?_
    | refine Gd.map _ ?_
    | refine Gd.mapM_arr (fun _ => ?_) _
    | refine Gd.mapM_list (fun _ => ?_) _
    | refine Gd.foldlM_list (fun _ _ => ?_) _ _
    | refine Gd.forIn_arr (fun _ _ => ?_) _ _
    | refine Gd.forIn_range (fun _ _ => ?_) _ _
    | intro _
    | split
    | dsimp only [Function.comp]

instance gd_receiverVia : ∀ x0 x1 x2 x3, Gd P (Go.receiverVia x0 x1 x2 x3) := by
  intros
  unfold Go.receiverVia
  repeat' first
    | infer_instance
    | refine Gd.bind ?_ fun _ => ?_
    | refine Gd.map _ ?_
    | refine Gd.mapM_arr (fun _ => ?_) _
    | refine Gd.mapM_list (fun _ => ?_) _
    | refine Gd.foldlM_list (fun _ _ => ?_) _ _
    | refine Gd.forIn_arr (fun _ _ => ?_) _ _
    | refine Gd.forIn_range (fun _ _ => ?_) _ _
    | intro _
    | split
    | dsimp only [Function.comp]

instance gd_method : ∀ x0 x1 x2 x3, Gd P (Go.method x0 x1 x2 x3) := by
  intro x0 x1 x2 x3
  induction x0 generalizing x1 x2 x3 with
  | zero =>
    unfold Go.method
    repeat' first
      | infer_instance
      | refine Gd.bind ?_ fun _ => ?_
      | refine Gd.map _ ?_
      | refine Gd.mapM_arr (fun _ => ?_) _
      | refine Gd.mapM_list (fun _ => ?_) _
      | refine Gd.foldlM_list (fun _ _ => ?_) _ _
      | refine Gd.forIn_arr (fun _ _ => ?_) _ _
      | refine Gd.forIn_range (fun _ _ => ?_) _ _
      | intro _
      | split
      | dsimp only [Function.comp]
  | succ n ih =>
    unfold Go.method
    repeat' first
      | exact ih _ _ _ | infer_instance
      | refine Gd.bind ?_ fun _ => ?_
      | refine Gd.map _ ?_
      | refine Gd.mapM_arr (fun _ => ?_) _
      | refine Gd.mapM_list (fun _ => ?_) _
      | refine Gd.foldlM_list (fun _ _ => ?_) _ _
      | refine Gd.forIn_arr (fun _ _ => ?_) _ _
      | refine Gd.forIn_range (fun _ _ => ?_) _ _
      | intro _
      | split
      | dsimp only [Function.comp]

instance gd_followBlind : ∀ x0 x1 x2, Gd P (Go.followBlind x0 x1 x2) := by
  intro x0 x1 x2
  induction x0 generalizing x1 x2 with
  | nil =>
    unfold Go.followBlind
    repeat' first
      | infer_instance
      | refine Gd.bind ?_ fun _ => ?_
      | refine Gd.map _ ?_
      | refine Gd.mapM_arr (fun _ => ?_) _
      | refine Gd.mapM_list (fun _ => ?_) _
      | refine Gd.foldlM_list (fun _ _ => ?_) _ _
      | refine Gd.forIn_arr (fun _ _ => ?_) _ _
      | refine Gd.forIn_range (fun _ _ => ?_) _ _
      | intro _
      | split
      | dsimp only [Function.comp]
  | cons a l ih =>
    unfold Go.followBlind
    repeat' first
      | exact ih _ _ | infer_instance
      | refine Gd.bind ?_ fun _ => ?_
      | refine Gd.map _ ?_
      | refine Gd.mapM_arr (fun _ => ?_) _
      | refine Gd.mapM_list (fun _ => ?_) _
      | refine Gd.foldlM_list (fun _ _ => ?_) _ _
      | refine Gd.forIn_arr (fun _ _ => ?_) _ _
      | refine Gd.forIn_range (fun _ _ => ?_) _ _
      | intro _
      | split
      | dsimp only [Function.comp]

instance gd_nilAhead : ∀ x0 x1 x2 x3, Gd P (Go.nilAhead x0 x1 x2 x3) := by
  intro x0 x1 x2 x3
  induction x0 generalizing x1 x2 x3 with
  | zero =>
    unfold Go.nilAhead
    repeat' first
      | infer_instance
      | refine Gd.bind ?_ fun _ => ?_
      | refine Gd.map _ ?_
      | refine Gd.mapM_arr (fun _ => ?_) _
      | refine Gd.mapM_list (fun _ => ?_) _
      | refine Gd.foldlM_list (fun _ _ => ?_) _ _
      | refine Gd.forIn_arr (fun _ _ => ?_) _ _
      | refine Gd.forIn_range (fun _ _ => ?_) _ _
      | intro _
      | split
      | dsimp only [Function.comp]
  | succ n ih =>
    unfold Go.nilAhead
    repeat' first
      | exact ih _ _ _ | infer_instance
      | refine Gd.bind ?_ fun _ => ?_
      | refine Gd.map _ ?_
      | refine Gd.mapM_arr (fun _ => ?_) _
      | refine Gd.mapM_list (fun _ => ?_) _
      | refine Gd.foldlM_list (fun _ _ => ?_) _ _
      | refine Gd.forIn_arr (fun _ _ => ?_) _ _
      | refine Gd.forIn_range (fun _ _ => ?_) _ _
      | intro _
      | split
      | dsimp only [Function.comp]

instance gd_Builtin_printOne : ∀ x0 x1, Gd P (Go.Builtin.printOne x0 x1) := by
  intros
  unfold Go.Builtin.printOne
  repeat' first
    | infer_instance
    | refine Gd.bind ?_ fun _ => ?_
    | refine Gd.map _ ?_
    | refine Gd.mapM_arr (fun _ => ?_) _
    | refine Gd.mapM_list (fun _ => ?_) _
    | refine Gd.foldlM_list (fun _ _ => ?_) _ _
    | refine Gd.forIn_arr (fun _ _ => ?_) _ _
    | refine Gd.forIn_range (fun _ _ => ?_) _ _
    | intro _
    | split
    | dsimp only [Function.comp]

instance gd_Instr_typeAssert : ∀ x0 x1 x2 x3, Gd P (Go.Instr.typeAssert x0 x1 x2 x3) := by
  intros
  unfold Go.Instr.typeAssert
  repeat' first
    | infer_instance
    | refine Gd.bind ?_ fun _ => ?_
    | refine Gd.map _ ?_
    | refine Gd.mapM_arr (fun _ => ?_) _
    | refine Gd.mapM_list (fun _ => ?_) _
    | refine Gd.foldlM_list (fun _ _ => ?_) _ _
    | refine Gd.forIn_arr (fun _ _ => ?_) _ _
    | refine Gd.forIn_range (fun _ _ => ?_) _ _
    | intro _
    | split
    | dsimp only [Function.comp]

instance gd_Instr_extract : ∀ x0 x1, Gd P (Go.Instr.extract x0 x1) := by
  intros
  unfold Go.Instr.extract
  repeat' first
    | infer_instance
    | refine Gd.bind ?_ fun _ => ?_
    | refine Gd.map _ ?_
    | refine Gd.mapM_arr (fun _ => ?_) _
    | refine Gd.mapM_list (fun _ => ?_) _
    | refine Gd.foldlM_list (fun _ _ => ?_) _ _
    | refine Gd.forIn_arr (fun _ _ => ?_) _ _
    | refine Gd.forIn_range (fun _ _ => ?_) _ _
    | intro _
    | split
    | dsimp only [Function.comp]

instance gd_Instr_panicnil : Gd P Go.Instr.panicnil := by
  constructor
  unfold Go.Instr.panicnil
  show Good P _ (Sem.bind (Sem.sys Sys.env Sem.pure) _)
  refine Good.sys _ (fun w es => ?_) fun r => ?_
  · exact trivial
  · have : ∀ x : Sem Int, Gd P x → Good P (fun _ => True) x := fun _ h => h.good
    apply this
    show Gd P (Sem.bind (Sem.pure r) _)
    refine Gd.sbind ?_ fun _ => ?_
    repeat' first
        | infer_instance
        | refine Gd.bind ?_ fun _ => ?_
        | refine Gd.map _ ?_
        | refine Gd.mapM_arr (fun _ => ?_) _
        | refine Gd.mapM_list (fun _ => ?_) _
        | refine Gd.foldlM_list (fun _ _ => ?_) _ _
        | refine Gd.forIn_arr (fun _ _ => ?_) _ _
        | refine Gd.forIn_range (fun _ _ => ?_) _ _
        | intro _
        | split
        | dsimp only [Function.comp]

instance gd_Instr_panic : ∀ x0, Gd P (Go.Instr.panic x0) := by
  intros
  unfold Go.Instr.panic
  repeat' first
    | infer_instance
    | refine Gd.bind ?_ fun _ => ?_
    | refine Gd.map _ ?_
    | refine Gd.mapM_arr (fun _ => ?_) _
    | refine Gd.mapM_list (fun _ => ?_) _
    | refine Gd.foldlM_list (fun _ _ => ?_) _ _
    | refine Gd.forIn_arr (fun _ _ => ?_) _ _
    | refine Gd.forIn_range (fun _ _ => ?_) _ _
    | intro _
    | split
    | dsimp only [Function.comp]

instance gd_Op_intArith : ∀ x0 x1 x2 x3, Gd P (Go.Op.intArith x0 x1 x2 x3) := by
  intros
  unfold Go.Op.intArith
  repeat' first
    | infer_instance
    | refine Gd.bind ?_ fun _ => ?_
    | refine Gd.map _ ?_
    | refine Gd.mapM_arr (fun _ => ?_) _
    | refine Gd.mapM_list (fun _ => ?_) _
    | refine Gd.foldlM_list (fun _ _ => ?_) _ _
    | refine Gd.forIn_arr (fun _ _ => ?_) _ _
    | refine Gd.forIn_range (fun _ _ => ?_) _ _
    | intro _
    | split
    | dsimp only [Function.comp]

instance gd_Op_intDiv : ∀ x0 x1 x2 x3, Gd P (Go.Op.intDiv x0 x1 x2 x3) := by
  intros
  unfold Go.Op.intDiv
  repeat' first
    | infer_instance
    | refine Gd.bind ?_ fun _ => ?_
    | refine Gd.map _ ?_
    | refine Gd.mapM_arr (fun _ => ?_) _
    | refine Gd.mapM_list (fun _ => ?_) _
    | refine Gd.foldlM_list (fun _ _ => ?_) _ _
    | refine Gd.forIn_arr (fun _ _ => ?_) _ _
    | refine Gd.forIn_range (fun _ _ => ?_) _ _
    | intro _
    | split
    | dsimp only [Function.comp]

instance gd_Op_intBits : ∀ x0 x1 x2 x3, Gd P (Go.Op.intBits x0 x1 x2 x3) := by
  intros
  unfold Go.Op.intBits
  repeat' first
    | infer_instance
    | refine Gd.bind ?_ fun _ => ?_
    | refine Gd.map _ ?_
    | refine Gd.mapM_arr (fun _ => ?_) _
    | refine Gd.mapM_list (fun _ => ?_) _
    | refine Gd.foldlM_list (fun _ _ => ?_) _ _
    | refine Gd.forIn_arr (fun _ _ => ?_) _ _
    | refine Gd.forIn_range (fun _ _ => ?_) _ _
    | intro _
    | split
    | dsimp only [Function.comp]

instance gd_Op_shift : ∀ x0 x1 x2 x3 x4, Gd P (Go.Op.shift x0 x1 x2 x3 x4) := by
  intros
  unfold Go.Op.shift
  repeat' first
    | infer_instance
    | refine Gd.bind ?_ fun _ => ?_
    | refine Gd.map _ ?_
    | refine Gd.mapM_arr (fun _ => ?_) _
    | refine Gd.mapM_list (fun _ => ?_) _
    | refine Gd.foldlM_list (fun _ _ => ?_) _ _
    | refine Gd.forIn_arr (fun _ _ => ?_) _ _
    | refine Gd.forIn_range (fun _ _ => ?_) _ _
    | intro _
    | split
    | dsimp only [Function.comp]

instance gd_Op_intCmp : ∀ x0 x1 x2, Gd P (Go.Op.intCmp x0 x1 x2) := by
  intros
  unfold Go.Op.intCmp
  repeat' first
    | infer_instance
    | refine Gd.bind ?_ fun _ => ?_
    | refine Gd.map _ ?_
    | refine Gd.mapM_arr (fun _ => ?_) _
    | refine Gd.mapM_list (fun _ => ?_) _
    | refine Gd.foldlM_list (fun _ _ => ?_) _ _
    | refine Gd.forIn_arr (fun _ _ => ?_) _ _
    | refine Gd.forIn_range (fun _ _ => ?_) _ _
    | intro _
    | split
    | dsimp only [Function.comp]

instance gd_Op_floatArith : ∀ x0 x1 x2 x3, Gd P (Go.Op.floatArith x0 x1 x2 x3) := by
  intros
  unfold Go.Op.floatArith
  repeat' first
    | infer_instance
    | refine Gd.bind ?_ fun _ => ?_
    | refine Gd.map _ ?_
    | refine Gd.mapM_arr (fun _ => ?_) _
    | refine Gd.mapM_list (fun _ => ?_) _
    | refine Gd.foldlM_list (fun _ _ => ?_) _ _
    | refine Gd.forIn_arr (fun _ _ => ?_) _ _
    | refine Gd.forIn_range (fun _ _ => ?_) _ _
    | intro _
    | split
    | dsimp only [Function.comp]

instance gd_Op_floatCmp : ∀ x0 x1 x2 x3, Gd P (Go.Op.floatCmp x0 x1 x2 x3) := by
  intros
  unfold Go.Op.floatCmp
  repeat' first
    | infer_instance
    | refine Gd.bind ?_ fun _ => ?_
    | refine Gd.map _ ?_
    | refine Gd.mapM_arr (fun _ => ?_) _
    | refine Gd.mapM_list (fun _ => ?_) _
    | refine Gd.foldlM_list (fun _ _ => ?_) _ _
    | refine Gd.forIn_arr (fun _ _ => ?_) _ _
    | refine Gd.forIn_range (fun _ _ => ?_) _ _
    | intro _
    | split
    | dsimp only [Function.comp]

instance gd_Conv_floatToFloat : ∀ x0 x1 x2, Gd P (Go.Conv.floatToFloat x0 x1 x2) := by
  intros
  unfold Go.Conv.floatToFloat
  repeat' first
    | infer_instance
    | refine Gd.bind ?_ fun _ => ?_
    | refine Gd.map _ ?_
    | refine Gd.mapM_arr (fun _ => ?_) _
    | refine Gd.mapM_list (fun _ => ?_) _
    | refine Gd.foldlM_list (fun _ _ => ?_) _ _
    | refine Gd.forIn_arr (fun _ _ => ?_) _ _
    | refine Gd.forIn_range (fun _ _ => ?_) _ _
    | intro _
    | split
    | dsimp only [Function.comp]

instance gd_Op_Complex_arith : ∀ x0 x1 x2 x3, Gd P (Go.Op.Complex.arith x0 x1 x2 x3) := by
  intros
  unfold Go.Op.Complex.arith
  repeat' first
    | infer_instance
    | refine Gd.bind ?_ fun _ => ?_
    | refine Gd.map _ ?_
    | refine Gd.mapM_arr (fun _ => ?_) _
    | refine Gd.mapM_list (fun _ => ?_) _
    | refine Gd.foldlM_list (fun _ _ => ?_) _ _
    | refine Gd.forIn_arr (fun _ _ => ?_) _ _
    | refine Gd.forIn_range (fun _ _ => ?_) _ _
    | intro _
    | split
    | dsimp only [Function.comp]

instance gd_Op_Complex_cmp : ∀ x0 x1 x2 x3, Gd P (Go.Op.Complex.cmp x0 x1 x2 x3) := by
  intros
  unfold Go.Op.Complex.cmp
  repeat' first
    | infer_instance
    | refine Gd.bind ?_ fun _ => ?_
    | refine Gd.map _ ?_
    | refine Gd.mapM_arr (fun _ => ?_) _
    | refine Gd.mapM_list (fun _ => ?_) _
    | refine Gd.foldlM_list (fun _ _ => ?_) _ _
    | refine Gd.forIn_arr (fun _ _ => ?_) _ _
    | refine Gd.forIn_range (fun _ _ => ?_) _ _
    | intro _
    | split
    | dsimp only [Function.comp]

instance gd_Op_Complex_conv : ∀ x0 x1 x2, Gd P (Go.Op.Complex.conv x0 x1 x2) := by
  intros
  unfold Go.Op.Complex.conv
  repeat' first
    | infer_instance
    | refine Gd.bind ?_ fun _ => ?_
    | refine Gd.map _ ?_
    | refine Gd.mapM_arr (fun _ => ?_) _
    | refine Gd.mapM_list (fun _ => ?_) _
    | refine Gd.foldlM_list (fun _ _ => ?_) _ _
    | refine Gd.forIn_arr (fun _ _ => ?_) _ _
    | refine Gd.forIn_range (fun _ _ => ?_) _ _
    | intro _
    | split
    | dsimp only [Function.comp]

instance gd_Op_Complex_add : ∀ x0 x1, Gd P (Go.Op.Complex.add x0 x1) := by
  intros
  unfold Go.Op.Complex.add
  repeat' first
    | infer_instance
    | refine Gd.bind ?_ fun _ => ?_
    | refine Gd.map _ ?_
    | refine Gd.mapM_arr (fun _ => ?_) _
    | refine Gd.mapM_list (fun _ => ?_) _
    | refine Gd.foldlM_list (fun _ _ => ?_) _ _
    | refine Gd.forIn_arr (fun _ _ => ?_) _ _
    | refine Gd.forIn_range (fun _ _ => ?_) _ _
    | intro _
    | split
    | dsimp only [Function.comp]

instance gd_Op_Complex_sub : ∀ x0 x1, Gd P (Go.Op.Complex.sub x0 x1) := by
  intros
  unfold Go.Op.Complex.sub
  repeat' first
    | infer_instance
    | refine Gd.bind ?_ fun _ => ?_
    | refine Gd.map _ ?_
    | refine Gd.mapM_arr (fun _ => ?_) _
    | refine Gd.mapM_list (fun _ => ?_) _
    | refine Gd.foldlM_list (fun _ _ => ?_) _ _
    | refine Gd.forIn_arr (fun _ _ => ?_) _ _
    | refine Gd.forIn_range (fun _ _ => ?_) _ _
    | intro _
    | split
    | dsimp only [Function.comp]

instance gd_Op_Complex_mul : ∀ x0 x1, Gd P (Go.Op.Complex.mul x0 x1) := by
  intros
  unfold Go.Op.Complex.mul
  repeat' first
    | infer_instance
    | refine Gd.bind ?_ fun _ => ?_
    | refine Gd.map _ ?_
    | refine Gd.mapM_arr (fun _ => ?_) _
    | refine Gd.mapM_list (fun _ => ?_) _
    | refine Gd.foldlM_list (fun _ _ => ?_) _ _
    | refine Gd.forIn_arr (fun _ _ => ?_) _ _
    | refine Gd.forIn_range (fun _ _ => ?_) _ _
    | intro _
    | split
    | dsimp only [Function.comp]

instance gd_Op_Complex_quo : ∀ x0 x1, Gd P (Go.Op.Complex.quo x0 x1) := by
  intros
  unfold Go.Op.Complex.quo
  repeat' first
    | infer_instance
    | refine Gd.bind ?_ fun _ => ?_
    | refine Gd.map _ ?_
    | refine Gd.mapM_arr (fun _ => ?_) _
    | refine Gd.mapM_list (fun _ => ?_) _
    | refine Gd.foldlM_list (fun _ _ => ?_) _ _
    | refine Gd.forIn_arr (fun _ _ => ?_) _ _
    | refine Gd.forIn_range (fun _ _ => ?_) _ _
    | intro _
    | split
    | dsimp only [Function.comp]

instance gd_Op_Complex_product : ∀ x0 x1 x2 x3, Gd P (Go.Op.Complex.product x0 x1 x2 x3) := by
  intros
  unfold Go.Op.Complex.product
  repeat' first
    | infer_instance
    | refine Gd.bind ?_ fun _ => ?_
    | refine Gd.map _ ?_
    | refine Gd.mapM_arr (fun _ => ?_) _
    | refine Gd.mapM_list (fun _ => ?_) _
    | refine Gd.foldlM_list (fun _ _ => ?_) _ _
    | refine Gd.forIn_arr (fun _ _ => ?_) _ _
    | refine Gd.forIn_range (fun _ _ => ?_) _ _
    | intro _
    | split
    | dsimp only [Function.comp]

instance gd_Op_Complex_corrected : ∀ x0 x1 x2 x3 x4, Gd P (Go.Op.Complex.corrected x0 x1 x2 x3 x4) := by
  intros
  unfold Go.Op.Complex.corrected
  repeat' first
    | infer_instance
    | refine Gd.bind ?_ fun _ => ?_
    | refine Gd.map _ ?_
    | refine Gd.mapM_arr (fun _ => ?_) _
    | refine Gd.mapM_list (fun _ => ?_) _
    | refine Gd.foldlM_list (fun _ _ => ?_) _ _
    | refine Gd.forIn_arr (fun _ _ => ?_) _ _
    | refine Gd.forIn_range (fun _ _ => ?_) _ _
    | intro _
    | split
    | dsimp only [Function.comp]

instance gd_Op_Complex_quotient : ∀ x0 x1 x2 x3, Gd P (Go.Op.Complex.quotient x0 x1 x2 x3) := by
  intros
  unfold Go.Op.Complex.quotient
  repeat' first
    | infer_instance
    | refine Gd.bind ?_ fun _ => ?_
    | refine Gd.map _ ?_
    | refine Gd.mapM_arr (fun _ => ?_) _
    | refine Gd.mapM_list (fun _ => ?_) _
    | refine Gd.foldlM_list (fun _ _ => ?_) _ _
    | refine Gd.forIn_arr (fun _ _ => ?_) _ _
    | refine Gd.forIn_range (fun _ _ => ?_) _ _
    | intro _
    | split
    | dsimp only [Function.comp]

instance gd_Op_complexOp : ∀ x0 x1 x2 x3 x4 x5, Gd P (Go.Op.complexOp x0 x1 x2 x3 x4 x5) := by
  intros
  unfold Go.Op.complexOp
  repeat' first
    | infer_instance
    | refine Gd.bind ?_ fun _ => ?_
    | refine Gd.map _ ?_
    | refine Gd.mapM_arr (fun _ => ?_) _
    | refine Gd.mapM_list (fun _ => ?_) _
    | refine Gd.foldlM_list (fun _ _ => ?_) _ _
    | refine Gd.forIn_arr (fun _ _ => ?_) _ _
    | refine Gd.forIn_range (fun _ _ => ?_) _ _
    | intro _
    | split
    | dsimp only [Function.comp]

instance gd_Op_stringOp : ∀ x0 x1 x2, Gd P (Go.Op.stringOp x0 x1 x2) := by
  intros
  unfold Go.Op.stringOp
  repeat' first
    | infer_instance
    | refine Gd.bind ?_ fun _ => ?_
    | refine Gd.map _ ?_
    | refine Gd.mapM_arr (fun _ => ?_) _
    | refine Gd.mapM_list (fun _ => ?_) _
    | refine Gd.foldlM_list (fun _ _ => ?_) _ _
    | refine Gd.forIn_arr (fun _ _ => ?_) _ _
    | refine Gd.forIn_range (fun _ _ => ?_) _ _
    | intro _
    | split
    | dsimp only [Function.comp]

instance gd_Op_twoPlaces : ∀ x0 x1, Gd P (Go.Op.twoPlaces x0 x1) := by
  intros
  unfold Go.Op.twoPlaces
  repeat' first
    | infer_instance
    | refine Gd.bind ?_ fun _ => ?_
    | refine Gd.map _ ?_
    | refine Gd.mapM_arr (fun _ => ?_) _
    | refine Gd.mapM_list (fun _ => ?_) _
    | refine Gd.foldlM_list (fun _ _ => ?_) _ _
    | refine Gd.forIn_arr (fun _ _ => ?_) _ _
    | refine Gd.forIn_range (fun _ _ => ?_) _ _
    | intro _
    | split
    | dsimp only [Function.comp]

instance gd_Op_addrSub : ∀ x0 x1 x2, Gd P (Go.Op.addrSub x0 x1 x2) := by
  intros
  unfold Go.Op.addrSub
  repeat' first
    | infer_instance
    | refine Gd.bind ?_ fun _ => ?_
    | refine Gd.map _ ?_
    | refine Gd.mapM_arr (fun _ => ?_) _
    | refine Gd.mapM_list (fun _ => ?_) _
    | refine Gd.foldlM_list (fun _ _ => ?_) _ _
    | refine Gd.forIn_arr (fun _ _ => ?_) _ _
    | refine Gd.forIn_range (fun _ _ => ?_) _ _
    | intro _
    | split
    | dsimp only [Function.comp]

instance gd_Op_addrCmp : ∀ x0 x1 x2, Gd P (Go.Op.addrCmp x0 x1 x2) := by
  intros
  unfold Go.Op.addrCmp
  repeat' first
    | infer_instance
    | refine Gd.bind ?_ fun _ => ?_
    | refine Gd.map _ ?_
    | refine Gd.mapM_arr (fun _ => ?_) _
    | refine Gd.mapM_list (fun _ => ?_) _
    | refine Gd.foldlM_list (fun _ _ => ?_) _ _
    | refine Gd.forIn_arr (fun _ _ => ?_) _ _
    | refine Gd.forIn_range (fun _ _ => ?_) _ _
    | intro _
    | split
    | dsimp only [Function.comp]

instance gd_Op_addrMod : ∀ x0 x1 x2, Gd P (Go.Op.addrMod x0 x1 x2) := by
  intros
  unfold Go.Op.addrMod
  repeat' first
    | infer_instance
    | refine Gd.bind ?_ fun _ => ?_
    | refine Gd.map _ ?_
    | refine Gd.mapM_arr (fun _ => ?_) _
    | refine Gd.mapM_list (fun _ => ?_) _
    | refine Gd.foldlM_list (fun _ _ => ?_) _ _
    | refine Gd.forIn_arr (fun _ _ => ?_) _ _
    | refine Gd.forIn_range (fun _ _ => ?_) _ _
    | intro _
    | split
    | dsimp only [Function.comp]

instance gd_Op_unary : ∀ x0 x1, Gd P (Go.Op.unary x0 x1) := by
  intros
  unfold Go.Op.unary
  repeat' first
    | infer_instance
    | refine Gd.bind ?_ fun _ => ?_
    | refine Gd.map _ ?_
    | refine Gd.mapM_arr (fun _ => ?_) _
    | refine Gd.mapM_list (fun _ => ?_) _
    | refine Gd.foldlM_list (fun _ _ => ?_) _ _
    | refine Gd.forIn_arr (fun _ _ => ?_) _ _
    | refine Gd.forIn_range (fun _ _ => ?_) _ _
    | intro _
    | split
    | dsimp only [Function.comp]

instance gd_Conv_intToInt : ∀ x0 x1, Gd P (Go.Conv.intToInt x0 x1) := by
  intros
  unfold Go.Conv.intToInt
  repeat' first
    | infer_instance
    | refine Gd.bind ?_ fun _ => ?_
    | refine Gd.map _ ?_
    | refine Gd.mapM_arr (fun _ => ?_) _
    | refine Gd.mapM_list (fun _ => ?_) _
    | refine Gd.foldlM_list (fun _ _ => ?_) _ _
    | refine Gd.forIn_arr (fun _ _ => ?_) _ _
    | refine Gd.forIn_range (fun _ _ => ?_) _ _
    | intro _
    | split
    | dsimp only [Function.comp]

instance gd_Conv_intToFloat : ∀ x0 x1, Gd P (Go.Conv.intToFloat x0 x1) := by
  intros
  unfold Go.Conv.intToFloat
  repeat' first
    | infer_instance
    | refine Gd.bind ?_ fun _ => ?_
    | refine Gd.map _ ?_
    | refine Gd.mapM_arr (fun _ => ?_) _
    | refine Gd.mapM_list (fun _ => ?_) _
    | refine Gd.foldlM_list (fun _ _ => ?_) _ _
    | refine Gd.forIn_arr (fun _ _ => ?_) _ _
    | refine Gd.forIn_range (fun _ _ => ?_) _ _
    | intro _
    | split
    | dsimp only [Function.comp]

instance gd_Conv_floatToInt : ∀ x0 x1 x2, Gd P (Go.Conv.floatToInt x0 x1 x2) := by
  intros
  unfold Go.Conv.floatToInt
  repeat' first
    | infer_instance
    | refine Gd.bind ?_ fun _ => ?_
    | refine Gd.map _ ?_
    | refine Gd.mapM_arr (fun _ => ?_) _
    | refine Gd.mapM_list (fun _ => ?_) _
    | refine Gd.foldlM_list (fun _ _ => ?_) _ _
    | refine Gd.forIn_arr (fun _ _ => ?_) _ _
    | refine Gd.forIn_range (fun _ _ => ?_) _ _
    | intro _
    | split
    | dsimp only [Function.comp]

instance gd_Conv_complexToComplex : ∀ x0 x1 x2 x3, Gd P (Go.Conv.complexToComplex x0 x1 x2 x3) := by
  intros
  unfold Go.Conv.complexToComplex
  repeat' first
    | infer_instance
    | refine Gd.bind ?_ fun _ => ?_
    | refine Gd.map _ ?_
    | refine Gd.mapM_arr (fun _ => ?_) _
    | refine Gd.mapM_list (fun _ => ?_) _
    | refine Gd.foldlM_list (fun _ _ => ?_) _ _
    | refine Gd.forIn_arr (fun _ _ => ?_) _ _
    | refine Gd.forIn_range (fun _ _ => ?_) _ _
    | intro _
    | split
    | dsimp only [Function.comp]

instance gd_Conv_intToString : ∀ x0, Gd P (Go.Conv.intToString x0) := by
  intros
  unfold Go.Conv.intToString
  repeat' first
    | infer_instance
    | refine Gd.bind ?_ fun _ => ?_
    | refine Gd.map _ ?_
    | refine Gd.mapM_arr (fun _ => ?_) _
    | refine Gd.mapM_list (fun _ => ?_) _
    | refine Gd.foldlM_list (fun _ _ => ?_) _ _
    | refine Gd.forIn_arr (fun _ _ => ?_) _ _
    | refine Gd.forIn_range (fun _ _ => ?_) _ _
    | intro _
    | split
    | dsimp only [Function.comp]

instance gd_Conv_stringToBytes : ∀ x0 x1, Gd P (Go.Conv.stringToBytes x0 x1) := by
  intros
  unfold Go.Conv.stringToBytes
  repeat' first
    | infer_instance
    | refine Gd.bind ?_ fun _ => ?_
    | refine Gd.map _ ?_
    | refine Gd.mapM_arr (fun _ => ?_) _
    | refine Gd.mapM_list (fun _ => ?_) _
    | refine Gd.foldlM_list (fun _ _ => ?_) _ _
    | refine Gd.forIn_arr (fun _ _ => ?_) _ _
    | refine Gd.forIn_range (fun _ _ => ?_) _ _
    | intro _
    | split
    | dsimp only [Function.comp]

instance gd_Conv_bytesToString : ∀ x0, Gd P (Go.Conv.bytesToString x0) := by
  intros
  unfold Go.Conv.bytesToString
  repeat' first
    | infer_instance
    | refine Gd.bind ?_ fun _ => ?_
    | refine Gd.map _ ?_
    | refine Gd.mapM_arr (fun _ => ?_) _
    | refine Gd.mapM_list (fun _ => ?_) _
    | refine Gd.foldlM_list (fun _ _ => ?_) _ _
    | refine Gd.forIn_arr (fun _ _ => ?_) _ _
    | refine Gd.forIn_range (fun _ _ => ?_) _ _
    | intro _
    | split
    | dsimp only [Function.comp]

instance gd_Conv_stringToRunes : ∀ x0 x1, Gd P (Go.Conv.stringToRunes x0 x1) := by
  intros
  unfold Go.Conv.stringToRunes
  repeat' first
    | infer_instance
    | refine Gd.bind ?_ fun _ => ?_
    | refine Gd.map _ ?_
    | refine Gd.mapM_arr (fun _ => ?_) _
    | refine Gd.mapM_list (fun _ => ?_) _
    | refine Gd.foldlM_list (fun _ _ => ?_) _ _
    | refine Gd.forIn_arr (fun _ _ => ?_) _ _
    | refine Gd.forIn_range (fun _ _ => ?_) _ _
    | intro _
    | split
    | dsimp only [Function.comp]

instance gd_Conv_runesToString : ∀ x0, Gd P (Go.Conv.runesToString x0) := by
  intros
  unfold Go.Conv.runesToString
  repeat' first
    | infer_instance
    | refine Gd.bind ?_ fun _ => ?_
    | refine Gd.map _ ?_
    | refine Gd.mapM_arr (fun _ => ?_) _
    | refine Gd.mapM_list (fun _ => ?_) _
    | refine Gd.foldlM_list (fun _ _ => ?_) _ _
    | refine Gd.forIn_arr (fun _ _ => ?_) _ _
    | refine Gd.forIn_range (fun _ _ => ?_) _ _
    | intro _
    | split
    | dsimp only [Function.comp]

instance gd_Conv_seenAt : ∀ x0, Gd P (Go.Conv.seenAt x0) := by
  intros
  unfold Go.Conv.seenAt
  repeat' first
    | infer_instance
    | refine Gd.bind ?_ fun _ => ?_
    | refine Gd.map _ ?_
    | refine Gd.mapM_arr (fun _ => ?_) _
    | refine Gd.mapM_list (fun _ => ?_) _
    | refine Gd.foldlM_list (fun _ _ => ?_) _ _
    | refine Gd.forIn_arr (fun _ _ => ?_) _ _
    | refine Gd.forIn_range (fun _ _ => ?_) _ _
    | intro _
    | split
    | dsimp only [Function.comp]

instance gd_Conv_unsafePointer : ∀ x0 x1 x2, Gd P (Go.Conv.unsafePointer x0 x1 x2) := by
  intros
  unfold Go.Conv.unsafePointer
  repeat' first
    | infer_instance
    | refine Gd.bind ?_ fun _ => ?_
    | refine Gd.map _ ?_
    | refine Gd.mapM_arr (fun _ => ?_) _
    | refine Gd.mapM_list (fun _ => ?_) _
    | refine Gd.foldlM_list (fun _ _ => ?_) _ _
    | refine Gd.forIn_arr (fun _ _ => ?_) _ _
    | refine Gd.forIn_range (fun _ _ => ?_) _ _
    | intro _
    | split
    | dsimp only [Function.comp]

instance gd_Builtin_holdsCells : ∀ x0 x1, Gd P (Go.Builtin.holdsCells x0 x1) := by
  intros
  unfold Go.Builtin.holdsCells
  repeat' first
    | infer_instance
    | refine Gd.bind ?_ fun _ => ?_
    | refine Gd.map _ ?_
    | refine Gd.mapM_arr (fun _ => ?_) _
    | refine Gd.mapM_list (fun _ => ?_) _
    | refine Gd.foldlM_list (fun _ _ => ?_) _ _
    | refine Gd.forIn_arr (fun _ _ => ?_) _ _
    | refine Gd.forIn_range (fun _ _ => ?_) _ _
    | intro _
    | split
    | dsimp only [Function.comp]

instance gd_Builtin_mayShare : ∀ x0 x1 x2 x3 x4, Gd P (Go.Builtin.mayShare x0 x1 x2 x3 x4) := by
  intros
  unfold Go.Builtin.mayShare
  repeat' first
    | infer_instance
    | refine Gd.bind ?_ fun _ => ?_
    | refine Gd.map _ ?_
    | refine Gd.mapM_arr (fun _ => ?_) _
    | refine Gd.mapM_list (fun _ => ?_) _
    | refine Gd.foldlM_list (fun _ _ => ?_) _ _
    | refine Gd.forIn_arr (fun _ _ => ?_) _ _
    | refine Gd.forIn_range (fun _ _ => ?_) _ _
    | intro _
    | split
    | dsimp only [Function.comp]

instance gd_Builtin_lenOf : ∀ x0, Gd P (Go.Builtin.lenOf x0) := by
  intros
  unfold Go.Builtin.lenOf
  repeat' first
    | infer_instance
    | refine Gd.bind ?_ fun _ => ?_
    | refine Gd.map _ ?_
    | refine Gd.mapM_arr (fun _ => ?_) _
    | refine Gd.mapM_list (fun _ => ?_) _
    | refine Gd.foldlM_list (fun _ _ => ?_) _ _
    | refine Gd.forIn_arr (fun _ _ => ?_) _ _
    | refine Gd.forIn_range (fun _ _ => ?_) _ _
    | intro _
    | split
    | dsimp only [Function.comp]

instance gd_Builtin_firstCells : ∀ x0 x1 x2, Gd P (Go.Builtin.firstCells x0 x1 x2) := by
  intros
  unfold Go.Builtin.firstCells
  repeat' first
    | infer_instance
    | refine Gd.bind ?_ fun _ => ?_
    | refine Gd.map _ ?_
    | refine Gd.mapM_arr (fun _ => ?_) _
    | refine Gd.mapM_list (fun _ => ?_) _
    | refine Gd.foldlM_list (fun _ _ => ?_) _ _
    | refine Gd.forIn_arr (fun _ _ => ?_) _ _
    | refine Gd.forIn_range (fun _ _ => ?_) _ _
    | intro _
    | split
    | dsimp only [Function.comp]

instance gd_Builtin_cap_ : ∀ x0 x1 x2, Gd P (Go.Builtin.cap_ x0 x1 x2) := by
  intros
  unfold Go.Builtin.cap_
  repeat' first
    | infer_instance
    | refine Gd.bind ?_ fun _ => ?_
    | refine Gd.map _ ?_
    | refine Gd.mapM_arr (fun _ => ?_) _
    | refine Gd.mapM_list (fun _ => ?_) _
    | refine Gd.foldlM_list (fun _ _ => ?_) _ _
    | refine Gd.forIn_arr (fun _ _ => ?_) _ _
    | refine Gd.forIn_range (fun _ _ => ?_) _ _
    | intro _
    | split
    | dsimp only [Function.comp]

instance gd_Builtin_clear_ : ∀ x0 x1 x2, Gd P (Go.Builtin.clear_ x0 x1 x2) := by
  intros
  unfold Go.Builtin.clear_
  repeat' first
    | infer_instance
    | refine Gd.bind ?_ fun _ => ?_
    | refine Gd.map _ ?_
    | refine Gd.mapM_arr (fun _ => ?_) _
    | refine Gd.mapM_list (fun _ => ?_) _
    | refine Gd.foldlM_list (fun _ _ => ?_) _ _
    | refine Gd.forIn_arr (fun _ _ => ?_) _ _
    | refine Gd.forIn_range (fun _ _ => ?_) _ _
    | intro _
    | split
    | dsimp only [Function.comp]

set_option maxHeartbeats 1000000 in
instance gd_Builtin_close_ : ∀ x0 x1 x2, Gd P (Go.Builtin.close_ x0 x1 x2) := by
  intro x0 x1 x2
  obtain ⟨l⟩ := x2
  rcases l with _ | ⟨a, _ | ⟨z, l⟩⟩
  case cons.nil =>
    cases a
    case chan a0 =>
      all_goals cases a0
      all_goals unfold Go.Builtin.close_
      all_goals conv => arg 2; whnf
      all_goals (repeat' first
          | infer_instance
          | refine Gd.wchoose fun _ => ?_
          | refine Gd.wget fun _ => ?_
          | refine Gd.wset ?_
          | refine Gd.wnew fun _ => ?_
          | refine Gd.wshape fun _ => ?_
          | refine Gd.wprogram ?_
          | refine Gd.wdec (fun _ => ?_) (fun _ => ?_) _
          | refine Gd.bind ?_ fun _ => ?_
          | refine Gd.sbind ?_ fun _ => ?_
          | refine Gd.map _ ?_
          | intro _
          | split
          | dsimp only [Function.comp])
    all_goals exact gd_dead _
  all_goals exact gd_dead _

set_option maxHeartbeats 1000000 in
instance gd_Builtin_complex_ : ∀ x0 x1 x2, Gd P (Go.Builtin.complex_ x0 x1 x2) := by
  intro x0 x1 x2
  obtain ⟨l⟩ := x2
  rcases l with _ | ⟨a, _ | ⟨b, _ | ⟨z, l⟩⟩⟩
  case cons.cons.nil =>
    cases a
    case float a0 a1 =>
      cases b
      case float b0 b1 =>
        all_goals unfold Go.Builtin.complex_
        all_goals conv => arg 2; whnf
        all_goals (repeat' first
            | infer_instance
            | refine Gd.wchoose fun _ => ?_
            | refine Gd.wget fun _ => ?_
            | refine Gd.wset ?_
            | refine Gd.wnew fun _ => ?_
            | refine Gd.wshape fun _ => ?_
            | refine Gd.wprogram ?_
            | refine Gd.wdec (fun _ => ?_) (fun _ => ?_) _
            | refine Gd.bind ?_ fun _ => ?_
            | refine Gd.sbind ?_ fun _ => ?_
            | refine Gd.map _ ?_
            | intro _
            | split
            | dsimp only [Function.comp])
      all_goals exact gd_dead _
    all_goals exact gd_dead _
  all_goals exact gd_dead _

instance gd_Builtin_copy_ : ∀ x0 x1 x2, Gd P (Go.Builtin.copy_ x0 x1 x2) := by
  intros
  unfold Go.Builtin.copy_
  repeat' first
    | infer_instance
    | refine Gd.bind ?_ fun _ => ?_
    | refine Gd.map _ ?_
    | refine Gd.mapM_arr (fun _ => ?_) _
    | refine Gd.mapM_list (fun _ => ?_) _
    | refine Gd.foldlM_list (fun _ _ => ?_) _ _
    | refine Gd.forIn_arr (fun _ _ => ?_) _ _
    | refine Gd.forIn_range (fun _ _ => ?_) _ _
    | intro _
    | split
    | dsimp only [Function.comp]

instance gd_Builtin_delete_ : ∀ x0 x1 x2, Gd P (Go.Builtin.delete_ x0 x1 x2) := by
  intros
  unfold Go.Builtin.delete_
  repeat' first
    | infer_instance
    | refine Gd.bind ?_ fun _ => ?_
    | refine Gd.map _ ?_
    | refine Gd.mapM_arr (fun _ => ?_) _
    | refine Gd.mapM_list (fun _ => ?_) _
    | refine Gd.foldlM_list (fun _ _ => ?_) _ _
    | refine Gd.forIn_arr (fun _ _ => ?_) _ _
    | refine Gd.forIn_range (fun _ _ => ?_) _ _
    | intro _
    | split
    | dsimp only [Function.comp]

set_option maxHeartbeats 1000000 in
instance gd_Builtin_imag_ : ∀ x0 x1 x2, Gd P (Go.Builtin.imag_ x0 x1 x2) := by
  intro x0 x1 x2
  obtain ⟨l⟩ := x2
  rcases l with _ | ⟨a, _ | ⟨z, l⟩⟩
  case cons.nil =>
    cases a
    case complex a0 a1 a2 =>
      all_goals unfold Go.Builtin.imag_
      all_goals conv => arg 2; whnf
      all_goals (repeat' first
          | infer_instance
          | refine Gd.wchoose fun _ => ?_
          | refine Gd.wget fun _ => ?_
          | refine Gd.wset ?_
          | refine Gd.wnew fun _ => ?_
          | refine Gd.wshape fun _ => ?_
          | refine Gd.wprogram ?_
          | refine Gd.wdec (fun _ => ?_) (fun _ => ?_) _
          | refine Gd.bind ?_ fun _ => ?_
          | refine Gd.sbind ?_ fun _ => ?_
          | refine Gd.map _ ?_
          | intro _
          | split
          | dsimp only [Function.comp])
    all_goals exact gd_dead _
  all_goals exact gd_dead _

instance gd_Builtin_len_ : ∀ x0 x1 x2, Gd P (Go.Builtin.len_ x0 x1 x2) := by
  intros
  unfold Go.Builtin.len_
  repeat' first
    | infer_instance
    | refine Gd.bind ?_ fun _ => ?_
    | refine Gd.map _ ?_
    | refine Gd.mapM_arr (fun _ => ?_) _
    | refine Gd.mapM_list (fun _ => ?_) _
    | refine Gd.foldlM_list (fun _ _ => ?_) _ _
    | refine Gd.forIn_arr (fun _ _ => ?_) _ _
    | refine Gd.forIn_range (fun _ _ => ?_) _ _
    | intro _
    | split
    | dsimp only [Function.comp]

instance gd_Builtin_max2 : ∀ x0 x1, Gd P (Go.Builtin.max2 x0 x1) := by
  intros
  unfold Go.Builtin.max2
  repeat' first
    | infer_instance
    | refine Gd.bind ?_ fun _ => ?_
    | refine Gd.map _ ?_
    | refine Gd.mapM_arr (fun _ => ?_) _
    | refine Gd.mapM_list (fun _ => ?_) _
    | refine Gd.foldlM_list (fun _ _ => ?_) _ _
    | refine Gd.forIn_arr (fun _ _ => ?_) _ _
    | refine Gd.forIn_range (fun _ _ => ?_) _ _
    | intro _
    | split
    | dsimp only [Function.comp]

instance gd_Builtin_max_ : ∀ x0 x1 x2, Gd P (Go.Builtin.max_ x0 x1 x2) := by
  intros
  unfold Go.Builtin.max_
  repeat' first
    | infer_instance
    | refine Gd.bind ?_ fun _ => ?_
    | refine Gd.map _ ?_
    | refine Gd.mapM_arr (fun _ => ?_) _
    | refine Gd.mapM_list (fun _ => ?_) _
    | refine Gd.foldlM_list (fun _ _ => ?_) _ _
    | refine Gd.forIn_arr (fun _ _ => ?_) _ _
    | refine Gd.forIn_range (fun _ _ => ?_) _ _
    | intro _
    | split
    | dsimp only [Function.comp]

instance gd_Builtin_min2 : ∀ x0 x1, Gd P (Go.Builtin.min2 x0 x1) := by
  intros
  unfold Go.Builtin.min2
  repeat' first
    | infer_instance
    | refine Gd.bind ?_ fun _ => ?_
    | refine Gd.map _ ?_
    | refine Gd.mapM_arr (fun _ => ?_) _
    | refine Gd.mapM_list (fun _ => ?_) _
    | refine Gd.foldlM_list (fun _ _ => ?_) _ _
    | refine Gd.forIn_arr (fun _ _ => ?_) _ _
    | refine Gd.forIn_range (fun _ _ => ?_) _ _
    | intro _
    | split
    | dsimp only [Function.comp]

instance gd_Builtin_min_ : ∀ x0 x1 x2, Gd P (Go.Builtin.min_ x0 x1 x2) := by
  intros
  unfold Go.Builtin.min_
  repeat' first
    | infer_instance
    | refine Gd.bind ?_ fun _ => ?_
    | refine Gd.map _ ?_
    | refine Gd.mapM_arr (fun _ => ?_) _
    | refine Gd.mapM_list (fun _ => ?_) _
    | refine Gd.foldlM_list (fun _ _ => ?_) _ _
    | refine Gd.forIn_arr (fun _ _ => ?_) _ _
    | refine Gd.forIn_range (fun _ _ => ?_) _ _
    | intro _
    | split
    | dsimp only [Function.comp]

set_option maxHeartbeats 1000000 in
instance gd_Builtin_real_ : ∀ x0 x1 x2, Gd P (Go.Builtin.real_ x0 x1 x2) := by
  intro x0 x1 x2
  obtain ⟨l⟩ := x2
  rcases l with _ | ⟨a, _ | ⟨z, l⟩⟩
  case cons.nil =>
    cases a
    case complex a0 a1 a2 =>
      all_goals unfold Go.Builtin.real_
      all_goals conv => arg 2; whnf
      all_goals (repeat' first
          | infer_instance
          | refine Gd.wchoose fun _ => ?_
          | refine Gd.wget fun _ => ?_
          | refine Gd.wset ?_
          | refine Gd.wnew fun _ => ?_
          | refine Gd.wshape fun _ => ?_
          | refine Gd.wprogram ?_
          | refine Gd.wdec (fun _ => ?_) (fun _ => ?_) _
          | refine Gd.bind ?_ fun _ => ?_
          | refine Gd.sbind ?_ fun _ => ?_
          | refine Gd.map _ ?_
          | intro _
          | split
          | dsimp only [Function.comp])
    all_goals exact gd_dead _
  all_goals exact gd_dead _

set_option maxHeartbeats 1000000 in
instance gd_Builtin_unsafeAdd_ : ∀ x0 x1 x2, Gd P (Go.Builtin.unsafeAdd_ x0 x1 x2) := by
  intro x0 x1 x2
  obtain ⟨l⟩ := x2
  rcases l with _ | ⟨a, _ | ⟨b, _ | ⟨z, l⟩⟩⟩
  case cons.cons.nil =>
    cases a
    case pointer a0 =>
      all_goals unfold Go.Builtin.unsafeAdd_
      all_goals conv => arg 2; whnf
      all_goals (repeat' first
          | infer_instance
          | refine Gd.wchoose fun _ => ?_
          | refine Gd.wget fun _ => ?_
          | refine Gd.wset ?_
          | refine Gd.wnew fun _ => ?_
          | refine Gd.wshape fun _ => ?_
          | refine Gd.wprogram ?_
          | refine Gd.wdec (fun _ => ?_) (fun _ => ?_) _
          | refine Gd.bind ?_ fun _ => ?_
          | refine Gd.sbind ?_ fun _ => ?_
          | refine Gd.map _ ?_
          | intro _
          | split
          | dsimp only [Function.comp])
    all_goals exact gd_dead _
  all_goals exact gd_dead _

set_option maxHeartbeats 1000000 in
instance gd_Builtin_unsafeSlice_ : ∀ x0 x1 x2, Gd P (Go.Builtin.unsafeSlice_ x0 x1 x2) := by
  intro x0 x1 x2
  obtain ⟨l⟩ := x2
  rcases l with _ | ⟨a, _ | ⟨b, _ | ⟨z, l⟩⟩⟩
  case cons.cons.nil =>
    cases a
    case pointer a0 =>
      all_goals unfold Go.Builtin.unsafeSlice_
      all_goals conv => arg 2; whnf
      all_goals (repeat' first
          | infer_instance
          | refine Gd.wchoose fun _ => ?_
          | refine Gd.wget fun _ => ?_
          | refine Gd.wset ?_
          | refine Gd.wnew fun _ => ?_
          | refine Gd.wshape fun _ => ?_
          | refine Gd.wprogram ?_
          | refine Gd.wdec (fun _ => ?_) (fun _ => ?_) _
          | refine Gd.bind ?_ fun _ => ?_
          | refine Gd.sbind ?_ fun _ => ?_
          | refine Gd.map _ ?_
          | intro _
          | split
          | dsimp only [Function.comp])
    all_goals exact gd_dead _
  all_goals exact gd_dead _

set_option maxHeartbeats 1000000 in
instance gd_Builtin_unsafeSliceData_ : ∀ x0 x1 x2, Gd P (Go.Builtin.unsafeSliceData_ x0 x1 x2) := by
  intro x0 x1 x2
  obtain ⟨l⟩ := x2
  rcases l with _ | ⟨a, _ | ⟨z, l⟩⟩
  case cons.nil =>
    cases a
    case slice a0 a1 a2 =>
      all_goals cases a0
      all_goals unfold Go.Builtin.unsafeSliceData_
      all_goals conv => arg 2; whnf
      all_goals (repeat' first
          | infer_instance
          | refine Gd.wchoose fun _ => ?_
          | refine Gd.wget fun _ => ?_
          | refine Gd.wset ?_
          | refine Gd.wnew fun _ => ?_
          | refine Gd.wshape fun _ => ?_
          | refine Gd.wprogram ?_
          | refine Gd.wdec (fun _ => ?_) (fun _ => ?_) _
          | refine Gd.bind ?_ fun _ => ?_
          | refine Gd.sbind ?_ fun _ => ?_
          | refine Gd.map _ ?_
          | intro _
          | split
          | dsimp only [Function.comp])
    all_goals exact gd_dead _
  all_goals exact gd_dead _

set_option maxHeartbeats 1000000 in
instance gd_Builtin_unsafeString_ : ∀ x0 x1 x2, Gd P (Go.Builtin.unsafeString_ x0 x1 x2) := by
  intro x0 x1 x2
  obtain ⟨l⟩ := x2
  rcases l with _ | ⟨a, _ | ⟨b, _ | ⟨z, l⟩⟩⟩
  case cons.cons.nil =>
    cases a
    case pointer a0 =>
      all_goals unfold Go.Builtin.unsafeString_
      all_goals conv => arg 2; whnf
      all_goals (repeat' first
          | infer_instance
          | refine Gd.wchoose fun _ => ?_
          | refine Gd.wget fun _ => ?_
          | refine Gd.wset ?_
          | refine Gd.wnew fun _ => ?_
          | refine Gd.wshape fun _ => ?_
          | refine Gd.wprogram ?_
          | refine Gd.wdec (fun _ => ?_) (fun _ => ?_) _
          | refine Gd.bind ?_ fun _ => ?_
          | refine Gd.sbind ?_ fun _ => ?_
          | refine Gd.map _ ?_
          | intro _
          | split
          | dsimp only [Function.comp])
    all_goals exact gd_dead _
  all_goals exact gd_dead _

set_option maxHeartbeats 1000000 in
instance gd_Builtin_unsafeStringData_ : ∀ x0 x1 x2, Gd P (Go.Builtin.unsafeStringData_ x0 x1 x2) := by
  intro x0 x1 x2
  obtain ⟨l⟩ := x2
  rcases l with _ | ⟨a, _ | ⟨z, l⟩⟩
  case cons.nil =>
    cases a
    case string a0 =>
      all_goals unfold Go.Builtin.unsafeStringData_
      all_goals conv => arg 2; whnf
      all_goals (repeat' first
          | infer_instance
          | refine Gd.wchoose fun _ => ?_
          | refine Gd.wget fun _ => ?_
          | refine Gd.wset ?_
          | refine Gd.wnew fun _ => ?_
          | refine Gd.wshape fun _ => ?_
          | refine Gd.wprogram ?_
          | refine Gd.wdec (fun _ => ?_) (fun _ => ?_) _
          | refine Gd.bind ?_ fun _ => ?_
          | refine Gd.sbind ?_ fun _ => ?_
          | refine Gd.map _ ?_
          | intro _
          | split
          | dsimp only [Function.comp])
    all_goals exact gd_dead _
  all_goals exact gd_dead _

end Go.Proofs.YtpenbkfchgeafaaGreatDoor

namespace Go.Proofs.YtpenbkfchgeafaaGreatDoor

section
open Go
variable {α β : Type} {P : Program}

theorem Gd.ite {c : Prop} [Decidable c] {x y : Sem α} (hx : Gd P x) (hy : Gd P y) : Gd P (if c then x else y) := by
  split
  · exact hx
  · exact hy
instance gd_ite {c : Prop} [Decidable c] {x y : Sem α} [hx : Gd P x] [hy : Gd P y] : Gd P (if c then x else y) := by
  split
  · exact hx
  · exact hy

set_option maxHeartbeats 2000000 in
instance gd_Builtin_append_ : ∀ x0 x1 x2, Gd P (Go.Builtin.append_ x0 x1 x2) := by
  intros
  unfold Go.Builtin.append_
  repeat' first
    | infer_instance
    | refine Gd.bind ?_ fun _ => ?_
    | refine Gd.map _ ?_
    | refine Gd.ite ?_ ?_
    | intro _
    | split
    | dsimp only [Function.comp]

set_option maxHeartbeats 2000000 in
instance gd_movedNumber : ∀ x0 x1 x2, Gd P (Go.movedNumber x0 x1 x2) := by
  intros
  unfold Go.movedNumber
  repeat' first
    | infer_instance
    | refine Gd.bind ?_ fun _ => ?_
    | refine Gd.map _ ?_
    | refine Gd.ite ?_ ?_
    | intro _
    | split
    | dsimp only [Function.comp]

set_option maxHeartbeats 2000000 in
instance gd_movedPointer : ∀ x0 x1 x2, Gd P (Go.movedPointer x0 x1 x2) := by
  intros
  unfold Go.movedPointer
  repeat' first
    | infer_instance
    | refine Gd.bind ?_ fun _ => ?_
    | refine Gd.map _ ?_
    | refine Gd.ite ?_ ?_
    | intro _
    | split
    | dsimp only [Function.comp]

set_option maxHeartbeats 2000000 in
instance gd_eqGuard : ∀ x0 x1 x2 x3 x4 x5, Gd P (Go.eqGuard x0 x1 x2 x3 x4 x5) := by
  intros
  unfold Go.eqGuard
  repeat' first
    | infer_instance
    | refine Gd.bind ?_ fun _ => ?_
    | refine Gd.map _ ?_
    | refine Gd.ite ?_ ?_
    | intro _
    | split
    | dsimp only [Function.comp]

set_option maxHeartbeats 2000000 in
instance gd_binOp : ∀ x0 x1 x2 x3, Gd P (Go.binOp x0 x1 x2 x3) := by
  intros
  unfold Go.binOp
  repeat' first
    | infer_instance
    | refine Gd.bind ?_ fun _ => ?_
    | refine Gd.map _ ?_
    | refine Gd.ite ?_ ?_
    | intro _
    | split
    | dsimp only [Function.comp]

set_option maxHeartbeats 2000000 in
instance gd_convert : ∀ x0 x1 x2, Gd P (Go.convert x0 x1 x2) := by
  intros
  unfold Go.convert
  repeat' first
    | infer_instance
    | refine Gd.bind ?_ fun _ => ?_
    | refine Gd.map _ ?_
    | refine Gd.ite ?_ ?_
    | intro _
    | split
    | dsimp only [Function.comp]

set_option maxHeartbeats 2000000 in
instance gd_resolve : ∀ x0 x1 x2, Gd P (Go.resolve x0 x1 x2) := by
  intros
  unfold Go.resolve
  repeat' first
    | infer_instance
    | refine Gd.bind ?_ fun _ => ?_
    | refine Gd.map _ ?_
    | refine Gd.ite ?_ ?_
    | intro _
    | split
    | dsimp only [Function.comp]

end

open Go
variable {α β : Type} {P : Program}

/-- What an operation may yield. -/
def Rk : Next → Prop
  | .value _ | .skip | .enter .. | .round .. | .defer _ | .recover | .spawn _ | .comm .. => True
  | .coroswitch _ e => e = true
  | .row r _ => r = "runtime.print$piece"
  | _ => False

theorem Gd.val {s : Sem Value} (h : Gd P s) : Good P Rk (do pure (.value (← s)) : Sem Next) := Good.bind' h.good fun _ => Good.pure trivial
theorem Gd.unit {s : Sem Unit} (h : Gd P s) : Good P Rk (do s; pure .skip : Sem Next) := Good.bind' h.good fun _ => Good.pure trivial
theorem Gd.next {s : Sem α} {f : α → Sem Next} (h : Gd P s) (hf : ∀ a, Good P Rk (f a)) : Good P Rk (s >>= f) := Good.bind' h.good fun a => hf a

/-- A function without a body whose entry is good; no other that is. -/
def FnOk (P : Program) (fn : Func) : Prop :=
  (fn.name == "runtime.NumGoroutine") = false ∧ (fn.body.isNone = true → (∀ e, Extern.findNext fn = some e → ∀ args, Good P Rk (e args)) ∧ (∀ e, Extern.find fn = some e → ∀ args, Gd P (e args)))
def PlainP (P : Program) : Prop := ∀ (f : FuncId) (fn : Func), P.funcs[f]? = some fn → FnOk P fn

theorem good_callFunc (hP : PlainP P) (f : FuncId) (args : Array Value) : Good P Rk (callFunc f args) := by
  unfold callFunc
  refine Good.program ?_
  show Good P Rk (Sem.bind (Sem.pure P) _)
  show Good P Rk (match P.funcs[f]? with | none => _ | some fn => _)
  split
  · exact Good.halt _
  · rename_i fn hfn
    have h := hP f fn hfn
    split
    · rename_i hn; rw [h.1] at hn; cases hn
    · split
      · rename_i hb
        refine Gd.next (gd_extern f) fun _ => ?_
        split
        · rename_i e he
          exact (h.2 hb).1 e he args
        · split
          · rename_i e he
            exact Gd.val ((h.2 hb).2 e he args)
          · split
            · exact Good.pure trivial
            · exact Good.halt _
      · exact Good.pure trivial

theorem Good.haltS {Q : α → Prop} (s : String) : Good P Q (stuck s : Sem α) := Good.halt _
theorem Good.haltU {Q : α → Prop} (u : Unsupported) : Good P Q (unsupported u : Sem α) := Good.halt _
theorem good_runtimePanic {Q : α → Prop} (e : RuntimeError) : Good P Q (runtimePanic e : Sem α) := by
  unfold runtimePanic
  refine Good.bind' (inferInstance : Gd P Go.program).good fun p => ?_
  cases e
  case typeAssertion i c a m =>
    refine Good.bind' (inferInstance : Gd P (elemOf _)).good fun _ => Good.bind' (inferInstance : Gd P (newVar _ _)).good fun _ => Good.halt _
  case panicNil =>
    refine Good.bind' (inferInstance : Gd P (elemOf _)).good fun _ => Good.bind' (inferInstance : Gd P (newVar _ _)).good fun _ => Good.halt _
  all_goals exact Good.halt _

theorem good_callMethod (hP : PlainP P) (recv : Value) (name : String) (args : Array Value) : Good P Rk (callMethod recv name args) := by
  unfold callMethod
  split
  · refine Gd.next inferInstance fun p => ?_
    refine Gd.next inferInstance fun x => ?_
    exact good_callFunc hP _ _
  · exact good_runtimePanic _
  · exact Good.halt _

/-- An entry that yields, or ends the run, or lists nothing that is kept. -/
def Dead {α : Type} (P : Program) (x : Sem α) : Prop := ∀ w es, Ends (x.runT P w es).1 ∨ ¬ Heard (x.runT P w es).1 ∨ ∃ a w', (x.runT P w es).1 = .ok a w'
theorem Dead.pure (a : α) : Dead P (Pure.pure a : Sem α) := fun w _ => .inr (.inr ⟨a, w, rfl⟩)
theorem Dead.bind {x : Sem α} {f : α → Sem β} (hx : Dead P x) (hf : ∀ a, Dead P (f a)) : Dead P (x >>= f) := by
  intro w es
  have e : (x >>= f).runT P w es = match x.runT P w es with
      | (.ok a w', es') => (f a).runT P w' es'
      | (.halt h w', es') => (.halt h w', es') := Sem.runT_bind' P x f w es
  have h := hx w es
  rcases hr : x.runT P w es with ⟨r, es'⟩
  rw [hr] at h e
  rw [e]
  cases r with
  | halt h' w' =>
    rcases h with h | h | ⟨a, w2, h⟩
    · exact .inl (ends_any h)
    · exact .inr (.inl fun x => h (heard_any x))
    · cases h
  | ok a w' => exact hf a w' es'
theorem Dead.ends (h : Halt) (hh : ∀ w, Ends (.halt h w : Result α)) : Dead P (Sem.halt h : Sem α) := fun w _ => .inl (hh w)
theorem noCell_dead (w : World) (a : Addr) (s : String) : (∃ u, w.noCell a s = .unsupported u) ∨ ∃ t, w.noCell a s = .stuck t := by
  unfold World.noCell
  split
  · exact .inl ⟨_, rfl⟩
  · exact .inl ⟨_, rfl⟩
  · exact .inr ⟨_, rfl⟩
theorem farLoad_error {w : World} {a : Addr} {m : Bool} {h : Halt} (e : w.farLoad P a m = .error h) : (∃ u, h = .unsupported u) ∨ ∃ t, h = .stuck t := by
  unfold World.farLoad at e
  split at e
  · split at e
    · cases e
    · exact .inl ⟨_, (Except.error.inj e).symm⟩
  · rw [← Except.error.inj e]; exact noCell_dead _ _ _
theorem farStore_error {w : World} {a : Addr} {v : Value} {m : Bool} {h : Halt} (e : w.farStore P a v m = .error h) : (∃ u, h = .unsupported u) ∨ ∃ t, h = .stuck t := by
  unfold World.farStore at e
  split at e
  · split at e
    · cases e
    · exact .inl ⟨_, (Except.error.inj e).symm⟩
  · rw [← Except.error.inj e]; exact noCell_dead _ _ _
theorem Dead.load (a : Addr) (m : Mode) : Dead P (Go.load a m) := by
  intro w es
  show Ends ((Sem.load m a Sem.pure).runT P w es).1 ∨ ¬ Heard ((Sem.load m a Sem.pure).runT P w es).1 ∨ ∃ x w', ((Sem.load m a Sem.pure).runT P w es).1 = .ok x w'
  simp only [Sem.runT]
  cases hc : w.cell? a with
  | some v => exact .inr (.inr ⟨v, w, rfl⟩)
  | none =>
    dsimp only
    cases hf : w.farLoad P a (m == Mode.atomic) with
    | ok x => obtain ⟨v, t⟩ := x; exact .inr (.inr ⟨v, w, rfl⟩)
    | error h =>
      rcases farLoad_error hf with ⟨u, rfl⟩ | ⟨t, rfl⟩
      · exact .inr (.inl fun x => x)
      · exact .inl trivial
theorem Dead.storeBool (a : Addr) (b : Bool) (m : Mode) : Dead P (Go.store a (.bool b) m) := by
  intro w es
  show Ends ((Sem.store m a (.bool b) (Sem.pure ())).runT P w es).1 ∨ ¬ Heard ((Sem.store m a (.bool b) (Sem.pure ())).runT P w es).1 ∨ ∃ x w', ((Sem.store m a (.bool b) (Sem.pure ())).runT P w es).1 = .ok x w'
  simp only [Sem.runT]
  cases hc : w.cell? a with
  | some v =>
    dsimp only
    split
    · exact .inr (.inl fun x => x)
    · exact .inr (.inr ⟨_, _, rfl⟩)
  | none =>
    dsimp only
    cases hf : w.farStore P a (.bool b) (m == Mode.atomic) with
    | ok x => obtain ⟨v, t⟩ := x; exact .inr (.inr ⟨_, _, rfl⟩)
    | error h =>
      rcases farStore_error hf with ⟨u, rfl⟩ | ⟨t, rfl⟩
      · exact .inr (.inl fun x => x)
      · exact .inl trivial

theorem Dead.held : Dead P Extern.PrintPieces.held := by
  unfold Extern.PrintPieces.held
  refine Dead.bind (fun w es => .inr (.inr ⟨P, w, rfl⟩)) fun p => Dead.bind (Dead.load _ _) fun v => ?_
  cases v
  case bool => exact Dead.pure _
  all_goals exact Dead.ends _ fun _ => trivial
instance gd_held : Gd P Extern.PrintPieces.held := by
  unfold Extern.PrintPieces.held
  refine Gd.bind inferInstance fun p => Gd.bind inferInstance fun v => ?_
  cases v <;> infer_instance

theorem good_writeFd (fd : Nat) (b : ByteArray) : Gd P (writeFd fd b) := by
  constructor
  unfold writeFd
  refine Good.sys _ (fun w es => trivial) fun r => ?_
  cases r <;> exact Good.any (Q := fun _ => True) (Good.mono (show Good P (fun _ => True) _ from (inferInstance : Gd P _).good) fun _ _ => trivial)

/-- .. an entry at whose beginning its goroutine is deaf once more than at its end. -/
structure FitsH {α : Type} (P : Program) (Q : α → Prop) (x : Sem α) (w : World) (es : Array Event) : Prop where
  loc : ∃ m, (Rw (x.runT P w es).1).tape = w.tape ∧ (Rw (x.runT P w es).1).drawn = w.drawn + m ∧
    ∀ τ d, Agr τ d w m → x.runT P (On w τ d) es = (rOn τ (d + m) (x.runT P w es).1, (x.runT P w es).2)
  bal : Heard (x.runT P w es).1 → ∀ d, deafBehind d (x.runT P w es).2 = deafBehind d es - 1
  out : ∀ a w', (x.runT P w es).1 = .ok a w' → Q a
def GoodH {α : Type} (P : Program) (Q : α → Prop) (x : Sem α) : Prop := ∀ w es, Ends (x.runT P w es).1 ∨ FitsH P Q x w es

section
variable {Q : α → Prop} {R : β → Prop}
theorem GoodH.enable {f : Unit → Sem β} (h : Good P R (f ())) : GoodH P R (Go.mark .enable >>= f) := by
  intro w es
  have e : ∀ w, (Go.mark .enable >>= f).runT P w es = (f ()).runT P w (es.push ⟨.mark .enable, false, true⟩) := fun w => rfl
  rcases h w (es.push ⟨.mark .enable, false, true⟩) with hE | hF
  · left; rw [e]; exact hE
  · right
    obtain ⟨m, h1, h2, h3⟩ := hF.loc
    refine ⟨⟨m, by rw [e]; exact h1, by rw [e]; exact h2, fun τ d ha => by rw [e, e]; exact h3 τ d ha⟩, fun hh d => ?_, fun a w2 => by rw [e]; exact hF.out a w2⟩
    rw [e] at hh ⊢
    rw [hF.bal hh d]
    unfold deafBehind
    rw [Array.foldl_push]
theorem GoodH.blocked {f : α → Sem β} : GoodH P R (Sem.halt .blocked >>= f) := fun _ _ => .inl trivial
theorem GoodH.bind {x : Sem α} {f : α → Sem β} (hx : Gd P x) (hd : Dead P x) (hf : ∀ a, GoodH P R (f a)) : GoodH P R (x >>= f) := by
  intro w es
  have e : ∀ w, (x >>= f).runT P w es = match x.runT P w es with
      | (.ok a w', es') => (f a).runT P w' es'
      | (.halt h w', es') => (.halt h w', es') := fun w => Sem.runT_bind' P x f w es
  have hxx := hx.good w es
  have hdd := hd w es
  rcases hr : x.runT P w es with ⟨r, es'⟩
  rw [hr] at hdd
  have e1 := e w
  rw [hr] at e1
  cases r with
  | halt h w' =>
    dsimp only at e1
    rcases hdd with hE | hN | ⟨a, w2, h0⟩
    · left; rw [e1]; exact ends_any hE
    · rcases hxx with hE | hF
      · left; rw [e1]; rw [hr] at hE; exact ends_any hE
      · right
        obtain ⟨m, h1, h2, h3⟩ := hF.loc
        rw [hr] at h1 h2 h3
        refine ⟨⟨m, by rw [e1]; exact h1, by rw [e1]; exact h2, fun τ d ha => ?_⟩, fun hh => ?_, fun b w2 hb => ?_⟩
        · rw [e1, e, h3 τ d ha]; rfl
        · rw [e1] at hh
          exact absurd (heard_any hh) hN
        · rw [e1] at hb; cases hb
    · cases h0
  | ok a w' =>
    dsimp only at e1
    rcases hxx with hE | hF
    · rw [hr] at hE; exact hE.elim
    · obtain ⟨m, h1, h2, h3⟩ := hF.loc
      rw [hr] at h1 h2 h3
      rcases hf a w' es' with hE | hG
      · left; rw [e1]; exact hE
      · right
        obtain ⟨n, g1, g2, g3⟩ := hG.loc
        refine ⟨⟨m + n, by rw [e1, g1]; exact h1, by rw [e1, g2]; show w'.drawn + n = _; rw [show w'.drawn = w.drawn + m from h2]; omega, fun τ d hag => ?_⟩, fun hh d => ?_, fun b w2 hb => ?_⟩
        · rw [e1, e, h3 τ d hag.fst]
          show (f a).runT P (On w' τ (d + m)) es' = _
          rw [g3 τ (d + m) (Agr.snd hag h1 h2), Nat.add_assoc]
        · rw [e1] at hh ⊢
          rw [hG.bal hh d]
          have := hF.bal (by rw [hr]; trivial) d
          rw [hr] at this
          rw [show deafBehind d es' = _ from this]
        · rw [e1] at hb
          exact hG.out b w2 hb
theorem GoodH.ite {c : Prop} [Decidable c] {x y : Sem β} (hx : GoodH P R x) (hy : GoodH P R y) : GoodH P R (if c then x else y) := by
  split
  · exact hx
  · exact hy
theorem Good.ite {c : Prop} [Decidable c] {x y : Sem β} (hx : Good P R x) (hy : Good P R y) : Good P R (if c then x else y) := by
  split
  · exact hx
  · exact hy
theorem Good.disable {f : Unit → Sem β} (h : GoodH P R (f ())) : Good P R (Go.mark .disable >>= f) := by
  intro w es
  have e : ∀ w, (Go.mark .disable >>= f).runT P w es = (f ()).runT P w (es.push ⟨.mark .disable, false, true⟩) := fun w => rfl
  rcases h w (es.push ⟨.mark .disable, false, true⟩) with hE | hF
  · left; rw [e]; exact hE
  · right
    obtain ⟨m, h1, h2, h3⟩ := hF.loc
    refine ⟨⟨m, by rw [e]; exact h1, by rw [e]; exact h2, fun τ d ha => by rw [e, e]; exact h3 τ d ha⟩, fun hh d => ?_, fun a w2 => by rw [e]; exact hF.out a w2⟩
    rw [e] at hh ⊢
    rw [hF.bal hh d]
    have : deafBehind d (es.push ⟨.mark .disable, false, true⟩) = deafBehind d es + 1 := by unfold deafBehind; rw [Array.foldl_push]
    omega
end
theorem Dead.program : Dead P Go.program := fun w _ => .inr (.inr ⟨P, w, rfl⟩)

theorem good_piece (x y : Array TypeId) (args : Array Value) : Good P Rk (Extern.PrintPieces.piece x y args) := by
  have hend : Good P Rk (do Go.mark .disable; let p ← Go.program; Go.store (printLock p) (.bool false) .atomic; Go.mark .enable; pure (.value (.tuple #[])) : Sem Next) :=
    Good.disable (GoodH.bind inferInstance Dead.program fun p => GoodH.bind inferInstance (Dead.storeBool _ _ _) fun _ => GoodH.enable (Good.pure trivial))
  unfold Extern.PrintPieces.piece
  split
  · split
    · dsimp only
      have htail : ∀ (b : Bool) (p : ByteArray) (f : Bool), Good P Rk (do
          writeFd 2 p
          if b = true then pure (Next.row "runtime.print$piece" (#[Value.bool false] ++ args.extract 2)) else
            if f = true then do Go.mark .disable; let p ← Go.program; Go.store (printLock p) (.bool false) .atomic; Go.mark .enable; pure (.value (.tuple #[])) else pure (.value (.tuple #[])) : Sem Next) := fun b p f =>
        Gd.next (good_writeFd _ _) fun _ => Good.ite (Good.pure rfl) (Good.ite hend (Good.pure trivial))
      refine Good.ite (Good.bind' (inferInstance : Gd P (unsupported _ : Sem Unit)).good fun _ => ?_) ?_
      all_goals
        refine Good.ite (Good.disable (GoodH.bind inferInstance Dead.held fun b => GoodH.ite GoodH.blocked (GoodH.ite ?_ ?_))) (htail _ _ _)
        · exact GoodH.bind inferInstance Dead.program fun _ => GoodH.bind inferInstance (Dead.storeBool _ _ _) fun _ => GoodH.enable (htail _ _ _)
        · exact GoodH.enable (htail _ _ _)
    · exact Good.halt _
  · exact Good.halt _

theorem Gd.forIn'_list {l₀ : List α} {f : (a : α) → a ∈ l₀ → β → Sem (ForInStep β)} (h : ∀ a ha b, Gd P (f a ha b)) (b : β) : Gd P (forIn' l₀ b f) := by
  induction l₀ generalizing b with
  | nil => rw [List.forIn'_nil]; infer_instance
  | cons a l ih =>
    rw [List.forIn'_cons]
    refine Gd.bind (h _ _ _) fun x => ?_
    cases x with
    | done b => infer_instance
    | yield b => exact ih (fun a ha b => h _ _ _) b
theorem Gd.forIn'_range {r : Std.Legacy.Range} {f : (i : Nat) → i ∈ r → β → Sem (ForInStep β)} (h : ∀ a ha b, Gd P (f a ha b)) (b : β) : ∀ _ : Unit, Gd P (forIn' r b f) := by
  intro _
  rw [Std.Legacy.Range.forIn'_eq_forIn'_range']
  exact Gd.forIn'_list (fun a ha b => h _ _ _) b

set_option maxHeartbeats 800000 in
instance gd_Builtin_pieces : ∀ x0 x1 x2 x3, Gd P (Go.Builtin.pieces x0 x1 x2 x3) := by
  intros
  unfold Go.Builtin.pieces
  refine Gd.bind ?_ fun _ => ?_
  · refine Gd.forIn'_range (fun i h b => ?_) _ ()
    repeat' first
      | infer_instance
      | refine Gd.bind ?_ fun _ => ?_
      | refine Gd.forIn_arr (fun _ _ => ?_) _ _
      | intro _
      | split
      | dsimp only [Function.comp]
  · repeat' first
      | infer_instance
      | refine Gd.ite ?_ ?_
      | dsimp only
theorem good_printMarked (ln : Bool) (c : Array Bool) (t : Array TypeId) (a : Array Value) : Good P Rk (Builtin.printMarked ln c t a) := by
  unfold Builtin.printMarked
  refine Gd.next inferInstance fun ps => ?_
  exact Good.ite (Good.pure trivial) (good_piece _ _ _)

theorem good_builtin (b : Builtin) (t : Array TypeId) (ty : TypeId) (c : Array Bool) (args : Array Value) : Good P Rk (builtin b t ty c args) := by
  unfold builtin
  cases b
  case print => exact good_printMarked _ _ _ _
  case println => exact good_printMarked _ _ _ _
  case recover => exact Good.pure trivial
  case make => exact Good.halt _
  case new => exact Good.halt _
  case unsafeAlignof => exact Good.halt _
  case unsafeOffsetof => exact Good.halt _
  case unsafeSizeof => exact Gd.next inferInstance fun _ => Good.pure trivial
  all_goals exact Gd.val inferInstance

theorem good_yield (l : Nat) (args : Array Value) : Good P Rk (Instr.yield l args) := by
  unfold Instr.yield
  refine Gd.next inferInstance fun r => ?_
  exact Good.ite (Good.bind' (inferInstance : Gd P (stuck _ : Sem Unit)).good fun _ => Good.pure trivial) (Good.pure trivial)

theorem good_invoke (hP : PlainP P) (t : Target) (args : Array Value) : Good P Rk (invoke t args) := by
  unfold invoke
  split
  · exact good_runtimePanic _
  · exact good_builtin _ _ _ _ _
  · exact good_callFunc hP _ _
  · split
    · exact good_callMethod hP _ _ _
    · exact Good.halt _
  · split
    · refine Gd.next inferInstance fun u => ?_
      exact good_callMethod hP _ _ _
    · exact Good.halt _
  · split
    · exact Gd.next inferInstance fun u => good_callFunc hP _ _
    · exact Good.halt _
  · exact good_yield _ _
  · exact Good.halt _
  · exact Good.pure rfl

theorem good_execOp (hP : PlainP P) (ρ : Operand → Value) (o : Oper) : Good P Rk (execOp ρ o) := by
  unfold execOp
  split
  all_goals first
    | exact Gd.val inferInstance
    | exact Gd.unit inferInstance
    | exact Good.pure trivial
    | exact Gd.next inferInstance fun d => good_invoke hP _ _
    | exact Gd.next inferInstance fun d => Good.pure trivial
    | skip
  · dsimp only
    split
    · exact good_runtimePanic _
    · exact good_runtimePanic _
    · exact good_runtimePanic _
    · split
      · exact good_runtimePanic _
      · refine Gd.next inferInstance fun p => ?_
        refine Gd.next inferInstance fun b => ?_
        exact Good.ite (Good.bind' (inferInstance : Gd P (unsupported _ : Sem Unit)).good fun _ => Good.pure trivial) (Good.pure trivial)
      · exact Good.pure trivial
    · exact Good.pure trivial
  · exact Gd.val (Gd.bind inferInstance fun _ => inferInstance)
  · dsimp only
    refine Gd.next inferInstance fun u => ?_
    split
    · exact Gd.next inferInstance fun _ => Good.pure trivial
    · exact Good.halt _
  · dsimp only
    refine Gd.next ?_ fun u => Good.pure trivial
    exact Gd.mapM_arr (fun _ => Gd.bind inferInstance fun _ => inferInstance) _

end Go.Proofs.YtpenbkfchgeafaaGreatDoor
