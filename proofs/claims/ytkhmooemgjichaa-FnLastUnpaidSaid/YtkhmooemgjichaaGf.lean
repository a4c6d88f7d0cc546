/- What an operation yields: of a program whose functions without a body are good. -/
import Derived.Test.YtkhmooemgjichaaGd
namespace Go.Proofs.Ytkhmooemgjichaa

section
open Go
variable {α β : Type} {P : Program}

theorem Gd.ite {c : Prop} [Decidable c] {x y : Sem α} (hx : Gd P x) (hy : Gd P y) : Gd P (if c then x else y) := by
  split
  · exact hx
  · exact hy
instance gd_ite {c : Prop} [Decidable c] {x y : Sem α} [hx : Gd P x] [hy : Gd P y] : Gd P (if c then x else y) := by
  split
  · exact hx
  · exact hy

set_option maxHeartbeats 2000000 in
instance gd_Builtin_append_ : ∀ x0 x1 x2, Gd P (Go.Builtin.append_ x0 x1 x2) := by
  intros
  unfold Go.Builtin.append_
  repeat' first
    | infer_instance
    | refine Gd.bind ?_ fun _ => ?_
    | refine Gd.map _ ?_
    | refine Gd.ite ?_ ?_
    | intro _
    | split
    | dsimp only [Function.comp]

set_option maxHeartbeats 2000000 in
instance gd_movedNumber : ∀ x0 x1 x2, Gd P (Go.movedNumber x0 x1 x2) := by
  intros
  unfold Go.movedNumber
  repeat' first
    | infer_instance
    | refine Gd.bind ?_ fun _ => ?_
    | refine Gd.map _ ?_
    | refine Gd.ite ?_ ?_
    | intro _
    | split
    | dsimp only [Function.comp]

set_option maxHeartbeats 2000000 in
instance gd_movedPointer : ∀ x0 x1 x2, Gd P (Go.movedPointer x0 x1 x2) := by
  intros
  unfold Go.movedPointer
  repeat' first
    | infer_instance
    | refine Gd.bind ?_ fun _ => ?_
    | refine Gd.map _ ?_
    | refine Gd.ite ?_ ?_
    | intro _
    | split
    | dsimp only [Function.comp]

set_option maxHeartbeats 2000000 in
instance gd_eqGuard : ∀ x0 x1 x2 x3 x4 x5, Gd P (Go.eqGuard x0 x1 x2 x3 x4 x5) := by
  intros
  unfold Go.eqGuard
  repeat' first
    | infer_instance
    | refine Gd.bind ?_ fun _ => ?_
    | refine Gd.map _ ?_
    | refine Gd.ite ?_ ?_
    | intro _
    | split
    | dsimp only [Function.comp]

set_option maxHeartbeats 2000000 in
instance gd_binOp : ∀ x0 x1 x2 x3, Gd P (Go.binOp x0 x1 x2 x3) := by
  intros
  unfold Go.binOp
  repeat' first
    | infer_instance
    | refine Gd.bind ?_ fun _ => ?_
    | refine Gd.map _ ?_
    | refine Gd.ite ?_ ?_
    | intro _
    | split
    | dsimp only [Function.comp]

set_option maxHeartbeats 2000000 in
instance gd_convert : ∀ x0 x1 x2, Gd P (Go.convert x0 x1 x2) := by
  intros
  unfold Go.convert
  repeat' first
    | infer_instance
    | refine Gd.bind ?_ fun _ => ?_
    | refine Gd.map _ ?_
    | refine Gd.ite ?_ ?_
    | intro _
    | split
    | dsimp only [Function.comp]

set_option maxHeartbeats 2000000 in
instance gd_resolve : ∀ x0 x1 x2, Gd P (Go.resolve x0 x1 x2) := by
  intros
  unfold Go.resolve
  repeat' first
    | infer_instance
    | refine Gd.bind ?_ fun _ => ?_
    | refine Gd.map _ ?_
    | refine Gd.ite ?_ ?_
    | intro _
    | split
    | dsimp only [Function.comp]

end

open Go
variable {α β : Type} {P : Program}

/-- What an operation may yield. -/
def Rk : Next → Prop
  | .value _ | .skip | .enter .. | .round .. | .defer _ | .recover | .spawn _ | .comm .. => True
  | .coroswitch _ e => e = true
  | .row r _ => r = "runtime.print$piece"
  | _ => False

theorem Gd.val {s : Sem Value} (h : Gd P s) : Good P Rk (do pure (.value (← s)) : Sem Next) := Good.bind' h.good fun _ => Good.pure trivial
theorem Gd.unit {s : Sem Unit} (h : Gd P s) : Good P Rk (do s; pure .skip : Sem Next) := Good.bind' h.good fun _ => Good.pure trivial
theorem Gd.next {s : Sem α} {f : α → Sem Next} (h : Gd P s) (hf : ∀ a, Good P Rk (f a)) : Good P Rk (s >>= f) := Good.bind' h.good fun a => hf a

/-- A function without a body whose entry is good; no other that is. -/
def FnOk (P : Program) (fn : Func) : Prop :=
  (fn.name == "runtime.NumGoroutine") = false ∧ (fn.body.isNone = true → (∀ e, Extern.findNext fn = some e → ∀ args, Good P Rk (e args)) ∧ (∀ e, Extern.find fn = some e → ∀ args, Gd P (e args)))
def PlainP (P : Program) : Prop := ∀ (f : FuncId) (fn : Func), P.funcs[f]? = some fn → FnOk P fn

theorem good_callFunc (hP : PlainP P) (f : FuncId) (args : Array Value) : Good P Rk (callFunc f args) := by
  unfold callFunc
  refine Good.program ?_
  show Good P Rk (Sem.bind (Sem.pure P) _)
  show Good P Rk (match P.funcs[f]? with | none => _ | some fn => _)
  split
  · exact Good.halt _
  · rename_i fn hfn
    have h := hP f fn hfn
    split
    · rename_i hn; rw [h.1] at hn; cases hn
    · split
      · rename_i hb
        refine Gd.next (gd_extern f) fun _ => ?_
        split
        · rename_i e he
          exact (h.2 hb).1 e he args
        · split
          · rename_i e he
            exact Gd.val ((h.2 hb).2 e he args)
          · split
            · exact Good.pure trivial
            · exact Good.halt _
      · exact Good.pure trivial

theorem Good.haltS {Q : α → Prop} (s : String) : Good P Q (stuck s : Sem α) := Good.halt _
theorem Good.haltU {Q : α → Prop} (u : Unsupported) : Good P Q (unsupported u : Sem α) := Good.halt _
theorem good_runtimePanic {Q : α → Prop} (e : RuntimeError) : Good P Q (runtimePanic e : Sem α) := by
  unfold runtimePanic
  refine Good.bind' (inferInstance : Gd P Go.program).good fun p => ?_
  cases e
  case typeAssertion i c a m =>
    refine Good.bind' (inferInstance : Gd P (elemOf _)).good fun _ => Good.bind' (inferInstance : Gd P (newVar _ _)).good fun _ => Good.halt _
  case panicNil =>
    refine Good.bind' (inferInstance : Gd P (elemOf _)).good fun _ => Good.bind' (inferInstance : Gd P (newVar _ _)).good fun _ => Good.halt _
  all_goals exact Good.halt _

theorem good_callMethod (hP : PlainP P) (recv : Value) (name : String) (args : Array Value) : Good P Rk (callMethod recv name args) := by
  unfold callMethod
  split
  · refine Gd.next inferInstance fun p => ?_
    refine Gd.next inferInstance fun x => ?_
    exact good_callFunc hP _ _
  · exact good_runtimePanic _
  · exact Good.halt _

/-- An entry that yields, or ends the run, or lists nothing that is kept. -/
def Dead {α : Type} (P : Program) (x : Sem α) : Prop := ∀ w es, Ends (x.runT P w es).1 ∨ ¬ Heard (x.runT P w es).1 ∨ ∃ a w', (x.runT P w es).1 = .ok a w'
theorem Dead.pure (a : α) : Dead P (Pure.pure a : Sem α) := fun w _ => .inr (.inr ⟨a, w, rfl⟩)
theorem Dead.bind {x : Sem α} {f : α → Sem β} (hx : Dead P x) (hf : ∀ a, Dead P (f a)) : Dead P (x >>= f) := by
  intro w es
  have e : (x >>= f).runT P w es = match x.runT P w es with
      | (.ok a w', es') => (f a).runT P w' es'
      | (.halt h w', es') => (.halt h w', es') := Sem.runT_bind' P x f w es
  have h := hx w es
  rcases hr : x.runT P w es with ⟨r, es'⟩
  rw [hr] at h e
  rw [e]
  cases r with
  | halt h' w' =>
    rcases h with h | h | ⟨a, w2, h⟩
    · exact .inl (ends_any h)
    · exact .inr (.inl fun x => h (heard_any x))
    · cases h
  | ok a w' => exact hf a w' es'
theorem Dead.ends (h : Halt) (hh : ∀ w, Ends (.halt h w : Result α)) : Dead P (Sem.halt h : Sem α) := fun w _ => .inl (hh w)
theorem noCell_dead (w : World) (a : Addr) (s : String) : (∃ u, w.noCell a s = .unsupported u) ∨ ∃ t, w.noCell a s = .stuck t := by
  unfold World.noCell
  split
  · exact .inl ⟨_, rfl⟩
  · exact .inl ⟨_, rfl⟩
  · exact .inr ⟨_, rfl⟩
theorem farLoad_error {w : World} {a : Addr} {m : Bool} {h : Halt} (e : w.farLoad P a m = .error h) : (∃ u, h = .unsupported u) ∨ ∃ t, h = .stuck t := by
  unfold World.farLoad at e
  split at e
  · split at e
    · cases e
    · exact .inl ⟨_, (Except.error.inj e).symm⟩
  · rw [← Except.error.inj e]; exact noCell_dead _ _ _
theorem farStore_error {w : World} {a : Addr} {v : Value} {m : Bool} {h : Halt} (e : w.farStore P a v m = .error h) : (∃ u, h = .unsupported u) ∨ ∃ t, h = .stuck t := by
  unfold World.farStore at e
  split at e
  · split at e
    · cases e
    · exact .inl ⟨_, (Except.error.inj e).symm⟩
  · rw [← Except.error.inj e]; exact noCell_dead _ _ _
theorem Dead.load (a : Addr) (m : Mode) : Dead P (Go.load a m) := by
  intro w es
  show Ends ((Sem.load m a Sem.pure).runT P w es).1 ∨ ¬ Heard ((Sem.load m a Sem.pure).runT P w es).1 ∨ ∃ x w', ((Sem.load m a Sem.pure).runT P w es).1 = .ok x w'
  simp only [Sem.runT]
  cases hc : w.cell? a with
  | some v => exact .inr (.inr ⟨v, w, rfl⟩)
  | none =>
    dsimp only
    cases hf : w.farLoad P a (m == Mode.atomic) with
    | ok x => obtain ⟨v, t⟩ := x; exact .inr (.inr ⟨v, w, rfl⟩)
    | error h =>
      rcases farLoad_error hf with ⟨u, rfl⟩ | ⟨t, rfl⟩
      · exact .inr (.inl fun x => x)
      · exact .inl trivial
theorem Dead.storeBool (a : Addr) (b : Bool) (m : Mode) : Dead P (Go.store a (.bool b) m) := by
  intro w es
  show Ends ((Sem.store m a (.bool b) (Sem.pure ())).runT P w es).1 ∨ ¬ Heard ((Sem.store m a (.bool b) (Sem.pure ())).runT P w es).1 ∨ ∃ x w', ((Sem.store m a (.bool b) (Sem.pure ())).runT P w es).1 = .ok x w'
  simp only [Sem.runT]
  cases hc : w.cell? a with
  | some v =>
    dsimp only
    split
    · exact .inr (.inl fun x => x)
    · exact .inr (.inr ⟨_, _, rfl⟩)
  | none =>
    dsimp only
    cases hf : w.farStore P a (.bool b) (m == Mode.atomic) with
    | ok x => obtain ⟨v, t⟩ := x; exact .inr (.inr ⟨_, _, rfl⟩)
    | error h =>
      rcases farStore_error hf with ⟨u, rfl⟩ | ⟨t, rfl⟩
      · exact .inr (.inl fun x => x)
      · exact .inl trivial

theorem Dead.held : Dead P Extern.PrintPieces.held := by
  unfold Extern.PrintPieces.held
  refine Dead.bind (fun w es => .inr (.inr ⟨P, w, rfl⟩)) fun p => Dead.bind (Dead.load _ _) fun v => ?_
  cases v
  case bool => exact Dead.pure _
  all_goals exact Dead.ends _ fun _ => trivial
instance gd_held : Gd P Extern.PrintPieces.held := by
  unfold Extern.PrintPieces.held
  refine Gd.bind inferInstance fun p => Gd.bind inferInstance fun v => ?_
  cases v <;> infer_instance

theorem good_writeFd (fd : Nat) (b : ByteArray) : Gd P (writeFd fd b) := by
  constructor
  unfold writeFd
  refine Good.sys _ (fun w es => trivial) fun r => ?_
  cases r <;> exact Good.any (Q := fun _ => True) (Good.mono (show Good P (fun _ => True) _ from (inferInstance : Gd P _).good) fun _ _ => trivial)

/-- .. an entry at whose beginning its goroutine is deaf once more than at its end. -/
structure FitsH {α : Type} (P : Program) (Q : α → Prop) (x : Sem α) (w : World) (es : Array Event) : Prop where
  loc : ∃ m, (Rw (x.runT P w es).1).tape = w.tape ∧ (Rw (x.runT P w es).1).drawn = w.drawn + m ∧
    ∀ τ d, Agr τ d w m → x.runT P (On w τ d) es = (rOn τ (d + m) (x.runT P w es).1, (x.runT P w es).2)
  bal : Heard (x.runT P w es).1 → ∀ d, deafBehind d (x.runT P w es).2 = deafBehind d es - 1
  out : ∀ a w', (x.runT P w es).1 = .ok a w' → Q a
def GoodH {α : Type} (P : Program) (Q : α → Prop) (x : Sem α) : Prop := ∀ w es, Ends (x.runT P w es).1 ∨ FitsH P Q x w es

section
variable {Q : α → Prop} {R : β → Prop}
theorem GoodH.enable {f : Unit → Sem β} (h : Good P R (f ())) : GoodH P R (Go.mark .enable >>= f) := by
  intro w es
  have e : ∀ w, (Go.mark .enable >>= f).runT P w es = (f ()).runT P w (es.push ⟨.mark .enable, false, true⟩) := fun w => rfl
  rcases h w (es.push ⟨.mark .enable, false, true⟩) with hE | hF
  · left; rw [e]; exact hE
  · right
    obtain ⟨m, h1, h2, h3⟩ := hF.loc
    refine ⟨⟨m, by rw [e]; exact h1, by rw [e]; exact h2, fun τ d ha => by rw [e, e]; exact h3 τ d ha⟩, fun hh d => ?_, fun a w2 => by rw [e]; exact hF.out a w2⟩
    rw [e] at hh ⊢
    rw [hF.bal hh d]
    unfold deafBehind
    rw [Array.foldl_push]
theorem GoodH.blocked {f : α → Sem β} : GoodH P R (Sem.halt .blocked >>= f) := fun _ _ => .inl trivial
theorem GoodH.bind {x : Sem α} {f : α → Sem β} (hx : Gd P x) (hd : Dead P x) (hf : ∀ a, GoodH P R (f a)) : GoodH P R (x >>= f) := by
  intro w es
  have e : ∀ w, (x >>= f).runT P w es = match x.runT P w es with
      | (.ok a w', es') => (f a).runT P w' es'
      | (.halt h w', es') => (.halt h w', es') := fun w => Sem.runT_bind' P x f w es
  have hxx := hx.good w es
  have hdd := hd w es
  rcases hr : x.runT P w es with ⟨r, es'⟩
  rw [hr] at hdd
  have e1 := e w
  rw [hr] at e1
  cases r with
  | halt h w' =>
    dsimp only at e1
    rcases hdd with hE | hN | ⟨a, w2, h0⟩
    · left; rw [e1]; exact ends_any hE
    · rcases hxx with hE | hF
      · left; rw [e1]; rw [hr] at hE; exact ends_any hE
      · right
        obtain ⟨m, h1, h2, h3⟩ := hF.loc
        rw [hr] at h1 h2 h3
        refine ⟨⟨m, by rw [e1]; exact h1, by rw [e1]; exact h2, fun τ d ha => ?_⟩, fun hh => ?_, fun b w2 hb => ?_⟩
        · rw [e1, e, h3 τ d ha]; rfl
        · rw [e1] at hh
          exact absurd (heard_any hh) hN
        · rw [e1] at hb; cases hb
    · cases h0
  | ok a w' =>
    dsimp only at e1
    rcases hxx with hE | hF
    · rw [hr] at hE; exact hE.elim
    · obtain ⟨m, h1, h2, h3⟩ := hF.loc
      rw [hr] at h1 h2 h3
      rcases hf a w' es' with hE | hG
      · left; rw [e1]; exact hE
      · right
        obtain ⟨n, g1, g2, g3⟩ := hG.loc
        refine ⟨⟨m + n, by rw [e1, g1]; exact h1, by rw [e1, g2]; show w'.drawn + n = _; rw [show w'.drawn = w.drawn + m from h2]; omega, fun τ d hag => ?_⟩, fun hh d => ?_, fun b w2 hb => ?_⟩
        · rw [e1, e, h3 τ d hag.fst]
          show (f a).runT P (On w' τ (d + m)) es' = _
          rw [g3 τ (d + m) (Agr.snd hag h1 h2), Nat.add_assoc]
        · rw [e1] at hh ⊢
          rw [hG.bal hh d]
          have := hF.bal (by rw [hr]; trivial) d
          rw [hr] at this
          rw [show deafBehind d es' = _ from this]
        · rw [e1] at hb
          exact hG.out b w2 hb
theorem GoodH.ite {c : Prop} [Decidable c] {x y : Sem β} (hx : GoodH P R x) (hy : GoodH P R y) : GoodH P R (if c then x else y) := by
  split
  · exact hx
  · exact hy
theorem Good.ite {c : Prop} [Decidable c] {x y : Sem β} (hx : Good P R x) (hy : Good P R y) : Good P R (if c then x else y) := by
  split
  · exact hx
  · exact hy
theorem Good.disable {f : Unit → Sem β} (h : GoodH P R (f ())) : Good P R (Go.mark .disable >>= f) := by
  intro w es
  have e : ∀ w, (Go.mark .disable >>= f).runT P w es = (f ()).runT P w (es.push ⟨.mark .disable, false, true⟩) := fun w => rfl
  rcases h w (es.push ⟨.mark .disable, false, true⟩) with hE | hF
  · left; rw [e]; exact hE
  · right
    obtain ⟨m, h1, h2, h3⟩ := hF.loc
    refine ⟨⟨m, by rw [e]; exact h1, by rw [e]; exact h2, fun τ d ha => by rw [e, e]; exact h3 τ d ha⟩, fun hh d => ?_, fun a w2 => by rw [e]; exact hF.out a w2⟩
    rw [e] at hh ⊢
    rw [hF.bal hh d]
    have : deafBehind d (es.push ⟨.mark .disable, false, true⟩) = deafBehind d es + 1 := by unfold deafBehind; rw [Array.foldl_push]
    omega
end
theorem Dead.program : Dead P Go.program := fun w _ => .inr (.inr ⟨P, w, rfl⟩)

theorem good_piece (x y : Array TypeId) (args : Array Value) : Good P Rk (Extern.PrintPieces.piece x y args) := by
  have hend : Good P Rk (do Go.mark .disable; let p ← Go.program; Go.store (printLock p) (.bool false) .atomic; Go.mark .enable; pure (.value (.tuple #[])) : Sem Next) :=
    Good.disable (GoodH.bind inferInstance Dead.program fun p => GoodH.bind inferInstance (Dead.storeBool _ _ _) fun _ => GoodH.enable (Good.pure trivial))
  unfold Extern.PrintPieces.piece
  split
  · split
    · dsimp only
      have htail : ∀ (b : Bool) (p : ByteArray) (f : Bool), Good P Rk (do
          writeFd 2 p
          if b = true then pure (Next.row "runtime.print$piece" (#[Value.bool false] ++ args.extract 2)) else
            if f = true then do Go.mark .disable; let p ← Go.program; Go.store (printLock p) (.bool false) .atomic; Go.mark .enable; pure (.value (.tuple #[])) else pure (.value (.tuple #[])) : Sem Next) := fun b p f =>
        Gd.next (good_writeFd _ _) fun _ => Good.ite (Good.pure rfl) (Good.ite hend (Good.pure trivial))
      refine Good.ite (Good.bind' (inferInstance : Gd P (unsupported _ : Sem Unit)).good fun _ => ?_) ?_
      all_goals
        refine Good.ite (Good.disable (GoodH.bind inferInstance Dead.held fun b => GoodH.ite GoodH.blocked (GoodH.ite ?_ ?_))) (htail _ _ _)
        · exact GoodH.bind inferInstance Dead.program fun _ => GoodH.bind inferInstance (Dead.storeBool _ _ _) fun _ => GoodH.enable (htail _ _ _)
        · exact GoodH.enable (htail _ _ _)
    · exact Good.halt _
  · exact Good.halt _

theorem Gd.forIn'_list {l₀ : List α} {f : (a : α) → a ∈ l₀ → β → Sem (ForInStep β)} (h : ∀ a ha b, Gd P (f a ha b)) (b : β) : Gd P (forIn' l₀ b f) := by
  induction l₀ generalizing b with
  | nil => rw [List.forIn'_nil]; infer_instance
  | cons a l ih =>
    rw [List.forIn'_cons]
    refine Gd.bind (h _ _ _) fun x => ?_
    cases x with
    | done b => infer_instance
    | yield b => exact ih (fun a ha b => h _ _ _) b
theorem Gd.forIn'_range {r : Std.Legacy.Range} {f : (i : Nat) → i ∈ r → β → Sem (ForInStep β)} (h : ∀ a ha b, Gd P (f a ha b)) (b : β) : ∀ _ : Unit, Gd P (forIn' r b f) := by
  intro _
  rw [Std.Legacy.Range.forIn'_eq_forIn'_range']
  exact Gd.forIn'_list (fun a ha b => h _ _ _) b

set_option maxHeartbeats 800000 in
instance gd_Builtin_pieces : ∀ x0 x1 x2 x3, Gd P (Go.Builtin.pieces x0 x1 x2 x3) := by
  intros
  unfold Go.Builtin.pieces
  refine Gd.bind ?_ fun _ => ?_
  · refine Gd.forIn'_range (fun i h b => ?_) _ ()
    repeat' first
      | infer_instance
      | refine Gd.bind ?_ fun _ => ?_
      | refine Gd.forIn_arr (fun _ _ => ?_) _ _
      | intro _
      | split
      | dsimp only [Function.comp]
  · repeat' first
      | infer_instance
      | refine Gd.ite ?_ ?_
      | dsimp only
theorem good_printMarked (ln : Bool) (c : Array Bool) (t : Array TypeId) (a : Array Value) : Good P Rk (Builtin.printMarked ln c t a) := by
  unfold Builtin.printMarked
  refine Gd.next inferInstance fun ps => ?_
  exact Good.ite (Good.pure trivial) (good_piece _ _ _)

theorem good_builtin (b : Builtin) (t : Array TypeId) (ty : TypeId) (c : Array Bool) (args : Array Value) : Good P Rk (builtin b t ty c args) := by
  unfold builtin
  cases b
  case print => exact good_printMarked _ _ _ _
  case println => exact good_printMarked _ _ _ _
  case recover => exact Good.pure trivial
  case make => exact Good.halt _
  case new => exact Good.halt _
  case unsafeAlignof => exact Good.halt _
  case unsafeOffsetof => exact Good.halt _
  case unsafeSizeof => exact Gd.next inferInstance fun _ => Good.pure trivial
  all_goals exact Gd.val inferInstance

theorem good_yield (l : Nat) (args : Array Value) : Good P Rk (Instr.yield l args) := by
  unfold Instr.yield
  refine Gd.next inferInstance fun r => ?_
  exact Good.ite (Good.bind' (inferInstance : Gd P (stuck _ : Sem Unit)).good fun _ => Good.pure trivial) (Good.pure trivial)

theorem good_invoke (hP : PlainP P) (t : Target) (args : Array Value) : Good P Rk (invoke t args) := by
  unfold invoke
  split
  · exact good_runtimePanic _
  · exact good_builtin _ _ _ _ _
  · exact good_callFunc hP _ _
  · split
    · exact good_callMethod hP _ _ _
    · exact Good.halt _
  · split
    · refine Gd.next inferInstance fun u => ?_
      exact good_callMethod hP _ _ _
    · exact Good.halt _
  · split
    · exact Gd.next inferInstance fun u => good_callFunc hP _ _
    · exact Good.halt _
  · exact good_yield _ _
  · exact Good.halt _
  · exact Good.pure rfl

theorem good_execOp (hP : PlainP P) (ρ : Operand → Value) (o : Oper) : Good P Rk (execOp ρ o) := by
  unfold execOp
  split
  all_goals first
    | exact Gd.val inferInstance
    | exact Gd.unit inferInstance
    | exact Good.pure trivial
    | exact Gd.next inferInstance fun d => good_invoke hP _ _
    | exact Gd.next inferInstance fun d => Good.pure trivial
    | skip
  · dsimp only
    split
    · exact good_runtimePanic _
    · exact good_runtimePanic _
    · exact good_runtimePanic _
    · split
      · exact good_runtimePanic _
      · refine Gd.next inferInstance fun p => ?_
        refine Gd.next inferInstance fun b => ?_
        exact Good.ite (Good.bind' (inferInstance : Gd P (unsupported _ : Sem Unit)).good fun _ => Good.pure trivial) (Good.pure trivial)
      · exact Good.pure trivial
    · exact Good.pure trivial
  · exact Gd.val (Gd.bind inferInstance fun _ => inferInstance)
  · dsimp only
    refine Gd.next inferInstance fun u => ?_
    split
    · exact Gd.next inferInstance fun _ => Good.pure trivial
    · exact Good.halt _
  · dsimp only
    refine Gd.next ?_ fun u => Good.pure trivial
    exact Gd.mapM_arr (fun _ => Gd.bind inferInstance fun _ => inferInstance) _

end Go.Proofs.Ytkhmooemgjichaa
