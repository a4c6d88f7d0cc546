/- A goroutine's own step goes by the coming answers alone: reports, deferred calls, unwinding. -/
import Derived.Test.YtkhmooemgjichaaGw
namespace Go.Proofs.Ytkhmooemgjichaa
open Go
variable {α β γ : Type} {P : Program}

theorem SGood.pairs {Q : α → Prop} {x : Sem α} (hx : Good P Q x) {K : Result α × Array Event → GStep} (hE : ∀ r es, Ends r → SEnds (K (r, es)))
    (hok : ∀ a, Q a → ∀ es, Mild es → SGood fun w => K (.ok a w, es))
    (hhalt : ∀ h es, (∀ w, ¬ Ends (.halt h w : Result α)) → ((∀ w, Heard (.halt h w : Result α)) → Mild es) → SGood fun w => K (.halt h w, es)) :
    SGood fun w => K (x.runT P w #[]) :=
  SGood.run hx (K := fun r es => K (r, es)) hE hok hhalt

theorem SEnds.after' {es : Array Event} {s : GStep} (h : SEnds s) : SEnds (GStep.after es s) := h.after
/-- A step that runs an entry, lists what it listed, and goes on by what it yielded. -/
theorem SGood.afterRun {Q : α → Prop} {x : Sem α} (hx : Good P Q x) (fn : FuncId) {K : Result α → GStep} (hE : ∀ r, Ends r → SEnds (K r)) (hu : ∀ g w, SEnds (K (.halt (.unsupported (.initOrder g)) w)))
    (hok : ∀ a, Q a → SGood fun w => K (.ok a w)) (hh : ∀ h, (∀ w, ¬ Ends (.halt h w : Result α)) → (∀ g, h ≠ .unsupported (.initOrder g)) → SGood fun w => K (.halt h w)) :
    SGood fun w => GStep.after (seen P fn (x.runT P w #[]).2) (K (x.runT P w #[]).1) := by
  refine SGood.run hx (K := fun r es => GStep.after (seen P fn es) (K r)) (fun r es h => (hE r h).after) (fun a ha es hm => SGood.after (hm.seen fn) (hok a ha)) fun h es hn hm => ?_
  by_cases hi : ∃ g, h = .unsupported (.initOrder g)
  · obtain ⟨g, rfl⟩ := hi
    exact SGood.ended fun w => (hu g w).after
  · refine SGood.after ((hm fun w => ?_).seen fn) (hh h hn fun g e => hi ⟨g, e⟩)
    rcases ends_dead (w := w) hn with ⟨v, rfl⟩ | ⟨c, rfl⟩ | rfl | ⟨m, rfl⟩ | ⟨m, rfl⟩ | ⟨g, rfl⟩ <;> first | trivial | exact absurd ⟨_, rfl⟩ hi

theorem SEnds.on {s : GStep} {τ : Tp} {d : Nat} (h : SEnds (sOn τ d s)) : SEnds s := by cases s <;> exact h
theorem SGood.orEnds {f f' : World → GStep} (h : SGood f') (e : ∀ w, f w = f' w ∨ (SEnds (f w) ∧ SEnds (f' w))) : SGood f := by
  intro w
  by_cases hE : SEnds (f' w)
  · left
    rcases e w with e | e
    · rw [e]; exact hE
    · exact e.1
  have e0 : f w = f' w := (e w).elim id fun x => absurd x.2 hE
  rcases h w with hE' | hF
  · exact absurd hE' hE
  · obtain ⟨m, h1, h2, h3⟩ := hF.loc
    refine .inr ⟨⟨m, by rw [e0]; exact h1, by rw [e0]; exact h2, fun τ d ha => ?_⟩, by rw [e0]; exact hF.mild, by rw [e0]; exact hF.kind⟩
    rw [e0, ← h3 τ d ha]
    refine (e (On w τ d)).elim id fun x => absurd ?_ hE
    have := x.2
    rw [h3 τ d ha] at this
    exact this.on

theorem GoodH.mark_enable {f : Unit → Sem β} {R : β → Prop} (h : Good P R (f ())) : GoodH P R (Go.mark .enable >>= f) := GoodH.enable h

theorem good_writeOn (fr : Frame) (d : Dying) (f : Fatal) (h : PlainT fr.todo) : SGood fun w => writeOn P fr d f w := by
  unfold writeOn
  dsimp only
  split
  · exact SGood.ended fun _ => trivial
  · rename_i piece rest _
    refine SGood.pairs (P := P) (Q := fun _ => True) (K := fun (x : Result Unit × Array Event) => match x with
      | (.ok _ w, es) => .go { frame := fr, callers := [], status := .running, dying := some { d with fatal := some { f with pieces := rest, begun := true } } } w es
      | (.halt .blocked w, _) => .go { frame := fr, callers := [], status := .blocked, dying := some { d with fatal := some f } } w #[]
      | (.halt (.unsupported u) w, _) => .ended (.unsupported u "") w
      | (.halt _ w, _) => .ended (.stuck "the report of a fatal error" "") w) ?_ ?_ ?_ ?_
    · have hw : Good P (fun _ => True) (do
          match ← sys (.write 2 piece) with
          | .int n => if n != piece.size then unsupported (.noEntry "a report that its descriptor cannot take whole")
          | .err _ => pure ()
          | _ => unsupported (.noEntry "a report that its descriptor cannot take whole") : Sem Unit) := by
        refine Good.sys _ (fun w es => trivial) fun r => ?_
        cases r
        case int n => exact Good.ite (Good.halt _) (Good.pure trivial)
        case err => exact Good.pure trivial
        all_goals exact Good.halt _
      have htail : Good P (fun _ => True) (do
          if piece.size > 65536 then unsupported (.noEntry "a report of more than 65536 bytes")
          match ← sys (.write 2 piece) with
          | .int n => if n != piece.size then unsupported (.noEntry "a report that its descriptor cannot take whole")
          | .err _ => pure ()
          | _ => unsupported (.noEntry "a report that its descriptor cannot take whole") : Sem Unit) :=
        Good.ite (Good.bind' (Good.halt _) fun _ => hw) hw
      have hon : GoodH P (fun _ => True) (do
          if f.whole then store (printLock (← program)) (.bool true) .atomic
          mark .enable
          if piece.size > 65536 then unsupported (.noEntry "a report of more than 65536 bytes")
          match ← sys (.write 2 piece) with
          | .int n => if n != piece.size then unsupported (.noEntry "a report that its descriptor cannot take whole")
          | .err _ => pure ()
          | _ => unsupported (.noEntry "a report that its descriptor cannot take whole") : Sem Unit) :=
        GoodH.ite (GoodH.bind inferInstance Dead.program fun p => GoodH.bind inferInstance (Dead.storeBool _ _ _) fun _ => GoodH.enable htail) (GoodH.enable htail)
      exact Good.ite (Good.disable (GoodH.bind inferInstance Dead.held fun b => GoodH.ite GoodH.blocked hon)) htail
    · intro r es he
      cases r with
      | ok => exact he.elim
      | halt x w => cases x <;> first | trivial | exact .inl rfl
    · intro a _ es hm
      exact SGood.go rfl (PlainG.mk' h fun _ hx => by cases hx) hm
    · intro x es hn _
      cases x
      case blocked => exact absurd trivial (hn default)
      all_goals exact SGood.ended fun _ => trivial

theorem good_die (hP : PlainP P) (fr : Frame) (d : Dying) (h : PlainT fr.todo) : SGood fun w => die P fr d w := by
  have hgo : ∀ d : Dying, SGood fun w => GStep.go { frame := fr, callers := [], status := .running, dying := some d } w := fun d => SGood.go rfl (PlainG.mk' h fun _ hx => by cases hx) mild_nil
  unfold die
  split
  · exact good_writeOn _ _ _ h
  · split
    · intro w
      left
      dsimp only
      split
      · exact .inl rfl
      · exact endWith_ends _ _ _ _
    · rename_i v mark rest _
      dsimp only
      split
      · exact hgo _
      · rename_i s _
        exact SGood.runs (P := P) (x := withAddress s) inferInstance (K := fun s w => GStep.go { frame := fr, callers := [], status := .running, dying := some { d with todo := rest, pending := mark, texts := (s, mark) :: d.texts } } w) (H := fun _ w => .ended (.stuck "report: an address" "") w) (fun a => hgo _) fun _ _ => trivial
      · rename_i t recv name _
        let K : Result Next → GStep := fun (r : Result Next) => match r with
          | .ok (.enter f args) w =>
            .go { frame := Frame.enter P f args .report, callers := [], status := .running, dying := some { d with todo := rest, pending := mark, calling := true, hand := some v } } w
          | .ok (.value (.string s)) w =>
            .go { frame := fr, callers := [], status := .running, dying := some { d with todo := rest, pending := mark, texts := (s, mark) :: d.texts } } w
          | .halt (.unsupported u) w => .ended (.unsupported u "the report of an uncaught panic") w
          | .halt (.panic v) w => endPrinting P fr v w
          | _ => .ended (.stuck "report: Error or String returned no string" "") default
        refine SGood.orEnds (f' := fun w => GStep.after (seen P fr.fn ((invoke (.fn (.method name) #[]) #[.iface t recv]).runT P w #[]).2) (K ((invoke (.fn (.method name) #[]) #[.iface t recv]).runT P w #[]).1)) (SGood.afterRun (good_invoke hP _ _) fr.fn (K := K) ?_ ?_ ?_ ?_) ?_
        · intro r he
          cases r with
          | ok => exact he.elim
          | halt x w => cases x <;> first | trivial | exact he.elim
        · exact fun _ _ => trivial
        · intro a ha
          cases a
          case enter f args => exact SGood.go rfl (PlainG.mk' (plain_enter _ _ _) fun _ hx => by cases hx) mild_nil
          case value v =>
            cases v
            case string => exact hgo _
            all_goals exact SGood.ended fun _ => trivial
          all_goals exact SGood.ended fun _ => trivial
        · intro x hn _
          cases x
          case panic v => exact good_endPrinting _ _ h
          all_goals exact SGood.ended fun _ => trivial
        · intro w
          generalize (invoke (.fn (.method name) #[]) #[.iface t recv]).runT P w #[] = x
          obtain ⟨r, es⟩ := x
          dsimp only
          cases r with
          | ok a w' =>
            cases a
            case enter f args => exact .inl rfl
            case value v =>
              cases v
              case string => exact .inl rfl
              all_goals exact .inr ⟨trivial, trivial⟩
            all_goals exact .inr ⟨trivial, trivial⟩
          | halt x w' =>
            cases x
            case panic => exact .inl rfl
            case unsupported => exact .inl rfl
            all_goals exact .inr ⟨trivial, trivial⟩
      · exact SGood.ended fun _ => trivial
end Go.Proofs.Ytkhmooemgjichaa
