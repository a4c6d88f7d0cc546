/- A goroutine's own step goes by the coming answers alone: deferred calls, unwinding, what an operation does. -/
import Derived.Test.YtkhmooemgjichaaGx
namespace Go.Proofs.Ytkhmooemgjichaa
open Go
variable {α β γ : Type} {P : Program}

theorem SGood.comm {g : Goroutine} {cs : Array CommCase} {b : Bool} {sh : CommShape} (hs : g.status = .running) (hp : PlainG g) : SGood fun w => .comm g cs b sh w :=
  fun _ => .inr ⟨⟨0, rfl, rfl, fun _ _ _ => rfl⟩, mild_nil, hs, hp⟩
theorem SGood.spawn {g c : Goroutine} : SGood fun w => .spawn g c w :=
  fun _ => .inr ⟨⟨0, rfl, rfl, fun _ _ _ => rfl⟩, mild_nil, trivial⟩
theorem SGood.coro {g : Goroutine} {c : Nat} (hs : g.status = .running) (hp : PlainG g) : SGood fun w => .coroswitch g c true w :=
  fun _ => .inr ⟨⟨0, rfl, rfl, fun _ _ _ => rfl⟩, mild_nil, rfl, hs, hp⟩

theorem SGood.itec {c : Prop} [Decidable c] {A B : World → GStep} (hA : SGood A) (hB : SGood B) : SGood fun w => if c then A w else B w := by
  by_cases h : c
  · simp only [h, if_true]; exact hA
  · simp only [h, if_false]; exact hB

theorem good_callDeferred (hP : PlainP P) (fr : Frame) (cs : List Frame) (dy : Option Dying) (d : Deferred) (h : PlainT fr.todo) (h' : PlainC cs) : SGood fun w => callDeferred P fr cs dy d w := by
  have hgo : ∀ fr' : Frame, PlainT fr'.todo → ∀ cs' : List Frame, PlainC cs' → SGood fun w => GStep.go { frame := fr', callers := cs', status := .running, dying := dy } w := fun fr' h cs' h' => SGood.go rfl (PlainG.mk' h h') mild_nil
  unfold callDeferred
  refine SGood.itec (SGood.ended fun _ => trivial) ?_
  refine SGood.byRun (good_invoke hP d.target d.args) ?_ ?_ ?_
  · intro w es r hr he
    simp only [hr]
    cases r with
    | ok => exact he.elim
    | halt x w => cases x <;> first | trivial | exact he.elim | exact .inl rfl | exact .inr (.inl rfl)
  · intro a ha es hm
    have hin : ∀ f' : World → GStep, SGood f' → SGood fun w => GStep.after (seen P fr.fn es) (f' w) := fun f' hf => SGood.after (hm.seen _) hf
    cases a
    case enter f args => refine ⟨_, fun w w' hr => by simp only [hr]; rfl, ?_⟩; exact hin _ (hgo _ (plain_enter _ _ _) _ (PlainC.cons h h'))
    case round => refine ⟨_, fun w w' hr => by simp only [hr]; rfl, ?_⟩; exact hin _ (hgo _ (plain_round _ _ _ _ _ _) _ (PlainC.cons h h'))
    case row => refine ⟨_, fun w w' hr => by simp only [hr]; rfl, ?_⟩; exact hin _ (hgo _ (plain_row ha _ _) _ (PlainC.cons h h'))
    case recover =>
      refine ⟨_, fun w w' hr => by simp only [hr]; rfl, ?_⟩
      refine hin _ ?_
      cases hm : fr.mode <;> cases ht : tryRecover fr cs
      case returning.some x => exact hgo _ h _ (plain_tryRecover h' ht)
      all_goals exact hgo _ h _ h'
    case coroswitch c e =>
      obtain rfl : e = true := ha
      refine ⟨_, fun w w' hr => by simp only [hr]; rfl, ?_⟩
      exact hin _ (SGood.coro rfl (PlainG.mk' h h'))
    all_goals first
      | exact ha.elim
      | (refine ⟨_, fun w w' hr => by simp only [hr]; rfl, ?_⟩; exact hin _ (hgo _ h _ h'))
  · intro x es hn hm
    have hin : (∀ w, Heard (.halt x w : Result Next)) → ∀ f' : World → GStep, SGood f' → SGood fun w => GStep.after (seen P fr.fn es) (f' w) := fun hh f' hf => SGood.after ((hm hh).seen _) hf
    rcases ends_dead (w := default) hn with ⟨v, rfl⟩ | ⟨c, rfl⟩ | rfl | ⟨m, rfl⟩ | ⟨m, rfl⟩ | ⟨g, rfl⟩
    · refine ⟨_, fun w w' hr => by simp only [hr]; rfl, ?_⟩; exact hin (fun _ => trivial) _ (hgo _ (by rw [raise_todo]; exact h) _ h')
    · refine ⟨_, fun w w' hr => by simp only [hr]; rfl, ?_⟩; exact SGood.ended fun _ => trivial
    · refine ⟨_, fun w w' hr => by simp only [hr]; rfl, ?_⟩; exact hin (fun _ => trivial) _ (hgo _ (by rw [raise_todo]; exact h) _ h')
    · refine ⟨_, fun w w' hr => by simp only [hr]; rfl, ?_⟩; exact hin (fun _ => trivial) _ (good_endFatal _ _ _ _ h)
    · refine ⟨_, fun w w' hr => by simp only [hr]; rfl, ?_⟩; exact hin (fun _ => trivial) _ (good_endThrow _ _ h)
    · refine ⟨_, fun w w' hr => by simp only [hr]; rfl, ?_⟩; exact SGood.ended fun _ => trivial

instance gd_results (fn : Func) (tmps : Array Value) : Gd P (results fn tmps) := by
  unfold results
  refine Gd.bind (Gd.mapM_arr (fun x => ?_) _) fun _ => inferInstance
  cases x
  · infer_instance
  · exact Gd.bind inferInstance fun _ => inferInstance

theorem good_unwind (hP : PlainP P) (fr : Frame) (cs : List Frame) (dy : Option Dying) (h : PlainT fr.todo) (h' : PlainC cs) : SGood fun w => unwind P true fr cs dy w := by
  unfold unwind
  split
  · rename_i block _ ds _
    refine SGood.afterRun (inferInstance : Gd P (Instr.takeDeferred block)).good fr.fn (K := fun r => match r with
      | .ok calls w => .go { frame := { fr with defers := calls ++ ds }, callers := cs, status := .running, dying := dy } w
      | .halt _ w => .ended (.stuck "the deferred calls of a range-over-func loop have been taken" (fr.pos P)) w) ?_ ?_ ?_ ?_
    · intro r he
      cases r with
      | ok => exact he.elim
      | halt => trivial
    · exact fun _ _ => trivial
    · exact fun a _ => SGood.go rfl (PlainG.mk' h h') mild_nil
    · exact fun _ _ _ => SGood.ended fun _ => trivial
  · exact good_callDeferred hP _ _ _ _ h h'
  · split
    · exact SGood.ended fun _ => trivial
    · rename_i chain _
      split
      · exact SGood.ended fun _ => trivial
      · split
        · exact SGood.go rfl (PlainG.mk' (by rw [raise_todo]; exact h'.head) h'.tail) mild_nil
        · split
          · split
            · exact SGood.ended fun _ => .inr (.inr rfl)
            · refine SGood.cong (SGood.runs (P := P) (x := reportChain chain false) inferInstance (K := fun todo w => GStep.go { frame := fr, callers := [], status := .running, dying := some { todo := todo, texts := [], calling := false, pending := "", runtimeError := isRuntimeError P (chain.head?.map (·.v)) } } w)
                (H := fun x w => (match x with | .unsupported u => .ended (.unsupported u "") w | _ => .ended (.stuck "the report of a panic" "") w : GStep)) (fun a => SGood.go rfl (PlainG.mk' h fun _ hx => by cases hx) mild_nil) fun x w => by split <;> trivial) fun w => ?_
              cases (reportChain chain false).run P w with
              | ok a w' => rfl
              | halt h' w' => cases h' <;> rfl
          · split
            · exact good_endPrinting _ _ h
            · exact SGood.ended fun _ => trivial
    · split
      · exact good_doReturn _ _ _ _ h h'
      · rename_i fn _
        let K : Result Value → GStep := fun r => match r with
          | .ok v w => doReturn P true fr cs dy v w
          | .halt (.stuck s) w => .ended (.stuck s (fr.pos P)) w
          | .halt _ w => .ended (.stuck "return: the result variables cannot be read" (fr.pos P)) w
        refine SGood.orEnds (f' := fun w => GStep.after (seen P fr.fn ((results fn fr.tmps).runT P w #[]).2) (K ((results fn fr.tmps).runT P w #[]).1))
          (SGood.afterRun (inferInstance : Gd P (results fn fr.tmps)).good fr.fn (K := K) ?_ ?_ ?_ ?_) ?_
        · intro r he
          cases r with
          | ok => exact he.elim
          | halt x => cases x <;> trivial
        · exact fun _ _ => trivial
        · exact fun a _ => good_doReturn _ _ _ _ h h'
        · intro x _ _
          cases x <;> exact SGood.ended fun _ => trivial
        · intro w
          generalize (results fn fr.tmps).runT P w #[] = x
          obtain ⟨r, es⟩ := x
          cases r with
          | ok a w' => exact .inl rfl
          | halt x w' => cases x <;> exact .inl rfl
end Go.Proofs.Ytkhmooemgjichaa
