/- A goroutine's own step goes by the coming answers alone: returns, deferred calls, reports. -/
import Derived.Test.YtkhmooemgjichaaGv
namespace Go.Proofs.Ytkhmooemgjichaa
open Go
variable {α β γ : Type} {P : Program}

theorem good_doReturn (fr : Frame) (cs : List Frame) (dy : Option Dying) (v : Value) (h : PlainT fr.todo) (h' : PlainC cs) : SGood fun w => doReturn P true fr cs dy v w := by
  cases cs with
  | cons c cs =>
    have hd : ∀ m : FrameMode, PlainT ({ c with mode := m } : Frame).todo := fun _ => h'.head
    cases hk : fr.kind
    · simp only [doReturn, hk]; exact SGood.go rfl (PlainG.mk' (plain_finish h'.head _) h'.tail) mild_nil
    case wrapped => simp only [doReturn, hk]; exact SGood.go rfl (PlainG.mk' (plain_finish h'.head _) h'.tail) mild_nil
    case early => simp only [doReturn, hk]; exact SGood.go rfl (PlainG.mk' h'.head h'.tail) mild_nil
    all_goals
      simp only [doReturn, hk]
      refine SGood.go rfl (PlainG.mk' ?_ h'.tail) mild_nil
      split
      · split <;> exact h'.head
      · exact h'.head
  | nil =>
    unfold doReturn
    dsimp only
    split
    · exact SGood.go rfl (PlainG.mk' h h') mild_nil
    · exact SGood.ended fun _ => trivial
    · simp only [Bool.not_true, if_false, Bool.false_eq_true]
      split
      · exact SGood.go rfl (PlainG.mk' (plain_enter _ _ _) fun _ hx => by cases hx) mild_nil
      · exact SGood.ended fun _ => trivial

theorem good_dieOf (fr : Frame) (a : List ByteArray) (m : String) (b : Bool) (h : PlainT fr.todo) : SGood fun w => dieOf fr a m b w := by
  unfold dieOf
  exact SGood.go rfl (PlainG.mk' h fun _ hx => by cases hx) mild_nil
theorem good_endThrow (fr : Frame) (m : String) (h : PlainT fr.todo) : SGood fun w => endThrow fr m w := good_dieOf _ _ _ _ h
theorem good_endPrinting (fr : Frame) (v : Value) (h : PlainT fr.todo) : SGood fun w => endPrinting P fr v w := by
  unfold endPrinting
  dsimp only
  split
  · exact good_endThrow _ _ h
  · exact SGood.ended fun _ => trivial

instance gd_withAddress (s : ByteArray) : Gd P (withAddress s) := by
  unfold withAddress
  exact Gd.bind inferInstance fun _ => inferInstance
instance gd_reportChain : ∀ (c : List PanicEntry) (b : Bool), Gd P (reportChain c b) := by
  intro c
  induction c with
  | nil => intro b; unfold reportChain; infer_instance
  | cons e l ih =>
    intro b
    unfold reportChain
    repeat' first
      | exact ih _
      | infer_instance
      | refine Gd.bind ?_ fun _ => ?_
      | refine Gd.ite ?_ ?_
      | intro _
      | split
      | dsimp only

/-- A step that runs an entry, and lists nothing. -/
theorem SGood.runs {x : Sem α} (hx : Gd P x) {K : α → World → GStep} {H : Halt → World → GStep} (hK : ∀ a, SGood (K a)) (hH : ∀ h w, SEnds (H h w)) :
    SGood fun w => match x.run P w with | .ok a w => K a w | .halt h w => H h w := by
  refine SGood.byRun hx.good ?_ ?_ ?_
  · intro w es r hr he
    rw [← Sem.runT_fst P _ _ #[], hr]
    cases r with
    | ok a w' => exact he.elim
    | halt h w' => exact hH h w'
  · intro a _ es _
    refine ⟨_, fun w w' hr => ?_, hK a⟩
    rw [← Sem.runT_fst P _ _ #[], hr]
  · intro h es _ _
    refine ⟨_, fun w w' hr => ?_, SGood.ended (hH h)⟩
    rw [← Sem.runT_fst P _ _ #[], hr]

theorem good_endFatal (fr : Frame) (cs : List Frame) (dy : Option Dying) (m : String) (h : PlainT fr.todo) : SGood fun w => endFatal P fr cs dy m w := by
  have hraw : ∀ vs : List (Value × String), Gd P (vs.mapM fun (x : Value × String) => match panicText P true x.1 with
      | .text s => (pure (s, x.2) : Sem (ByteArray × String))
      | .address s => do pure (← withAddress s, x.2)
      | _ => unsupported (.noEntry "a fatal error during a panic whose value the report cannot show")) := fun vs => Gd.mapM_list (fun x => by
    split
    · infer_instance
    · exact Gd.bind inferInstance fun _ => inferInstance
    · infer_instance) _
  have key : ∀ x : Sem (List (ByteArray × String) × List ByteArray), Gd P x → SGood fun w => match x.run P w with
      | .ok (texts, tabs) w => dieOf fr (panicPieces texts ++ tabs) m true w
      | .halt (.unsupported u) w => .ended (.unsupported u "") w
      | .halt _ w => .ended (.stuck "the report of a panic" "") w := by
    intro x hx
    refine SGood.cong (SGood.runs (P := P) hx (K := fun a w => dieOf fr (panicPieces a.1 ++ a.2) m true w)
      (H := fun x w => match x with | .unsupported u => .ended (.unsupported u "") w | _ => .ended (.stuck "the report of a panic" "") w) (fun a => good_dieOf _ _ _ _ h) fun x w => by split <;> trivial) fun w => ?_
    cases x.run P w with
    | ok a w' => rfl
    | halt h' w' => cases h' <;> rfl
  unfold endFatal
  dsimp only
  generalize List.flatMap _ _ = chain
  refine key _ ?_
  split
  · infer_instance
  · exact Gd.bind inferInstance fun _ => Gd.bind (hraw _) fun _ => inferInstance
  · exact Gd.bind (hraw _) fun _ => inferInstance
  · infer_instance

theorem endWith_ends (w : World) (fd : Nat) (t : ByteArray) (o : Outcome) : SEnds (endWith w fd t o) := by
  unfold endWith
  dsimp only
  split
  · split <;> trivial
  · trivial
  · trivial

theorem ends_dead {x : Halt} {w : World} (h : ∀ w, ¬ Ends (.halt x w : Result α)) : (∃ v, x = .panic v) ∨ (∃ c, x = .exit c) ∨ x = .goexit ∨ (∃ m, x = .fatal m) ∨ (∃ m, x = .throw m) ∨ ∃ g, x = .unsupported (.initOrder g) := by
  cases x
  case unsupported u =>
    cases u
    case initOrder g => exact .inr (.inr (.inr (.inr (.inr ⟨g, rfl⟩))))
    all_goals exact absurd trivial (h w)
  all_goals first
    | exact absurd trivial (h w)
    | exact .inl ⟨_, rfl⟩
    | exact .inr (.inl ⟨_, rfl⟩)
    | exact .inr (.inr (.inl rfl))
    | exact .inr (.inr (.inr (.inl ⟨_, rfl⟩)))
    | exact .inr (.inr (.inr (.inr (.inl ⟨_, rfl⟩))))
end Go.Proofs.Ytkhmooemgjichaa
