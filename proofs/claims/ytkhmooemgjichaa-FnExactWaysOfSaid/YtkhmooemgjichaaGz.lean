/- A goroutine's own step goes by the coming answers alone: whole. -/
import Derived.Test.YtkhmooemgjichaaGy
namespace Go.Proofs.Ytkhmooemgjichaa
open Go
variable {α β γ : Type} {P : Program}

theorem good_apply (fr : Frame) (cs : List Frame) (dy : Option Dying) (s : Sem Next) (hs : Good P Rk s) (h : PlainT fr.todo) (h' : PlainC cs) : SGood fun w => stepG.apply P true fr cs dy s w := by
  have hgo : ∀ fr' : Frame, PlainT fr'.todo → ∀ cs' : List Frame, PlainC cs' → SGood fun w => GStep.go { frame := fr', callers := cs', status := .running, dying := dy } w := fun fr' h cs' h' => SGood.go rfl (PlainG.mk' h h') mild_nil
  have hmild : ∀ es : Array Event, Mild es → Mild (seen P fr.fn (if (fr.kind == .early) = true then #[] else es)) := fun es he => by
    split
    · exact mild_nil.seen _
    · exact he.seen _
  have hin : ∀ f' : World → GStep, SGood f' → ∀ es, Mild es → SGood fun w => GStep.after (seen P fr.fn (if (fr.kind == .early) = true then #[] else es)) (f' w) := fun f' hf es he => SGood.after (hmild es he) hf
  unfold stepG.apply
  simp only [if_true]
  refine SGood.byRun hs ?_ ?_ ?_
  · intro w es r hr he
    simp only [hr]
    cases r with
    | ok => exact he.elim
    | halt x w' =>
      cases x
      case blocked => exact .inl rfl
      case waiting => exact .inr (.inl rfl)
      case stuck => trivial
      case unsupported u =>
        cases u
        case initOrder => exact he.elim
        all_goals trivial
      all_goals exact he.elim
  · intro a ha es hm
    cases a
    case value v => refine ⟨_, fun w w' hr => by simp only [hr]; rfl, ?_⟩; exact hin _ (hgo _ (plain_finish h _) _ h') _ hm
    case skip => refine ⟨_, fun w w' hr => by simp only [hr]; rfl, ?_⟩; exact hin _ (hgo _ (plain_finish h _) _ h') _ hm
    case enter f args => refine ⟨_, fun w w' hr => by simp only [hr]; rfl, ?_⟩; exact hin _ (hgo _ (plain_enter _ _ _) _ (PlainC.cons h h')) _ hm
    case row row args =>
      refine ⟨_, fun w w' hr => by simp only [hr]; rfl, ?_⟩; refine hin _ ?_ _ hm
      split
      · rename_i e
        refine hgo _ ?_ _ h'
        rw [e] at h
        exact PlainT.cons ha h.tail
      · exact hgo _ (plain_row ha _ _) _ (PlainC.cons h h')
    case round l f tmps assign body => refine ⟨_, fun w w' hr => by simp only [hr]; rfl, ?_⟩; exact hin _ (hgo _ (plain_round _ _ _ _ _ _) _ (PlainC.cons h h')) _ hm
    case defer d => refine ⟨_, fun w w' hr => by simp only [hr]; rfl, ?_⟩; exact hin _ (hgo _ (plain_finish (fr := { fr with defers := d :: fr.defers }) h _) _ h') _ hm
    case recover =>
      refine ⟨_, fun w w' hr => by simp only [hr]; rfl, ?_⟩; refine hin _ ?_ _ hm
      split
      · rename_i v callers e
        refine hgo _ (plain_finish h _) _ ?_
        split at e
        · split at e
          · exact plain_tryRecover h' e
          · exact plain_tryRecoverLoop h' e
        · exact plain_tryRecover h' e
      · exact hgo _ (plain_finish h _) _ h'
    case comm cases b sh => refine ⟨_, fun w w' hr => by simp only [hr]; rfl, ?_⟩; exact hin _ (SGood.comm rfl (PlainG.mk' h h')) _ hm
    case coroswitch c e =>
      obtain rfl : e = true := ha
      refine ⟨_, fun w w' hr => by simp only [hr]; rfl, ?_⟩; exact hin _ (SGood.coro rfl (PlainG.mk' h h')) _ hm
    case spawn d =>
      refine ⟨_, fun w w' hr => by simp only [hr]; rfl, ?_⟩; refine hin _ ?_ _ hm
      exact SGood.itec (good_endThrow _ _ h) SGood.spawn
    all_goals exact ha.elim
  · intro x es hn hm
    rcases ends_dead (w := default) hn with ⟨v, rfl⟩ | ⟨c, rfl⟩ | rfl | ⟨m, rfl⟩ | ⟨m, rfl⟩ | ⟨g, rfl⟩
    · refine ⟨_, fun w w' hr => by simp only [hr]; rfl, ?_⟩; exact hin _ (hgo _ (by rw [raise_todo]; exact h) _ h') _ (hm fun _ => trivial)
    · refine ⟨_, fun w w' hr => by simp only [hr]; rfl, ?_⟩; refine hin _ ?_ _ (hm fun _ => trivial); exact SGood.ended fun _ => trivial
    · refine ⟨_, fun w w' hr => by simp only [hr]; rfl, ?_⟩; exact hin _ (hgo _ (by rw [raise_todo]; exact h) _ h') _ (hm fun _ => trivial)
    · refine ⟨_, fun w w' hr => by simp only [hr]; rfl, ?_⟩; exact hin _ (good_endFatal _ _ _ _ h) _ (hm fun _ => trivial)
    · refine ⟨_, fun w w' hr => by simp only [hr]; rfl, ?_⟩; exact hin _ (good_endThrow _ _ h) _ (hm fun _ => trivial)
    · refine ⟨_, fun w w' hr => by simp only [hr]; rfl, ?_⟩; exact hin _ (good_early _ _ _ _ h h') _ mild_nil

theorem next_piece : ∃ e, Extern.next "runtime.print$piece" = some e ∧ ∀ args, Good P Rk (e args) := by
  refine ⟨_, rfl, fun args => ?_⟩
  exact good_piece _ _ _

theorem good_exec (hP : PlainP P) (fr : Frame) (cs : List Frame) (dy : Option Dying) (h : PlainT fr.todo) (h' : PlainC cs) : SGood fun w => stepG.exec P true true fr cs dy w := by
  have hgo : ∀ fr' : Frame, PlainT fr'.todo → ∀ cs' : List Frame, PlainC cs' → SGood fun w => GStep.go { frame := fr', callers := cs', status := .running, dying := dy } w := fun fr' h cs' h' => SGood.go rfl (PlainG.mk' h h') mild_nil
  have hleave : ∀ jump : Option Code, SGood fun w => (match fr.roundOf with
      | none => if jump matches none | some .ret then GStep.go { frame := { fr with mode := .returning }, callers := cs, status := .running, dying := dy } w else .ended (.stuck "exit, goto: no such block or label" (fr.pos P)) w
      | some l =>
        let (r, es) := (Instr.endRound l jump).runT P w #[]
        GStep.after (seen P fr.fn es) <| match r with
        | .ok v w => doReturn P true fr cs dy v w
        | .halt _ w => .ended (.stuck "range over a function: no such loop" (fr.pos P)) w) := by
    intro jump
    split
    · exact SGood.itec (hgo { fr with mode := .returning } h _ h') (SGood.ended fun _ => trivial)
    · rename_i l _
      exact SGood.afterRun (inferInstance : Gd P (Instr.endRound l jump)).good fr.fn (K := fun r => match r with
        | .ok v w => doReturn P true fr cs dy v w
        | .halt _ w => .ended (.stuck "range over a function: no such loop" (fr.pos P)) w) (fun r he => by cases r with
          | ok => exact he.elim
          | halt => trivial) (fun _ _ => trivial) (fun a _ => good_doReturn _ _ _ _ h h') (fun _ _ _ => SGood.ended fun _ => trivial)
  unfold stepG.exec
  dsimp only
  split
  · exact hleave none
  · exact hleave (some .ret)
  · rename_i e; rw [e] at h; refine hgo { fr with todo := _ } ?_ _ h'; exact h.tail
  · rename_i e; rw [e] at h; refine hgo { fr with todo := _ } ?_ _ h'; exact h.tail
  · rename_i e; rw [e] at h; refine hgo { fr with todo := _ } ?_ _ h'; exact h.tail
  · rename_i e; rw [e] at h; refine hgo { fr with todo := _ } ?_ _ h'; exact h.tail
  · rename_i e; rw [e] at h; refine hgo { fr with todo := _ } ?_ _ h'; exact (PlainT.cons trivial (PlainT.cons trivial h.tail))
  · rename_i e
    rw [e] at h
    split
    · refine hgo { fr with todo := _ } ?_ _ h'; exact (PlainT.cons trivial h.tail)
    · exact SGood.ended fun _ => trivial
  · rename_i e; rw [e] at h; refine hgo { fr with todo := _ } ?_ _ h'; exact (PlainT.cons trivial (PlainT.cons trivial h.tail))
  · rename_i e; rw [e] at h; refine hgo { fr with todo := _ } ?_ _ h'; exact (PlainT.cons trivial (PlainT.cons trivial h.tail))
  · rename_i e; rw [e] at h; refine hgo { fr with todo := _ } ?_ _ h'; exact (PlainT.cons trivial (PlainT.cons trivial h.tail))
  · rename_i e; rw [e] at h; refine hgo { fr with todo := _ } ?_ _ h'; exact (PlainT.cons trivial (PlainT.cons trivial h.tail))
  · rename_i id k e
    rw [e] at h
    cases hx : exitTo id k with
    | none => exact hleave (some (.exit id))
    | some k' => refine hgo { fr with todo := _ } ?_ _ h'; exact (plain_exitTo h.tail hx)
  · rename_i l k e
    rw [e] at h
    cases hx : gotoIn l k with
    | none => exact hleave (some (.goto l))
    | some k' => refine hgo { fr with todo := _ } ?_ _ h'; exact (plain_gotoIn h.tail hx)
  · -- range over a function
    rename_i f params assign body k e
    rw [e] at h
    refine SGood.afterRun (inferInstance : Gd P (Instr.enterLoop fr.fn fr.tmps params assign body fr.roundOf)).good fr.fn (K := fun (r : Result (Nat × List Deferred)) => match r with
      | .ok (l, mark) w => stepG.apply P true { fr with todo := .inRangeFunc l :: k, defers := mark ++ fr.defers } cs dy (do let d ← resolve ({ fr with todo := .inRangeFunc l :: k, defers := mark ++ fr.defers } : Frame).eval { callee := .value f, args := #[.const (.func (.yield l) #[] #[])], argTypes := #[] } 0; invoke d.target d.args) w
      | .halt _ w => .ended (.stuck "range over a function: no such loop" (fr.pos P)) w) (fun r he => by cases r with
          | ok => exact he.elim
          | halt => trivial) (fun _ _ => trivial) ?_ (fun _ _ _ => SGood.ended fun _ => trivial)
    rintro ⟨l, mark⟩ _
    refine good_apply _ _ _ _ (Gd.next inferInstance fun d => good_invoke hP _ _) ?_ h'
    exact PlainT.cons trivial h.tail
  · exact SGood.ended fun _ => trivial
  · refine good_apply _ _ _ _ (Gd.unit ?_) h h'
    cases fr.roundOf with
    | none => exact (inferInstance : Gd P (stuck _))
    | some l => exact (inferInstance : Gd P (Instr.beginRound l))
  · rename_i l k e
    rw [e] at h
    refine SGood.orEnds (f' := fun w => GStep.after (seen P fr.fn ((Instr.endLoop l).runT P w #[]).2) ((fun (r : Result (Option Code)) => (match r with
      | .ok jump w => .go { frame := { fr with todo := (jump.map Item.code).toList ++ k }, callers := cs, status := .running, dying := dy } w
      | .halt (.panic v) w => .go { frame := fr.raise [{ v, recovered := false }], callers := cs, status := .running, dying := dy } w
      | .halt _ w => .ended (.stuck "range over a function: no such loop" (fr.pos P)) w : GStep)) ((Instr.endLoop l).runT P w #[]).1)) (SGood.afterRun (inferInstance : Gd P (Instr.endLoop l)).good fr.fn
      (K := fun (r : Result (Option Code)) => (match r with
      | .ok jump w => .go { frame := { fr with todo := (jump.map Item.code).toList ++ k }, callers := cs, status := .running, dying := dy } w
      | .halt (.panic v) w => .go { frame := fr.raise [{ v, recovered := false }], callers := cs, status := .running, dying := dy } w
      | .halt _ w => .ended (.stuck "range over a function: no such loop" (fr.pos P)) w : GStep)) ?_ ?_ ?_ ?_) ?_
    · intro r he
      cases r with
      | ok => exact he.elim
      | halt x => cases x <;> first | trivial | exact he.elim
    · exact fun _ _ => trivial
    · intro jump _
      refine hgo { fr with todo := _ } (PlainT.append ?_ h.tail) _ h'
      cases jump with
      | none => exact PlainT.nil
      | some c => exact PlainT.cons trivial PlainT.nil
    · intro x _ _
      cases x
      case panic v => refine hgo _ ?_ _ h'; rw [raise_todo, e]; exact h
      all_goals exact SGood.ended fun _ => trivial
    · intro w
      generalize (Instr.endLoop l).runT P w #[] = x
      obtain ⟨r, es⟩ := x
      cases r with
      | ok a w' => exact .inl rfl
      | halt x w' => cases x <;> exact .inl rfl
  · exact SGood.ended fun _ => trivial
  · rename_i e; rw [e] at h; exact h.head.elim
  · rename_i row args k e
    have hrow : row = "runtime.print$piece" := by rw [e] at h; exact h.head
    obtain ⟨ee, he, hg⟩ := next_piece (P := P)
    rw [hrow, he]
    exact good_apply _ _ _ _ (hg _) h h'
  · rename_i id ops draw k e
    rw [e] at h
    have hr : ∀ l, PlainT (.inRegion ops l :: k) := fun l => PlainT.cons (show PlainI (.inRegion ops l) from trivial) h.tail
    refine SGood.itec (hgo { fr with todo := _ } (hr _) _ h') ?_
    exact SGood.cong (SGood.runs (P := P) (x := choose (.order fr.fn id)) inferInstance (K := fun t w => GStep.go { frame := { fr with todo := .inRegion ops (Region.schedule (P.follows .mixedOrders) ops t) :: k }, callers := cs, status := .running, dying := dy } w)
      (H := fun _ w => .ended (.stuck "order" (fr.pos P)) w) (fun t => hgo { fr with todo := _ } (hr _) _ h') fun _ _ => trivial) fun w => rfl
  · rename_i e
    rw [e] at h
    refine hgo { fr with todo := _ } ?_ _ h'; exact h.tail
  · refine SGood.itec ?_ (hgo _ (plain_finish h _) _ h')
    unfold stepG.oper
    split
    · exact SGood.ended fun _ => trivial
    · split
      · exact good_apply _ _ _ _ (Gd.next inferInstance fun d => Gd.unit inferInstance) h h'
      · exact good_apply _ _ _ _ (good_execOp hP _ _) h h'

theorem good_stepG (hP : PlainP P) (g : Goroutine) (h : PlainG g) : SGood fun w => stepG P true g w := by
  obtain ⟨fr, cs, st, dy, of⟩ := g
  obtain ⟨h, h'⟩ := h
  unfold stepG
  dsimp only
  split
  · exact good_die hP _ _ h
  · exact good_exec hP _ _ _ h h'
  · exact good_unwind hP _ _ _ h h'
end Go.Proofs.Ytkhmooemgjichaa
