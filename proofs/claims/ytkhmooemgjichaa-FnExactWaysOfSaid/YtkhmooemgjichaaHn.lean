/- The worker of WaysOf, whole: it sends the ways of each amount that is left, closes, and leaves. -/
import Derived.Test.YtkhmooemgjichaaHm
import Derived.IntWalk
namespace Go.Proofs.Ytkhmooemgjichaa
open Go Go.Conc Go.RowKit

/-- What is sent, from amount l on. -/
def outs (f : Int → Int) (gr : Nat) : Nat → Nat → List Int
  | 0, _ => []
  | fuel + 1, l => f l :: if gr ≤ l then outs f gr fuel (l - gr) else []

section
variable {aS aA aG aW : Addr} {c : Nat} {am left gr : Int} {g n cap : Nat} {f : Int → Int} {W : World} {Stop : Goroutine → World → Prop} {m : Nat}

set_option maxRecDepth 100000 in
theorem head_yes (h0 : 0 ≤ left) (j7 j8 j9 j10 j11 x12 x13 x14 x15 x16 : Value)
    (hg : ∀ t, Goes Try.prog false (RA c W) DR Stop m (SR aS aA aG aW c am left (.int .i64 left) (.bool true) j9 j10 j11 x12 x13 x14 x15 x16 (lin 6 t #[false, false, false, false, false, false])) default) :
    Goes Try.prog false (RA c W) DR Stop (m + 11) (HW aS aA aG aW c am left j7 j8 j9 j10 j11 x12 x13 x14 x15 x16) default := by
  have hsch : ∀ t, ∃ t', Region.schedule (Try.prog.follows .mixedOrders) opsR t = lin 6 t' #[false, false, false, false, false, false] := fun t => by
    have hdep : Region.departs opsR = false := by kernel_rfl
    refine ⟨t, ?_⟩
    unfold Region.schedule
    simp only [hdep, Bool.not_false, Bool.or_true, if_true]
    rfl
  unfold HW
  simp only [codeL, loopOf, bodyK, Try.f43, Option.getD_some]
  refine Go_.ctl rfl (fun w => stepG_seq) ?_
  refine Go_.ctl rfl (fun w => stepG_seq) ?_
  refine Go_.ctl rfl (fun w => stepG_region) ?_
  simp only [List.size_toArray, List.length_cons, List.length_nil, Nat.reduceAdd, Nat.zero_add, List.range, List.range.loop]
  refine Go_.val (.int .i64 left) rfl rfl (by decide) (fun w hw => by simp [go_sem, execOp, Act.eval]) (fun w hw e he => by simp [go_sem, execOp, Act.eval] at he) ?_
  walk_nrm
  refine Go_.val (.bool true) rfl rfl (by decide) (fun w hw => by simp [go_sem, execOp, Act.eval, h0]) (fun w hw e he => by simp [go_sem, execOp, Act.eval] at he) ?_
  walk_nrm
  refine Go_.ctl rfl (fun w => stepG_region_end) ?_
  refine Go_.ctl rfl (fun w => stepG_cond (t := true) rfl) ?_
  simp only [if_true]
  refine Go_.ctl rfl (fun w => stepG_skip) ?_
  refine Go_.ctl rfl (fun w => stepG_seq) ?_
  refine Go_.ctl rfl (fun w => stepG_block) ?_
  refine Go_.draw fun t => ?_
  obtain ⟨t', e⟩ := hsch t
  have := hg t'
  rw [← e] at this
  exact this

set_option maxRecDepth 100000 in
theorem round_back (hF : ∀ w, Aside c W w → KF c aS aA aG aW am gr g n cap f w) (hw64 : IntKind.i64.wrap (left - gr) = left - gr) (j7 j8 j9 j10 j11 x12 x13 x14 x15 x16 : Value)
    (hg : Goes Try.prog false (RA c W) DR Stop m (HW aS aA aG aW c am (left - gr) j7 j8 (.int .i64 left) (.int .i64 gr) (.int .i64 (left - gr)) x12 x13 x14 x15 x16) default) :
    Goes Try.prog false (RA c W) DR Stop (m + 9) (SR aS aA aG aW c am left j7 j8 j9 j10 j11 x12 x13 x14 x15 x16 []) default := by
  unfold SR
  refine Go_.ctl rfl (fun w => stepG_region_end) ?_
  refine Go_.ctl rfl (fun w => stepG_inBlock) ?_
  simp only [reg3, regThree, codeL, loopOf, bodyK, Try.f43, Option.getD_some]
  refine Go_.ctl rfl (fun w => stepG_region) ?_
  simp only [List.size_toArray, List.length_cons, List.length_nil, Nat.reduceAdd, Nat.zero_add, List.range, List.range.loop]
  refine Go_.val (.int .i64 left) rfl rfl (by decide) (fun w hw => by simp [go_sem, execOp, Act.eval]) (fun w hw e he => by simp [go_sem, execOp, Act.eval] at he) ?_
  walk_nrm
  refine Go_.val (.int .i64 gr) rfl rfl (by decide) (fun w hw => ?_) (fun w hw e he => ?_) ?_
  · have h1 := (hF w hw).cG
    simp [go_sem, execOp, Act.eval, h1]
  · have h1 := (hF w hw).cG
    simp [go_sem, execOp, Act.eval, h1] at he
    exact ⟨_, he⟩
  walk_nrm
  refine Go_.val (.int .i64 (left - gr)) rfl rfl (by decide) (fun w hw => by simp [go_sem, execOp, Act.eval, hw64]) (fun w hw e he => by simp [go_sem, execOp, Act.eval] at he) ?_
  walk_nrm
  refine Go_.val (.int .i64 (left - gr)) rfl rfl (by decide) (fun w hw => by simp [go_sem, execOp, Act.eval]) (fun w hw e he => by simp [go_sem, execOp, Act.eval] at he) ?_
  walk_nrm
  refine Go_.ctl rfl (fun w => stepG_region_end) ?_
  refine Go_.ctl rfl (fun w => stepG_inLoop) ?_
  exact hg

theorem stepG_end' {P : Program} {main : Bool} {b : Frame} {a : Act} {cs : List Frame} {w : World} : stepG P main (G (b.at a []) cs) w = .go (G { b.at a [] with mode := .returning } cs) w := stepG_end

/-- The literal's own way out: it only leaves. -/
theorem quitsTail (T : Array Value) : QuitsD Try.prog 2 0 (G { bK.at ⟨T, []⟩ [] with mode := .returning } [bot]) := by
  refine QuitsD.ctl (g' := G bot []) rfl (fun w => ?_) ?_
  · simp [G, stepG, unwind, doReturn, results, Frame.at, bK, baseD, bot, Try.func43, Try.f43, seen, GStep.after, goexitEntry]
  refine QuitsD.ctl (g' := { G bot [] with status := .finished }) rfl (fun w => ?_) ⟨rfl, rfl⟩
  simp [G, stepG, unwind, bot, goexitEntry, Frame.catches]
  rfl

/-- The deferred close. -/
theorem at_close (T : Array Value) : AtCls Try.prog c W (G { bK.at ⟨T, [dcl c]⟩ [] with mode := .returning } [bot]) := by
  refine ⟨rfl, rfl, G { bK.at ⟨T, []⟩ [] with mode := .returning } [bot], 2, rfl, fun w s _ hc => ?_, quitsTail T⟩
  have hq : (Try.prog.funcs[bK.fn]?).any (·.norace) = false := by kernel_rfl
  have hr : (invoke (dcl c).target (dcl c).args).run Try.prog w = .ok (.value (.tuple #[])) (w.setChan c 0 #[] true s s false) := by
    simp [dcl, invoke, builtin, run_close_open _ _ hc, World.setChan]
  have hl : (invoke (dcl c).target (dcl c).args).events Try.prog w #[] = closeEvents c := by
    simp [dcl, invoke, builtin, events_close_open _ _ hc, closeEvents]
  have hs : seen Try.prog bK.fn (closeEvents c) = closeEvents c := seen_eq hq (by intro e he f; simp only [closeEvents, List.mem_toArray, List.mem_cons, List.not_mem_nil, or_false] at he; rcases he with rfl | rfl <;> simp)
  have hrt : (invoke (dcl c).target (dcl c).args).runT Try.prog w #[] = (.ok (.value (.tuple #[])) (w.setChan c 0 #[] true s s false), closeEvents c) := by
    rw [Sem.runT_eq, hr, hl]
  have hcd : callDeferred Try.prog { bK.at ⟨T, []⟩ [] with mode := .returning } [bot] none (dcl c) w = .go (G { bK.at ⟨T, []⟩ [] with mode := .returning } [bot]) (w.setChan c 0 #[] true s s false) (closeEvents c) := by
    unfold callDeferred
    rw [hrt]
    dsimp only [dcl]
    simp only [Bool.false_and, Bool.false_eq_true, if_false]
    rw [show ({ bK.at ⟨T, []⟩ [] with mode := .returning } : Frame).fn = bK.fn from rfl, hs]
    simp [GStep.after, G]
  exact hcd

set_option maxRecDepth 100000 in
theorem head_no (h0 : left < 0) (j7 j8 j9 j10 j11 x12 x13 x14 x15 x16 : Value) :
    Goes Try.prog false (RA c W) DR (fun g _ => AtCls Try.prog c W g) 9 (HW aS aA aG aW c am left j7 j8 j9 j10 j11 x12 x13 x14 x15 x16) default := by
  have h1 : ¬ 0 ≤ left := by omega
  unfold HW
  simp only [codeL, loopOf, bodyK, Try.f43, Option.getD_some]
  refine Go_.ctl rfl (fun w => stepG_seq) ?_
  refine Go_.ctl rfl (fun w => stepG_seq) ?_
  refine Go_.ctl rfl (fun w => stepG_region) ?_
  simp only [List.size_toArray, List.length_cons, List.length_nil, Nat.reduceAdd, Nat.zero_add, List.range, List.range.loop]
  refine Go_.val (.int .i64 left) rfl rfl (by decide) (fun w hw => by simp [go_sem, execOp, Act.eval]) (fun w hw e he => by simp [go_sem, execOp, Act.eval] at he) ?_
  walk_nrm
  refine Go_.val (.bool false) rfl rfl (by decide) (fun w hw => by simp [go_sem, execOp, Act.eval, h1]) (fun w hw e he => by simp [go_sem, execOp, Act.eval] at he) ?_
  walk_nrm
  refine Go_.ctl rfl (fun w => stepG_region_end) ?_
  refine Go_.ctl rfl (fun w => stepG_cond (t := false) rfl) ?_
  simp only [Bool.false_eq_true, if_false]
  refine Go_.ctl rfl (fun w => stepG_exit rfl) ?_
  refine Go_.ctl rfl (fun w => stepG_end) ?_
  exact fun _ _ => at_close _

theorem snd_pre {vs : List Value} {g g' : Goroutine} {k : Nat} (h : ∀ (Stop : Goroutine → World → Prop) (m : Nat), Goes Try.prog false (RA c W) DR Stop m g' default → Goes Try.prog false (RA c W) DR Stop (m + k) g default) (hs : Snd Try.prog c W vs g') : Snd Try.prog c W vs g := by
  cases vs with
  | nil => exact ⟨_, h _ _ hs.choose_spec⟩
  | cons v vs => exact ⟨_, h _ _ hs.choose_spec⟩

theorem worker_sends {gr : Nat} (hF : ∀ w, Aside c W w → KF c aS aA aG aW am gr g n cap f w) (hg : 1 ≤ gr ∧ gr ≤ 30) (hn : n ≤ 2000) : ∀ (fuel l : Nat), l < fuel → l < n → ∀ j7 j8 j9 j10 j11 x12 x13 x14 x15 x16,
    Snd Try.prog c W ((outs f gr fuel l).map (.int .i64)) (HW aS aA aG aW c am l j7 j8 j9 j10 j11 x12 x13 x14 x15 x16) := by
  intro fuel
  induction fuel with
  | zero => intro l hl; omega
  | succ fuel ih =>
    intro l hl hln j7 j8 j9 j10 j11 x12 x13 x14 x15 x16
    have hw64 : IntKind.i64.wrap ((l : Int) - (gr : Int)) = (l : Int) - (gr : Int) := IntWalk.i64_in _ ⟨by omega, by omega⟩
    simp only [outs, List.map_cons]
    refine ⟨16, head_yes (by omega) _ _ _ _ _ _ _ _ _ _ fun t => ?_⟩
    refine sr_walk hF hln rfl ?_ _ _ _ _ _ t
    refine snd_pre (k := 9) (fun Stop m h => round_back hF hw64 _ _ _ _ _ _ _ _ _ _ h) ?_
    by_cases hgl : gr ≤ l
    · rw [if_pos hgl]
      have := ih (l - gr) (by omega) (by omega) (.int .i64 l) (.bool true) (.int .i64 l) (.int .i64 gr) (.int .i64 ((l : Int) - (gr : Int))) (.chan (some c)) (sl g n cap) (.int .i64 l) (.pointer (some ⟨g, l, none⟩)) (.int .i64 (f l))
      rw [show ((l - gr : Nat) : Int) = (l : Int) - (gr : Int) by omega] at this
      exact this
    · rw [if_neg hgl]
      exact ⟨9, head_no (by omega) _ _ _ _ _ _ _ _ _ _⟩

/-- ████ THE WORKER's SCRIPT. ████ -/
theorem worker_all {gr l : Nat} (hF : ∀ w, Aside c W w → KF c aS aA aG aW l gr g (l + 1) cap f w) (hg : 1 ≤ gr ∧ gr ≤ 30) (hl : l ≤ 1900) :
    Snd Try.prog c W ((outs f gr (l + 1) l).map (.int .i64)) (born Try.prog (callK aS aA aG aW)) :=
  snd_pre (k := 13) (fun Stop m h => worker_birth hF h) (worker_sends hF hg (by omega) (l + 1) l (Nat.lt_succ_self _) (Nat.lt_succ_self _) _ _ _ _ _ _ _ _ _ _)
end
end Go.Proofs.Ytkhmooemgjichaa
