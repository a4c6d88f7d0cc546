/- WaysOf receives: its loop over the channel. -/
import Derived.Test.YtkhmooemgjichaaHn
import Derived.Test.YtkhmooemgjichaaChecked
import Derived.IntWalk
namespace Go.Proofs.Ytkhmooemgjichaa
open Go Go.Conc Go.RowKit

def bN (f : FuncId) : Frame := { (default : Frame) with fn := f, kind := .normal }
noncomputable def body8 : Code := Try.f8.body.getD .skip
def loopR : Code → Code
  | .seq _ (.seq _ (.seq _ (.seq (.seq _ (.block _ (.loop c))) _))) => c
  | c => c
def restR : Code → Code
  | .seq _ (.seq _ (.seq _ (.seq _ c))) => c
  | c => c
noncomputable def codeR : Code := loopR body8
noncomputable def tailR : Code := restR body8

section
variable {c : Nat} {W : World} {Stop : Goroutine → World → Prop} {m : Nat} {cs : List Frame} {x0 x1 x2 x3 x4 x7 x8 x9 x10 x11 x12 : Value} {all : Int}
/-- At the loop's head. -/
noncomputable def HR (cs : List Frame) (x0 x1 x2 x3 x4 x7 x8 x9 x10 x11 x12 : Value) (c : Nat) (all : Int) (x6 x14 x15 x16 x17 x18 x19 x20 : Value) : Goroutine :=
  G ((bN 8).at ⟨#[x0, x1, x2, x3, x4, .int .i64 all, x6, x7, x8, x9, x10, x11, x12, .chan (some c), x14, x15, x16, x17, x18, x19, x20], []⟩ [.code codeR, .inLoop codeR, .inBlock 0, .code tailR]) cs
/-- It has heard the last word. -/
noncomputable def FinR (cs : List Frame) (x0 x1 x2 x3 x4 x7 x8 x9 x10 x11 x12 : Value) (c : Nat) (all : Int) (g : Goroutine) : Prop :=
  ∃ x6 x15 x16 x17 x18 x19 x20, g = G ((bN 8).at ⟨#[x0, x1, x2, x3, x4, .int .i64 all, x6, x7, x8, x9, x10, x11, x12, .chan (some c), .tuple #[.int .i64 0, .bool false], x15, x16, x17, x18, x19, x20], []⟩
    (match codeR with | .seq (.region _ ops _) r => [.inRegion ops [1], .code r, .inLoop codeR, .inBlock 0, .code tailR] | _ => [])) cs

set_option maxRecDepth 100000 in
theorem head_recv {Next : Goroutine → Prop} (x6 x14 x15 x16 x17 x18 x19 x20 : Value)
    (h : ∀ g₂, g₂ = G ((bN 8).at ⟨#[x0, x1, x2, x3, x4, .int .i64 all, x6, x7, x8, x9, x10, x11, x12, .chan (some c), x14, x15, x16, x17, x18, x19, x20], []⟩
      (match codeR with | .seq (.region _ ops _) r => [.inRegion ops [0, 1], .code r, .inLoop codeR, .inBlock 0, .code tailR] | _ => [])) cs → Next g₂) :
    Goes Try.prog true (RA c W) DR (fun g _ => AtRcv Try.prog c W (.int .i64 0) Next g) 2 (HR cs x0 x1 x2 x3 x4 x7 x8 x9 x10 x11 x12 c all x6 x14 x15 x16 x17 x18 x19 x20) default := by
  unfold HR
  simp only [codeR, loopR, body8, Try.f8, Option.getD_some] at h ⊢
  refine Go_.ctl rfl (fun w => stepG_seq) ?_
  refine Go_.ctl rfl (fun w => stepG_region) ?_
  simp only [List.size_toArray, List.length_cons, List.length_nil, Nat.reduceAdd, Nat.zero_add, List.range, List.range.loop]
  refine fun w₁ _ => ⟨rfl, #[], by simp, _, rfl, rfl, rfl, h _ rfl, fun w _ => ?_⟩
  rw [stepG_comm (main := true) (cases := #[rcase c (.int .i64 0)]) (blocking := true) (shape := .recv true) (w' := w) rfl rfl (by decide) (by simp [go_sem, execOp, rcase, Act.eval]), listed_none (by simp [go_sem, execOp, Act.eval])]

set_option maxRecDepth 100000 in
theorem recv_next {y : Int} (hw64 : IntKind.i64.wrap (all + y) = all + y) (x6 x14 x15 x16 x17 x18 x19 x20 : Value)
    (hg : Goes Try.prog true (RA c W) DR Stop m (HR cs x0 x1 x2 x3 x4 x7 x8 x9 x10 x11 x12 c (all + y) (.int .i64 y) (.tuple #[.int .i64 y, .bool true]) (.bool true) (.int .i64 y) (.int .i64 all) (.int .i64 y) (.int .i64 (all + y)) x20) default) :
    Goes Try.prog true (RA c W) DR Stop (m + 19) (Go.Conc.served (G ((bN 8).at ⟨#[x0, x1, x2, x3, x4, .int .i64 all, x6, x7, x8, x9, x10, x11, x12, .chan (some c), x14, x15, x16, x17, x18, x19, x20], []⟩
      (match codeR with | .seq (.region _ ops _) r => [.inRegion ops [0, 1], .code r, .inLoop codeR, .inBlock 0, .code tailR] | _ => [])) cs) (recvd true (.int .i64 y) true)) default := by
  simp only [codeR, loopR, body8, Try.f8, Option.getD_some]
  rw [served_fr, Frame.finish_at]
  simp only [recvd, if_true]
  walk_nrm
  refine Go_.val (.bool true) rfl rfl (by decide) (fun w hw => by simp [go_sem, execOp, Act.eval]) (fun w hw e he => by simp [go_sem, execOp, Act.eval] at he) ?_
  walk_nrm
  refine Go_.ctl rfl (fun w => stepG_region_end) ?_
  refine Go_.ctl rfl (fun w => stepG_seq) ?_
  refine Go_.ctl rfl (fun w => stepG_cond (t := true) rfl) ?_
  simp only [if_true]
  refine Go_.ctl rfl (fun w => stepG_skip) ?_
  refine Go_.ctl rfl (fun w => stepG_block) ?_
  refine Go_.ctl rfl (fun w => stepG_seq) ?_
  refine Go_.ctl rfl (fun w => stepG_region) ?_
  simp only [List.size_toArray, List.length_cons, List.length_nil, Nat.reduceAdd, Nat.zero_add, List.range, List.range.loop]
  refine Go_.val (.int .i64 y) rfl rfl (by decide) (fun w hw => by simp [go_sem, execOp, Act.eval]) (fun w hw e he => by simp [go_sem, execOp, Act.eval] at he) ?_
  walk_nrm
  refine Go_.val (.int .i64 y) rfl rfl (by decide) (fun w hw => by simp [go_sem, execOp, Act.eval]) (fun w hw e he => by simp [go_sem, execOp, Act.eval] at he) ?_
  walk_nrm
  refine Go_.ctl rfl (fun w => stepG_region_end) ?_
  refine Go_.ctl rfl (fun w => stepG_region) ?_
  simp only [List.size_toArray, List.length_cons, List.length_nil, Nat.reduceAdd, Nat.zero_add, List.range, List.range.loop]
  refine Go_.val (.int .i64 all) rfl rfl (by decide) (fun w hw => by simp [go_sem, execOp, Act.eval]) (fun w hw e he => by simp [go_sem, execOp, Act.eval] at he) ?_
  walk_nrm
  refine Go_.val (.int .i64 y) rfl rfl (by decide) (fun w hw => by simp [go_sem, execOp, Act.eval]) (fun w hw e he => by simp [go_sem, execOp, Act.eval] at he) ?_
  walk_nrm
  refine Go_.val (.int .i64 (all + y)) rfl rfl (by decide) (fun w hw => by simp [go_sem, execOp, Act.eval, hw64]) (fun w hw e he => by simp [go_sem, execOp, Act.eval] at he) ?_
  walk_nrm
  refine Go_.val (.int .i64 (all + y)) rfl rfl (by decide) (fun w hw => by simp [go_sem, execOp, Act.eval]) (fun w hw e he => by simp [go_sem, execOp, Act.eval] at he) ?_
  walk_nrm
  refine Go_.ctl rfl (fun w => stepG_region_end) ?_
  refine Go_.ctl rfl (fun w => stepG_inBlock) ?_
  refine Go_.ctl rfl (fun w => stepG_inLoop) ?_
  exact hg

theorem recv_last (x6 x14 x15 x16 x17 x18 x19 x20 : Value) :
    FinR cs x0 x1 x2 x3 x4 x7 x8 x9 x10 x11 x12 c all (Go.Conc.served (G ((bN 8).at ⟨#[x0, x1, x2, x3, x4, .int .i64 all, x6, x7, x8, x9, x10, x11, x12, .chan (some c), x14, x15, x16, x17, x18, x19, x20], []⟩
      (match codeR with | .seq (.region _ ops _) r => [.inRegion ops [0, 1], .code r, .inLoop codeR, .inBlock 0, .code tailR] | _ => [])) cs) (recvd true (.int .i64 0) false)) := by
  refine ⟨x6, x15, x16, x17, x18, x19, x20, ?_⟩
  simp only [codeR, loopR, body8, Try.f8, Option.getD_some]
  rw [served_fr, Frame.finish_at]
  simp only [recvd, if_true]
  walk_nrm

/-- Sums of what has come. -/
def sumL : List Int → Int
  | [] => 0
  | y :: l => y + sumL l
theorem sumL_nonneg {l : List Int} (h : ∀ y ∈ l, 0 ≤ y) : 0 ≤ sumL l := by
  induction l with
  | nil => exact Int.le_refl _
  | cons y l ih =>
    have := h y (by simp)
    have := ih fun z hz => h z (by simp [hz])
    show 0 ≤ y + sumL l
    omega

/-- ████ THE RECEIVER's SCRIPT. ████ -/
theorem recv_all : ∀ (ys : List Int) (all : Int), (∀ y ∈ ys, 0 ≤ y) → 0 ≤ all → all + sumL ys ≤ 1000000000000000000 → ∀ x6 x14 x15 x16 x17 x18 x19 x20,
    Rcv Try.prog c W (.int .i64 0) (FinR cs x0 x1 x2 x3 x4 x7 x8 x9 x10 x11 x12 c (all + sumL ys)) (ys.map (.int .i64)) (HR cs x0 x1 x2 x3 x4 x7 x8 x9 x10 x11 x12 c all x6 x14 x15 x16 x17 x18 x19 x20) := by
  intro ys
  induction ys with
  | nil =>
    intro all _ _ _ x6 x14 x15 x16 x17 x18 x19 x20
    refine ⟨2, head_recv _ _ _ _ _ _ _ _ fun g₂ hg => ?_⟩
    subst hg
    have := recv_last (c := c) (cs := cs) (x0 := x0) (x1 := x1) (x2 := x2) (x3 := x3) (x4 := x4) (x7 := x7) (x8 := x8) (x9 := x9) (x10 := x10) (x11 := x11) (x12 := x12) (all := all) x6 x14 x15 x16 x17 x18 x19 x20
    simpa only [sumL, Int.add_zero] using this
  | cons y ys ih =>
    intro all hy h0 hb x6 x14 x15 x16 x17 x18 x19 x20
    have hy0 := hy y (by simp)
    have hs0 : 0 ≤ sumL ys := sumL_nonneg fun z hz => hy z (by simp [hz])
    have hb' : all + (y + sumL ys) ≤ 1000000000000000000 := hb
    have hw64 : IntKind.i64.wrap (all + y) = all + y := IntWalk.i64_in _ ⟨by omega, by omega⟩
    refine ⟨2, head_recv _ _ _ _ _ _ _ _ fun g₂ hg => ?_⟩
    subst hg
    have := ih (all + y) (fun z hz => hy z (by simp [hz])) (by omega) (by omega) (.int .i64 y) (.tuple #[.int .i64 y, .bool true]) (.bool true) (.int .i64 y) (.int .i64 all) (.int .i64 y) (.int .i64 (all + y)) x20
    rw [Int.add_assoc] at this
    obtain ⟨n, hn⟩ := (rcv_iff _ _ _ _ _ _ _).1 this
    exact (rcv_iff _ _ _ _ _ _ _).2 ⟨n + 19, recv_next hw64 _ _ _ _ _ _ _ _ hn⟩
end
end Go.Proofs.Ytkhmooemgjichaa
