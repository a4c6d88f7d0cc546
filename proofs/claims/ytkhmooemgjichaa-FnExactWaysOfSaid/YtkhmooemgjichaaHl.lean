/- The worker of WaysOf: its steps from its birth to the loop's head. -/
import Derived.Test.YtkhmooemgjichaaHk
import Derived.Test.YtkhmooemgjichaaChecked
import Derived.Test.YtkhmooemgjichaaPush
namespace Go.Proofs.Ytkhmooemgjichaa
open Go Go.Conc Go.RowKit

noncomputable def bot : Frame := { (default : Frame) with fn := Try.prog.funcs.size, defers := [], mode := .panicking [goexitEntry] }
noncomputable def bodyK : Code := Try.f43.body.getD .skip
def bK : Frame := baseD 43
def callK (aS aA aG aW : Addr) : Deferred := { target := .fn (.func 43) #[.pointer (some aS), .pointer (some aA), .pointer (some aG), .pointer (some aW)], args := #[] }
theorem born_stepK (aS aA aG aW : Addr) (w : World) : stepG Try.prog false (born Try.prog (callK aS aA aG aW)) w =
    .go (G (bK.at ⟨#[.pointer (some aS), .pointer (some aA), .pointer (some aG), .pointer (some aW), undef, undef, undef, undef, undef, undef, undef, undef, undef, undef, undef, undef, undef], []⟩ [.code bodyK]) [bot]) w := by
  simp [born, callK, stepG, unwind, callDeferred, invoke, callFunc, Try.func43, Try.f43, seen, GStep.after, G, Frame.enter, Frame.at, bK, baseD, bot, bodyK]

/-- What the worker reads. -/
structure KF (c : Nat) (aS aA aG aW : Addr) (am gr : Int) (g n cap : Nat) (f : Int → Int) (w : World) : Prop where
  cS : w.cell? aS = some (.chan (some c))
  cA : w.cell? aA = some (.int .i64 am)
  cG : w.cell? aG = some (.int .i64 gr)
  cW : w.cell? aW = some (sl g n cap)
  el : ∀ j : Nat, j < n → w.cell? ⟨g, j, none⟩ = some (.int .i64 (f j))
theorem KF.aside {c : Nat} {aS aA aG aW : Addr} {am gr : Int} {g n cap : Nat} {f : Int → Int} {W w : World} (h : KF c aS aA aG aW am gr g n cap f W) (h1 : aS.block ≠ c) (h2 : aA.block ≠ c) (h3 : aG.block ≠ c) (h4 : aW.block ≠ c) (h5 : g ≠ c) (hw : Aside c W w) :
    KF c aS aA aG aW am gr g n cap f w :=
  ⟨(aside_cell hw h1).trans h.cS, (aside_cell hw h2).trans h.cA, (aside_cell hw h3).trans h.cG, (aside_cell hw h4).trans h.cW, fun j hj => (aside_cell hw (a := ⟨g, j, none⟩) h5).trans (h.el j hj)⟩

section
variable {P : Program} {main : Bool} {c : Nat} {W : World} {Stop : Goroutine → World → Prop} {n : Nat} {b : Frame} {a : Act} {k : List Item} {cs : List Frame} {ops : Array Oper} {i : Nat} {rest : List Nat} {o : Oper}
theorem Go_.dfr (d : Deferred) (ho : ops[i]? = some o) (hw : Region.wanted o (yielded ops a.tmps) = true) (hk : b.kind ≠ .early) (hr : ∀ w, (execOp a.eval o).run P w = .ok (.defer d) w) (he : ∀ w, (execOp a.eval o).events P w #[] = #[])
    (hg : Goes P main (RA c W) DR Stop n (G (b.at (Act.put ⟨a.tmps, d :: a.defers⟩ o.dst undef) (.inRegion ops rest :: k)) cs) default) :
    Goes P main (RA c W) DR Stop (n + 1) (G (b.at a (.inRegion ops (i :: rest) :: k)) cs) default := by
  refine Go_.ctl rfl (fun w => ?_) hg
  have hfin : (b.at ⟨a.tmps, d :: a.defers⟩ (.inRegion ops (i :: rest) :: k)).finish undef = b.at (Act.put ⟨a.tmps, d :: a.defers⟩ o.dst undef) (.inRegion ops rest :: k) := by rw [Frame.finish_at, ho]; rfl
  have hk' : (b.kind == CallKind.early) = false := by simpa using hk
  rw [stepG_oper ho hw, ← hfin]
  simp [stepG.apply, hr, he, G, Frame.at, hk', GStep.after, seen_none]
end

/-- The loop's round. -/
def loopOf : Code → Code
  | .seq _ (.seq _ (.block _ (.loop c))) => c
  | c => c
noncomputable def codeL : Code := loopOf bodyK
/-- What it has still to do at its end: the close. -/
def dcl (c : Nat) : Deferred := { target := .builtin .close #[61] 0 #[false], args := #[.chan (some c)] }
/-- At the loop's head. -/
noncomputable def HW (aS aA aG aW : Addr) (c : Nat) (am left : Int) (j7 j8 j9 j10 j11 j12 j13 j14 j15 j16 : Value) : Goroutine :=
  G (bK.at ⟨#[.pointer (some aS), .pointer (some aA), .pointer (some aG), .pointer (some aW), .int .i64 left, .chan (some c), .int .i64 am, j7, j8, j9, j10, j11, j12, j13, j14, j15, j16], [dcl c]⟩ [.code codeL, .inLoop codeL, .inBlock 0]) [bot]

set_option maxRecDepth 100000 in
theorem worker_birth {c : Nat} {aS aA aG aW : Addr} {am gr : Int} {g n cap : Nat} {f : Int → Int} {W : World} {Stop : Goroutine → World → Prop} {m : Nat} (hF : ∀ w, Aside c W w → KF c aS aA aG aW am gr g n cap f w)
    (hg : Goes Try.prog false (RA c W) DR Stop m (HW aS aA aG aW c am am undef undef undef undef undef undef undef undef undef undef) default) :
    Goes Try.prog false (RA c W) DR Stop (m + 13) (born Try.prog (callK aS aA aG aW)) default := by
  refine Go_.ctl rfl (born_stepK aS aA aG aW) ?_
  simp only [bodyK, Try.f43, Option.getD_some]
  refine Go_.ctl rfl (fun w => stepG_seq) ?_
  refine Go_.ctl rfl (fun w => stepG_region) ?_
  simp only [List.size_toArray, List.length_cons, List.length_nil, Nat.reduceAdd, Nat.zero_add, List.range, List.range.loop]
  refine Go_.val (.chan (some c)) rfl rfl (by decide) (fun w hw => ?_) (fun w hw e he => ?_) ?_
  · have h1 := (hF w hw).cS
    simp [go_sem, execOp, Act.eval, h1]
  · have h1 := (hF w hw).cS
    simp [go_sem, execOp, Act.eval, h1] at he
    exact ⟨_, he⟩
  walk_nrm
  refine Go_.dfr (dcl c) rfl rfl (by decide) (fun w => by simp [execOp, resolve, Act.eval, dcl]) (fun w => by simp [execOp, resolve, Act.eval]) ?_
  walk_nrm
  refine Go_.ctl rfl (fun w => stepG_region_end) ?_
  refine Go_.ctl rfl (fun w => stepG_seq) ?_
  refine Go_.ctl rfl (fun w => stepG_region) ?_
  simp only [List.size_toArray, List.length_cons, List.length_nil, Nat.reduceAdd, Nat.zero_add, List.range, List.range.loop]
  refine Go_.val (.int .i64 am) rfl rfl (by decide) (fun w hw => ?_) (fun w hw e he => ?_) ?_
  · have h1 := (hF w hw).cA
    simp [go_sem, execOp, Act.eval, h1]
  · have h1 := (hF w hw).cA
    simp [go_sem, execOp, Act.eval, h1] at he
    exact ⟨_, he⟩
  walk_nrm
  refine Go_.val (.int .i64 am) rfl rfl (by decide) (fun w hw => by simp [go_sem, execOp, Act.eval]) (fun w hw e he => by simp [go_sem, execOp, Act.eval] at he) ?_
  walk_nrm
  refine Go_.ctl rfl (fun w => stepG_region_end) ?_
  refine Go_.ctl rfl (fun w => stepG_block) ?_
  refine Go_.ctl rfl (fun w => stepG_loop) ?_
  exact hg
end Go.Proofs.Ytkhmooemgjichaa
