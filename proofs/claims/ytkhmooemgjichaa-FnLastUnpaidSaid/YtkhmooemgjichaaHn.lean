/- The worker of WaysOf, whole: it sends the ways of each amount that is left, closes, and leaves. -/
import Derived.Test.YtkhmooemgjichaaHh
import Derived.Conc.DeferLaws
import Derived.Conc.TokenWords
import Derived.Laws.ByValue
import Derived.Test.YtkhmooemgjichaaChecked
import Derived.Test.YtkhmooemgjichaaPush
import Derived.Orders
import Derived.KernelRfl
import Derived.IntWalk
namespace Go.Proofs.Ytkhmooemgjichaa

section
section
section
open Go Go.Conc Go.RowKit
variable {P : Program} {c : Nat} {W : World} {main : Bool} {Stop : Goroutine → World → Prop} {n : Nat}

theorem goes_any {g : Goroutine} {w w' : World} (h : Goes P main (RA c W) DR Stop n g w) : Goes P main (RA c W) DR Stop n g w' := by
  cases n <;> exact h
theorem Go_.ctl {g g' : Goroutine} (hs : g.status = .running) (h : ∀ w, stepG P main g w = .go g' w) (hg : Goes P main (RA c W) DR Stop n g' default) : Goes P main (RA c W) DR Stop (n + 1) g default :=
  Goes.step hs fun w₁ _ => by rw [h]; exact ⟨⟨⟨w₁.drawn, rfl⟩, by simp⟩, goes_any hg⟩
theorem Go_.ctlW {g g' : Goroutine} (hs : g.status = .running) (h : ∀ w, Aside c W w → stepG P main g w = .go g' w) (hg : Goes P main (RA c W) DR Stop n g' default) : Goes P main (RA c W) DR Stop (n + 1) g default :=
  Goes.step hs fun w₁ h₁ => by rw [h w₁ h₁]; exact ⟨⟨⟨w₁.drawn, rfl⟩, by simp⟩, goes_any hg⟩
section
variable {b : Frame} {a : Act} {k : List Item} {cs : List Frame} {ops : Array Oper} {i : Nat} {rest : List Nat} {o : Oper}
/-- An operation that yields a value, and turns nothing. -/
theorem Go_.val (v : Value) (ho : ops[i]? = some o) (hw : Region.wanted o (yielded ops a.tmps) = true) (hk : b.kind ≠ .early) (hr : ∀ w, Aside c W w → (execOp a.eval o).run P w = .ok (.value v) w)
    (he : ∀ w, Aside c W w → ∀ e ∈ (execOp a.eval o).events P w #[], EvP e) (hg : Goes P main (RA c W) DR Stop n (G (b.at (a.put o.dst v) (.inRegion ops rest :: k)) cs) default) :
    Goes P main (RA c W) DR Stop (n + 1) (G (b.at a (.inRegion ops (i :: rest) :: k)) cs) default :=
  Goes.step rfl fun w₁ h₁ => by
    rw [stepG_value ho hw hk (hr w₁ h₁)]
    exact ⟨⟨⟨w₁.drawn, rfl⟩, fun e h => he w₁ h₁ e (mem_listed h)⟩, goes_any hg⟩
theorem Go_.draw {id : Nat} (h : ∀ t, Goes P main (RA c W) DR Stop n (G (b.at a (.inRegion ops (Region.schedule (P.follows .mixedOrders) ops t) :: k)) cs) default) :
    Goes P main (RA c W) DR Stop (n + 1) (G (b.at a (.code (.region id ops true) :: k)) cs) default :=
  Goes.step rfl fun w₁ h₁ => by
    have e : stepG P main (G (b.at a (.code (.region id ops true) :: k)) cs) w₁ = .go (G (b.at a (.inRegion ops (Region.schedule (P.follows .mixedOrders) ops (w₁.tape w₁.drawn (.order b.fn id))) :: k)) cs) (w₁.at (w₁.drawn + 1)) := by
      simp [G, stepG, stepG.exec, Frame.at, choose, Sem.run, Question.forced, Question.cut, World.at]
    rw [e]
    exact ⟨⟨⟨_, rfl⟩, by simp⟩, goes_any (h _)⟩
end
theorem Go_.stop {g : Goroutine} (h : ∀ w, Aside c W w → Stop g w) : Goes P main (RA c W) DR Stop n g default := Goes.stop h
theorem Go_.more {m : Nat} {g : Goroutine} {w : World} (h : Goes P main (RA c W) DR Stop n g w) (hm : n ≤ m) : Goes P main (RA c W) DR Stop m g w := by
  obtain ⟨k, rfl⟩ := Nat.exists_eq_add_of_le hm
  induction k with
  | zero => exact h
  | succ k ih => exact (ih (by omega)).more

theorem aside_cell {w : World} (h : Aside c W w) {a : Addr} (hb : a.block ≠ c) : w.cell? a = W.cell? a := by
  unfold World.cell?
  rw [h.block _ hb]
theorem aside_frozen {w : World} (h : Aside c W w) {a : Addr} (hb : a.block ≠ c) : w.frozen? a = W.frozen? a := by
  unfold World.frozen?
  rw [h.block _ hb]

end

open Go Go.Conc Go.RowKit

noncomputable def bot : Frame := { (default : Frame) with fn := Try.prog.funcs.size, defers := [], mode := .panicking [goexitEntry] }
noncomputable def bodyK : Code := Try.f43.body.getD .skip
def bK : Frame := baseD 43
def callK (aS aA aG aW : Addr) : Deferred := { target := .fn (.func 43) #[.pointer (some aS), .pointer (some aA), .pointer (some aG), .pointer (some aW)], args := #[] }
theorem born_stepK (aS aA aG aW : Addr) (w : World) : stepG Try.prog false (born Try.prog (callK aS aA aG aW)) w =
    .go (G (bK.at ⟨#[.pointer (some aS), .pointer (some aA), .pointer (some aG), .pointer (some aW), undef, undef, undef, undef, undef, undef, undef, undef, undef, undef, undef, undef, undef], []⟩ [.code bodyK]) [bot]) w := by
  simp [born, callK, stepG, unwind, callDeferred, invoke, callFunc, Try.func43, Try.f43, seen, GStep.after, G, Frame.enter, Frame.at, bK, baseD, bot, bodyK]

/-- What the worker reads. -/
structure KF (c : Nat) (aS aA aG aW : Addr) (am gr : Int) (g n cap : Nat) (f : Int → Int) (w : World) : Prop where
  cS : w.cell? aS = some (.chan (some c))
  cA : w.cell? aA = some (.int .i64 am)
  cG : w.cell? aG = some (.int .i64 gr)
  cW : w.cell? aW = some (sl g n cap)
  el : ∀ j : Nat, j < n → w.cell? ⟨g, j, none⟩ = some (.int .i64 (f j))
theorem KF.aside {c : Nat} {aS aA aG aW : Addr} {am gr : Int} {g n cap : Nat} {f : Int → Int} {W w : World} (h : KF c aS aA aG aW am gr g n cap f W) (h1 : aS.block ≠ c) (h2 : aA.block ≠ c) (h3 : aG.block ≠ c) (h4 : aW.block ≠ c) (h5 : g ≠ c) (hw : Aside c W w) :
    KF c aS aA aG aW am gr g n cap f w :=
  ⟨(aside_cell hw h1).trans h.cS, (aside_cell hw h2).trans h.cA, (aside_cell hw h3).trans h.cG, (aside_cell hw h4).trans h.cW, fun j hj => (aside_cell hw (a := ⟨g, j, none⟩) h5).trans (h.el j hj)⟩

section
variable {P : Program} {main : Bool} {c : Nat} {W : World} {Stop : Goroutine → World → Prop} {n : Nat} {b : Frame} {a : Act} {k : List Item} {cs : List Frame} {ops : Array Oper} {i : Nat} {rest : List Nat} {o : Oper}
theorem Go_.dfr (d : Deferred) (ho : ops[i]? = some o) (hw : Region.wanted o (yielded ops a.tmps) = true) (hk : b.kind ≠ .early) (hr : ∀ w, (execOp a.eval o).run P w = .ok (.defer d) w) (he : ∀ w, (execOp a.eval o).events P w #[] = #[])
    (hg : Goes P main (RA c W) DR Stop n (G (b.at (Act.put ⟨a.tmps, d :: a.defers⟩ o.dst undef) (.inRegion ops rest :: k)) cs) default) :
    Goes P main (RA c W) DR Stop (n + 1) (G (b.at a (.inRegion ops (i :: rest) :: k)) cs) default := by
  refine Go_.ctl rfl (fun w => ?_) hg
  have hfin : (b.at ⟨a.tmps, d :: a.defers⟩ (.inRegion ops (i :: rest) :: k)).finish undef = b.at (Act.put ⟨a.tmps, d :: a.defers⟩ o.dst undef) (.inRegion ops rest :: k) := by rw [Frame.finish_at, ho]; rfl
  have hk' : (b.kind == CallKind.early) = false := by simpa using hk
  rw [stepG_oper ho hw, ← hfin]
  simp [stepG.apply, hr, he, G, Frame.at, hk', GStep.after, seen_none]
end

/-- The loop's round. -/
def loopOf : Code → Code
  | .seq _ (.seq _ (.block _ (.loop c))) => c
  | c => c
noncomputable def codeL : Code := loopOf bodyK
/-- What it has still to do at its end: the close. -/
def dcl (c : Nat) : Deferred := { target := .builtin .close #[61] 0 #[false], args := #[.chan (some c)] }
/-- At the loop's head. -/
noncomputable def HW (aS aA aG aW : Addr) (c : Nat) (am left : Int) (j7 j8 j9 j10 j11 j12 j13 j14 j15 j16 : Value) : Goroutine :=
  G (bK.at ⟨#[.pointer (some aS), .pointer (some aA), .pointer (some aG), .pointer (some aW), .int .i64 left, .chan (some c), .int .i64 am, j7, j8, j9, j10, j11, j12, j13, j14, j15, j16], [dcl c]⟩ [.code codeL, .inLoop codeL, .inBlock 0]) [bot]

set_option maxRecDepth 100000 in
theorem worker_birth {c : Nat} {aS aA aG aW : Addr} {am gr : Int} {g n cap : Nat} {f : Int → Int} {W : World} {Stop : Goroutine → World → Prop} {m : Nat} (hF : ∀ w, Aside c W w → KF c aS aA aG aW am gr g n cap f w)
    (hg : Goes Try.prog false (RA c W) DR Stop m (HW aS aA aG aW c am am undef undef undef undef undef undef undef undef undef undef) default) :
    Goes Try.prog false (RA c W) DR Stop (m + 13) (born Try.prog (callK aS aA aG aW)) default := by
  refine Go_.ctl rfl (born_stepK aS aA aG aW) ?_
  simp only [bodyK, Try.f43, Option.getD_some]
  refine Go_.ctl rfl (fun w => stepG_seq) ?_
  refine Go_.ctl rfl (fun w => stepG_region) ?_
  simp only [List.size_toArray, List.length_cons, List.length_nil, Nat.reduceAdd, Nat.zero_add, List.range, List.range.loop]
  refine Go_.val (.chan (some c)) rfl rfl (by decide) (fun w hw => ?_) (fun w hw e he => ?_) ?_
  · have h1 := (hF w hw).cS
    simp [go_sem, execOp, Act.eval, h1]
  · have h1 := (hF w hw).cS
    simp [go_sem, execOp, Act.eval, h1] at he
    exact ⟨_, he⟩
  walk_nrm
  refine Go_.dfr (dcl c) rfl rfl (by decide) (fun w => by simp [execOp, resolve, Act.eval, dcl]) (fun w => by simp [execOp, resolve, Act.eval]) ?_
  walk_nrm
  refine Go_.ctl rfl (fun w => stepG_region_end) ?_
  refine Go_.ctl rfl (fun w => stepG_seq) ?_
  refine Go_.ctl rfl (fun w => stepG_region) ?_
  simp only [List.size_toArray, List.length_cons, List.length_nil, Nat.reduceAdd, Nat.zero_add, List.range, List.range.loop]
  refine Go_.val (.int .i64 am) rfl rfl (by decide) (fun w hw => ?_) (fun w hw e he => ?_) ?_
  · have h1 := (hF w hw).cA
    simp [go_sem, execOp, Act.eval, h1]
  · have h1 := (hF w hw).cA
    simp [go_sem, execOp, Act.eval, h1] at he
    exact ⟨_, he⟩
  walk_nrm
  refine Go_.val (.int .i64 am) rfl rfl (by decide) (fun w hw => by simp [go_sem, execOp, Act.eval]) (fun w hw e he => by simp [go_sem, execOp, Act.eval] at he) ?_
  walk_nrm
  refine Go_.ctl rfl (fun w => stepG_region_end) ?_
  refine Go_.ctl rfl (fun w => stepG_block) ?_
  refine Go_.ctl rfl (fun w => stepG_loop) ?_
  exact hg

end

open Go Go.Conc Go.RowKit

/-- The region with the send, whose order is drawn. -/
def opsOf : Code → Array Oper
  | .seq _ (.seq (.block _ (.region _ ops _)) _) => ops
  | _ => #[]
def regThree : Code → Code
  | .seq _ (.seq _ r) => r
  | c => c
noncomputable def opsR : Array Oper := opsOf codeL
noncomputable def reg3 : Code := regThree codeL
noncomputable abbrev lin (fuel t : Nat) (L : Array Bool) : List Nat := Region.linearise.go .any opsR fuel t L []

theorem opsR_size : opsR.size = 6 := by rfl
theorem lin_step {fuel t : Nat} {L : Array Bool} {rs : List Nat} (hr : Region.ready .any opsR L = rs) (hne : rs ≠ []) : ∃ i ∈ rs, ∃ t', lin (fuel + 1) t L = i :: lin fuel t' (L.setIfInBounds i true) := by
  have hlt : t % rs.length < rs.length := Nat.mod_lt _ (List.length_pos_iff.2 hne)
  refine ⟨rs[t % rs.length], List.getElem_mem hlt, t / rs.length, ?_⟩
  show Region.linearise.go .any opsR (fuel + 1) t L [] = _
  simp only [Region.linearise.go]
  change (match (Region.ready .any opsR L)[t % (Region.ready .any opsR L).length]? with
      | some i => Region.linearise.go .any opsR fuel (t / (Region.ready .any opsR L).length) (L.setIfInBounds i true) [i]
      | none => [].reverse) = _
  rw [hr, List.getElem?_eq_getElem hlt]
  simp only []
  rw [linearise_go_acc, List.reverse_singleton, List.singleton_append]

section
variable {aS aA aG aW : Addr} {c : Nat} {am left gr : Int} {j7 j8 j9 j10 j11 : Value} {g n cap : Nat} {f : Int → Int} {W : World} {Stop : Goroutine → World → Prop} {m : Nat}
noncomputable def SR (aS aA aG aW : Addr) (c : Nat) (am left : Int) (j7 j8 j9 j10 j11 x12 x13 x14 x15 x16 : Value) (l : List Nat) : Goroutine :=
  G (bK.at ⟨#[.pointer (some aS), .pointer (some aA), .pointer (some aG), .pointer (some aW), .int .i64 left, .chan (some c), .int .i64 am, j7, j8, j9, j10, j11, x12, x13, x14, x15, x16], [dcl c]⟩ [.inRegion opsR l, .inBlock 1, .code reg3, .inLoop codeL, .inBlock 0]) [bot]

theorem opR0 : ∃ o, opsR[0]? = some o ∧ o.dst = some 12 ∧ o.op = .load 61 (.tmp 0) ∧ o.guard = none := ⟨_, rfl, rfl, rfl, rfl⟩
theorem opR1 : ∃ o, opsR[1]? = some o ∧ o.dst = some 13 ∧ o.op = .load 23 (.tmp 3) ∧ o.guard = none := ⟨_, rfl, rfl, rfl, rfl⟩
theorem opR2 : ∃ o, opsR[2]? = some o ∧ o.dst = some 14 ∧ o.op = .move (.tmp 4) ∧ o.guard = none := ⟨_, rfl, rfl, rfl, rfl⟩
theorem opR3 : ∃ o, opsR[3]? = some o ∧ o.dst = some 15 ∧ o.op = .indexAddr 23 (.tmp 13) (.tmp 14) ∧ o.guard = none := ⟨_, rfl, rfl, rfl, rfl⟩
theorem opR4 : ∃ o, opsR[4]? = some o ∧ o.dst = some 16 ∧ o.op = .load 3 (.tmp 15) ∧ o.guard = none := ⟨_, rfl, rfl, rfl, rfl⟩
theorem opR5 : ∃ o, opsR[5]? = some o ∧ o.dst = none ∧ o.op = .send (.tmp 12) (.tmp 16) ∧ o.guard = none := ⟨_, rfl, rfl, rfl, rfl⟩
theorem wanted_none {o : Oper} (h : o.guard = none) (y : Nat → Option Bool) : Region.wanted o y = true := by unfold Region.wanted; rw [h]

theorem sr0 (hF : ∀ w, Aside c W w → KF c aS aA aG aW am gr g n cap f w) (x12 x13 x14 x15 x16 : Value) (l : List Nat) (h : Goes Try.prog false (RA c W) DR Stop m (SR aS aA aG aW c am left j7 j8 j9 j10 j11 (.chan (some c)) x13 x14 x15 x16 l) default) : Goes Try.prog false (RA c W) DR Stop (m + 1) (SR aS aA aG aW c am left j7 j8 j9 j10 j11 x12 x13 x14 x15 x16 (0 :: l)) default := by
  obtain ⟨o, ho, hd, hop, hg⟩ := opR0
  refine Go_.val (.chan (some c)) ho (wanted_none hg _) (by decide) (fun w hw => ?_) (fun w hw e he => ?_) (by rw [hd]; exact h)
  · have h1 := (hF w hw).cS
    unfold execOp
    simp [go_sem, hop, Act.eval, h1]
  · have h1 := (hF w hw).cS
    unfold execOp at he
    simp [go_sem, hop, Act.eval, h1] at he
    exact ⟨_, he⟩
theorem sr1 (hF : ∀ w, Aside c W w → KF c aS aA aG aW am gr g n cap f w) (x12 x13 x14 x15 x16 : Value) (l : List Nat) (h : Goes Try.prog false (RA c W) DR Stop m (SR aS aA aG aW c am left j7 j8 j9 j10 j11 x12 (sl g n cap) x14 x15 x16 l) default) : Goes Try.prog false (RA c W) DR Stop (m + 1) (SR aS aA aG aW c am left j7 j8 j9 j10 j11 x12 x13 x14 x15 x16 (1 :: l)) default := by
  obtain ⟨o, ho, hd, hop, hg⟩ := opR1
  refine Go_.val (sl g n cap) ho (wanted_none hg _) (by decide) (fun w hw => ?_) (fun w hw e he => ?_) (by rw [hd]; exact h)
  · have h1 := (hF w hw).cW
    unfold execOp
    simp [go_sem, hop, Act.eval, h1]
  · have h1 := (hF w hw).cW
    unfold execOp at he
    simp [go_sem, hop, Act.eval, h1] at he
    exact ⟨_, he⟩
theorem sr2 (x12 x13 x14 x15 x16 : Value) (l : List Nat) (h : Goes Try.prog false (RA c W) DR Stop m (SR aS aA aG aW c am left j7 j8 j9 j10 j11 x12 x13 (.int .i64 left) x15 x16 l) default) : Goes Try.prog false (RA c W) DR Stop (m + 1) (SR aS aA aG aW c am left j7 j8 j9 j10 j11 x12 x13 x14 x15 x16 (2 :: l)) default := by
  obtain ⟨o, ho, hd, hop, hg⟩ := opR2
  refine Go_.val (.int .i64 left) ho (wanted_none hg _) (by decide) (fun w hw => ?_) (fun w hw e he => ?_) (by rw [hd]; exact h)
  · unfold execOp
    simp [go_sem, hop, Act.eval]
  · unfold execOp at he
    simp [go_sem, hop, Act.eval] at he
theorem sr3 {k : Nat} (hk : k < n) (hl : left = k) (x12 x15 x16 : Value) (l : List Nat) (h : Goes Try.prog false (RA c W) DR Stop m (SR aS aA aG aW c am left j7 j8 j9 j10 j11 x12 (sl g n cap) (.int .i64 left) (.pointer (some ⟨g, k, none⟩)) x16 l) default) : Goes Try.prog false (RA c W) DR Stop (m + 1) (SR aS aA aG aW c am left j7 j8 j9 j10 j11 x12 (sl g n cap) (.int .i64 left) x15 x16 (3 :: l)) default := by
  obtain ⟨o, ho, hd, hop, hg⟩ := opR3
  have h1 : (k : Int) < (n : Int) := by omega
  refine Go_.val (.pointer (some ⟨g, k, none⟩)) ho (wanted_none hg _) (by decide) (fun w hw => ?_) (fun w hw e he => ?_) (by rw [hd]; exact h)
  · unfold execOp
    simp [go_sem, hop, Act.eval, hl, h1]
  · unfold execOp at he
    simp [go_sem, hop, Act.eval, hl, h1] at he
theorem sr4 (hF : ∀ w, Aside c W w → KF c aS aA aG aW am gr g n cap f w) {k : Nat} (hk : k < n) (x12 x13 x14 x16 : Value) (l : List Nat) (h : Goes Try.prog false (RA c W) DR Stop m (SR aS aA aG aW c am left j7 j8 j9 j10 j11 x12 x13 x14 (.pointer (some ⟨g, k, none⟩)) (.int .i64 (f k)) l) default) : Goes Try.prog false (RA c W) DR Stop (m + 1) (SR aS aA aG aW c am left j7 j8 j9 j10 j11 x12 x13 x14 (.pointer (some ⟨g, k, none⟩)) x16 (4 :: l)) default := by
  obtain ⟨o, ho, hd, hop, hg⟩ := opR4
  refine Go_.val (.int .i64 (f k)) ho (wanted_none hg _) (by decide) (fun w hw => ?_) (fun w hw e he => ?_) (by rw [hd]; exact h)
  · have h1 := (hF w hw).el k hk
    unfold execOp
    simp [go_sem, hop, Act.eval, h1]
  · have h1 := (hF w hw).el k hk
    unfold execOp at he
    simp [go_sem, hop, Act.eval, h1] at he
    exact ⟨_, he⟩

/-- It stands at the send. -/
theorem sr5 {Next : Goroutine → Prop} {v x13 x14 x15 : Value} (h : Next (SR aS aA aG aW c am left j7 j8 j9 j10 j11 (.chan (some c)) x13 x14 x15 v [])) : AtSnd Try.prog c W v Next (SR aS aA aG aW c am left j7 j8 j9 j10 j11 (.chan (some c)) x13 x14 x15 v [5]) := by
  obtain ⟨o, ho, hd, hop, hg⟩ := opR5
  have e1 : ∀ w, (execOp (Act.eval ⟨#[.pointer (some aS), .pointer (some aA), .pointer (some aG), .pointer (some aW), .int .i64 left, .chan (some c), .int .i64 am, j7, j8, j9, j10, j11, .chan (some c), x13, x14, x15, v], [dcl c]⟩) o).run Try.prog w = .ok (.comm #[scase c v (.tuple #[])] true .send) w := fun w => by
    unfold execOp
    simp [go_sem, hop, Act.eval, scase]
  have e2 : ∀ w, (execOp (Act.eval ⟨#[.pointer (some aS), .pointer (some aA), .pointer (some aG), .pointer (some aW), .int .i64 left, .chan (some c), .int .i64 am, j7, j8, j9, j10, j11, .chan (some c), x13, x14, x15, v], [dcl c]⟩) o).events Try.prog w #[] = #[] := fun w => by
    unfold execOp
    simp [go_sem, hop, Act.eval]
  refine ⟨rfl, SR aS aA aG aW c am left j7 j8 j9 j10 j11 (.chan (some c)) x13 x14 x15 v [5], .tuple #[], #[], by simp, fun w _ => ?_, ?_⟩
  · unfold SR
    rw [stepG_comm ho (wanted_none hg _) (by decide) (e1 w), listed_none (e2 w)]
  · have : Go.Conc.served (SR aS aA aG aW c am left j7 j8 j9 j10 j11 (.chan (some c)) x13 x14 x15 v [5]) undef = SR aS aA aG aW c am left j7 j8 j9 j10 j11 (.chan (some c)) x13 x14 x15 v [] := by
      unfold SR
      rw [served_fr, Frame.finish_at, ho]
      simp only [Option.bind_some, hd, Act.put]
    rw [this]; exact h

/-- WHATEVER ORDER IS DRAWN: it comes to the send of what stands in the table. -/
theorem sr_walk (hF : ∀ w, Aside c W w → KF c aS aA aG aW am gr g n cap f w) {k : Nat} (hk : k < n) (hl : left = k) {Next : Goroutine → Prop}
    (h : Next (SR aS aA aG aW c am left j7 j8 j9 j10 j11 (.chan (some c)) (sl g n cap) (.int .i64 left) (.pointer (some ⟨g, k, none⟩)) (.int .i64 (f k)) [])) (x12 x13 x14 x15 x16 : Value) (t : Nat) :
    Goes Try.prog false (RA c W) DR (fun g _ => AtSnd Try.prog c W (.int .i64 (f k)) Next g) 5 (SR aS aA aG aW c am left j7 j8 j9 j10 j11 x12 x13 x14 x15 x16 (lin 6 t #[false, false, false, false, false, false])) default := by
  have s01234 : ∀ t : Nat, Goes Try.prog false (RA c W) DR (fun g _ => AtSnd Try.prog c W (.int .i64 (f k)) Next g) 0 (SR aS aA aG aW c am left j7 j8 j9 j10 j11 (.chan (some c)) (sl g n cap) (.int .i64 left) (.pointer (some ⟨g, k, none⟩)) (.int .i64 (f k)) (lin 1 t #[true, true, true, true, true, false])) default := by
    intro  t
    obtain ⟨i, hi, t', e⟩ := lin_step (fuel := 0) (t := t) (L := #[true, true, true, true, true, false]) (rs := [5]) (by kernel_rfl) (by simp)
    rw [e]
    simp only [List.mem_cons, List.not_mem_nil, or_false] at hi
    subst hi
    · exact fun _ _ => sr5 h
  have s0123 : ∀ (x16 : Value) (t : Nat), Goes Try.prog false (RA c W) DR (fun g _ => AtSnd Try.prog c W (.int .i64 (f k)) Next g) 1 (SR aS aA aG aW c am left j7 j8 j9 j10 j11 (.chan (some c)) (sl g n cap) (.int .i64 left) (.pointer (some ⟨g, k, none⟩)) x16 (lin 2 t #[true, true, true, true, false, false])) default := by
    intro x16 t
    obtain ⟨i, hi, t', e⟩ := lin_step (fuel := 1) (t := t) (L := #[true, true, true, true, false, false]) (rs := [4]) (by kernel_rfl) (by simp)
    rw [e]
    simp only [List.mem_cons, List.not_mem_nil, or_false] at hi
    subst hi
    · exact sr4 hF hk _ _ _ _ _ (s01234  t')
  have s1234 : ∀ (x12 : Value) (t : Nat), Goes Try.prog false (RA c W) DR (fun g _ => AtSnd Try.prog c W (.int .i64 (f k)) Next g) 1 (SR aS aA aG aW c am left j7 j8 j9 j10 j11 x12 (sl g n cap) (.int .i64 left) (.pointer (some ⟨g, k, none⟩)) (.int .i64 (f k)) (lin 2 t #[false, true, true, true, true, false])) default := by
    intro x12 t
    obtain ⟨i, hi, t', e⟩ := lin_step (fuel := 1) (t := t) (L := #[false, true, true, true, true, false]) (rs := [0]) (by kernel_rfl) (by simp)
    rw [e]
    simp only [List.mem_cons, List.not_mem_nil, or_false] at hi
    subst hi
    · exact sr0 hF _ _ _ _ _ _ (s01234  t')
  have s012 : ∀ (x15 x16 : Value) (t : Nat), Goes Try.prog false (RA c W) DR (fun g _ => AtSnd Try.prog c W (.int .i64 (f k)) Next g) 2 (SR aS aA aG aW c am left j7 j8 j9 j10 j11 (.chan (some c)) (sl g n cap) (.int .i64 left) x15 x16 (lin 3 t #[true, true, true, false, false, false])) default := by
    intro x15 x16 t
    obtain ⟨i, hi, t', e⟩ := lin_step (fuel := 2) (t := t) (L := #[true, true, true, false, false, false]) (rs := [3]) (by kernel_rfl) (by simp)
    rw [e]
    simp only [List.mem_cons, List.not_mem_nil, or_false] at hi
    subst hi
    · exact sr3 hk hl _ _ _ _ (s0123 x16 t')
  have s123 : ∀ (x12 x16 : Value) (t : Nat), Goes Try.prog false (RA c W) DR (fun g _ => AtSnd Try.prog c W (.int .i64 (f k)) Next g) 2 (SR aS aA aG aW c am left j7 j8 j9 j10 j11 x12 (sl g n cap) (.int .i64 left) (.pointer (some ⟨g, k, none⟩)) x16 (lin 3 t #[false, true, true, true, false, false])) default := by
    intro x12 x16 t
    obtain ⟨i, hi, t', e⟩ := lin_step (fuel := 2) (t := t) (L := #[false, true, true, true, false, false]) (rs := [0, 4]) (by kernel_rfl) (by simp)
    rw [e]
    simp only [List.mem_cons, List.not_mem_nil, or_false] at hi
    rcases hi with rfl | rfl
    · exact sr0 hF _ _ _ _ _ _ (s0123 x16 t')
    · exact sr4 hF hk _ _ _ _ _ (s1234 x12 t')
  have s01 : ∀ (x14 x15 x16 : Value) (t : Nat), Goes Try.prog false (RA c W) DR (fun g _ => AtSnd Try.prog c W (.int .i64 (f k)) Next g) 3 (SR aS aA aG aW c am left j7 j8 j9 j10 j11 (.chan (some c)) (sl g n cap) x14 x15 x16 (lin 4 t #[true, true, false, false, false, false])) default := by
    intro x14 x15 x16 t
    obtain ⟨i, hi, t', e⟩ := lin_step (fuel := 3) (t := t) (L := #[true, true, false, false, false, false]) (rs := [2]) (by kernel_rfl) (by simp)
    rw [e]
    simp only [List.mem_cons, List.not_mem_nil, or_false] at hi
    subst hi
    · exact sr2 _ _ _ _ _ _ (s012 x15 x16 t')
  have s02 : ∀ (x13 x15 x16 : Value) (t : Nat), Goes Try.prog false (RA c W) DR (fun g _ => AtSnd Try.prog c W (.int .i64 (f k)) Next g) 3 (SR aS aA aG aW c am left j7 j8 j9 j10 j11 (.chan (some c)) x13 (.int .i64 left) x15 x16 (lin 4 t #[true, false, true, false, false, false])) default := by
    intro x13 x15 x16 t
    obtain ⟨i, hi, t', e⟩ := lin_step (fuel := 3) (t := t) (L := #[true, false, true, false, false, false]) (rs := [1]) (by kernel_rfl) (by simp)
    rw [e]
    simp only [List.mem_cons, List.not_mem_nil, or_false] at hi
    subst hi
    · exact sr1 hF _ _ _ _ _ _ (s012 x15 x16 t')
  have s12 : ∀ (x12 x15 x16 : Value) (t : Nat), Goes Try.prog false (RA c W) DR (fun g _ => AtSnd Try.prog c W (.int .i64 (f k)) Next g) 3 (SR aS aA aG aW c am left j7 j8 j9 j10 j11 x12 (sl g n cap) (.int .i64 left) x15 x16 (lin 4 t #[false, true, true, false, false, false])) default := by
    intro x12 x15 x16 t
    obtain ⟨i, hi, t', e⟩ := lin_step (fuel := 3) (t := t) (L := #[false, true, true, false, false, false]) (rs := [0, 3]) (by kernel_rfl) (by simp)
    rw [e]
    simp only [List.mem_cons, List.not_mem_nil, or_false] at hi
    rcases hi with rfl | rfl
    · exact sr0 hF _ _ _ _ _ _ (s012 x15 x16 t')
    · exact sr3 hk hl _ _ _ _ (s123 x12 x16 t')
  have s0 : ∀ (x13 x14 x15 x16 : Value) (t : Nat), Goes Try.prog false (RA c W) DR (fun g _ => AtSnd Try.prog c W (.int .i64 (f k)) Next g) 4 (SR aS aA aG aW c am left j7 j8 j9 j10 j11 (.chan (some c)) x13 x14 x15 x16 (lin 5 t #[true, false, false, false, false, false])) default := by
    intro x13 x14 x15 x16 t
    obtain ⟨i, hi, t', e⟩ := lin_step (fuel := 4) (t := t) (L := #[true, false, false, false, false, false]) (rs := [1, 2]) (by kernel_rfl) (by simp)
    rw [e]
    simp only [List.mem_cons, List.not_mem_nil, or_false] at hi
    rcases hi with rfl | rfl
    · exact sr1 hF _ _ _ _ _ _ (s01 x14 x15 x16 t')
    · exact sr2 _ _ _ _ _ _ (s02 x13 x15 x16 t')
  have s1 : ∀ (x12 x14 x15 x16 : Value) (t : Nat), Goes Try.prog false (RA c W) DR (fun g _ => AtSnd Try.prog c W (.int .i64 (f k)) Next g) 4 (SR aS aA aG aW c am left j7 j8 j9 j10 j11 x12 (sl g n cap) x14 x15 x16 (lin 5 t #[false, true, false, false, false, false])) default := by
    intro x12 x14 x15 x16 t
    obtain ⟨i, hi, t', e⟩ := lin_step (fuel := 4) (t := t) (L := #[false, true, false, false, false, false]) (rs := [0, 2]) (by kernel_rfl) (by simp)
    rw [e]
    simp only [List.mem_cons, List.not_mem_nil, or_false] at hi
    rcases hi with rfl | rfl
    · exact sr0 hF _ _ _ _ _ _ (s01 x14 x15 x16 t')
    · exact sr2 _ _ _ _ _ _ (s12 x12 x15 x16 t')
  have s2 : ∀ (x12 x13 x15 x16 : Value) (t : Nat), Goes Try.prog false (RA c W) DR (fun g _ => AtSnd Try.prog c W (.int .i64 (f k)) Next g) 4 (SR aS aA aG aW c am left j7 j8 j9 j10 j11 x12 x13 (.int .i64 left) x15 x16 (lin 5 t #[false, false, true, false, false, false])) default := by
    intro x12 x13 x15 x16 t
    obtain ⟨i, hi, t', e⟩ := lin_step (fuel := 4) (t := t) (L := #[false, false, true, false, false, false]) (rs := [0, 1]) (by kernel_rfl) (by simp)
    rw [e]
    simp only [List.mem_cons, List.not_mem_nil, or_false] at hi
    rcases hi with rfl | rfl
    · exact sr0 hF _ _ _ _ _ _ (s02 x13 x15 x16 t')
    · exact sr1 hF _ _ _ _ _ _ (s12 x12 x15 x16 t')
  have s : ∀ (x12 x13 x14 x15 x16 : Value) (t : Nat), Goes Try.prog false (RA c W) DR (fun g _ => AtSnd Try.prog c W (.int .i64 (f k)) Next g) 5 (SR aS aA aG aW c am left j7 j8 j9 j10 j11 x12 x13 x14 x15 x16 (lin 6 t #[false, false, false, false, false, false])) default := by
    intro x12 x13 x14 x15 x16 t
    obtain ⟨i, hi, t', e⟩ := lin_step (fuel := 5) (t := t) (L := #[false, false, false, false, false, false]) (rs := [0, 1, 2]) (by kernel_rfl) (by simp)
    rw [e]
    simp only [List.mem_cons, List.not_mem_nil, or_false] at hi
    rcases hi with rfl | rfl | rfl
    · exact sr0 hF _ _ _ _ _ _ (s0 x13 x14 x15 x16 t')
    · exact sr1 hF _ _ _ _ _ _ (s1 x12 x14 x15 x16 t')
    · exact sr2 _ _ _ _ _ _ (s2 x12 x13 x15 x16 t')
  exact s x12 x13 x14 x15 x16 t
end

end

open Go Go.Conc Go.RowKit

/-- What is sent, from amount l on. -/
def outs (f : Int → Int) (gr : Nat) : Nat → Nat → List Int
  | 0, _ => []
  | fuel + 1, l => f l :: if gr ≤ l then outs f gr fuel (l - gr) else []

section
variable {aS aA aG aW : Addr} {c : Nat} {am left gr : Int} {g n cap : Nat} {f : Int → Int} {W : World} {Stop : Goroutine → World → Prop} {m : Nat}

set_option maxRecDepth 100000 in
theorem head_yes (h0 : 0 ≤ left) (j7 j8 j9 j10 j11 x12 x13 x14 x15 x16 : Value)
    (hg : ∀ t, Goes Try.prog false (RA c W) DR Stop m (SR aS aA aG aW c am left (.int .i64 left) (.bool true) j9 j10 j11 x12 x13 x14 x15 x16 (lin 6 t #[false, false, false, false, false, false])) default) :
    Goes Try.prog false (RA c W) DR Stop (m + 11) (HW aS aA aG aW c am left j7 j8 j9 j10 j11 x12 x13 x14 x15 x16) default := by
  have hsch : ∀ t, ∃ t', Region.schedule (Try.prog.follows .mixedOrders) opsR t = lin 6 t' #[false, false, false, false, false, false] := fun t => by
    have hdep : Region.departs opsR = false := by kernel_rfl
    refine ⟨t, ?_⟩
    unfold Region.schedule
    simp only [hdep, Bool.not_false, Bool.or_true, if_true]
    rfl
  unfold HW
  simp only [codeL, loopOf, bodyK, Try.f43, Option.getD_some]
  refine Go_.ctl rfl (fun w => stepG_seq) ?_
  refine Go_.ctl rfl (fun w => stepG_seq) ?_
  refine Go_.ctl rfl (fun w => stepG_region) ?_
  simp only [List.size_toArray, List.length_cons, List.length_nil, Nat.reduceAdd, Nat.zero_add, List.range, List.range.loop]
  refine Go_.val (.int .i64 left) rfl rfl (by decide) (fun w hw => by simp [go_sem, execOp, Act.eval]) (fun w hw e he => by simp [go_sem, execOp, Act.eval] at he) ?_
  walk_nrm
  refine Go_.val (.bool true) rfl rfl (by decide) (fun w hw => by simp [go_sem, execOp, Act.eval, h0]) (fun w hw e he => by simp [go_sem, execOp, Act.eval] at he) ?_
  walk_nrm
  refine Go_.ctl rfl (fun w => stepG_region_end) ?_
  refine Go_.ctl rfl (fun w => stepG_cond (t := true) rfl) ?_
  simp only [if_true]
  refine Go_.ctl rfl (fun w => stepG_skip) ?_
  refine Go_.ctl rfl (fun w => stepG_seq) ?_
  refine Go_.ctl rfl (fun w => stepG_block) ?_
  refine Go_.draw fun t => ?_
  obtain ⟨t', e⟩ := hsch t
  have := hg t'
  rw [← e] at this
  exact this

set_option maxRecDepth 100000 in
theorem round_back (hF : ∀ w, Aside c W w → KF c aS aA aG aW am gr g n cap f w) (hw64 : IntKind.i64.wrap (left - gr) = left - gr) (j7 j8 j9 j10 j11 x12 x13 x14 x15 x16 : Value)
    (hg : Goes Try.prog false (RA c W) DR Stop m (HW aS aA aG aW c am (left - gr) j7 j8 (.int .i64 left) (.int .i64 gr) (.int .i64 (left - gr)) x12 x13 x14 x15 x16) default) :
    Goes Try.prog false (RA c W) DR Stop (m + 9) (SR aS aA aG aW c am left j7 j8 j9 j10 j11 x12 x13 x14 x15 x16 []) default := by
  unfold SR
  refine Go_.ctl rfl (fun w => stepG_region_end) ?_
  refine Go_.ctl rfl (fun w => stepG_inBlock) ?_
  simp only [reg3, regThree, codeL, loopOf, bodyK, Try.f43, Option.getD_some]
  refine Go_.ctl rfl (fun w => stepG_region) ?_
  simp only [List.size_toArray, List.length_cons, List.length_nil, Nat.reduceAdd, Nat.zero_add, List.range, List.range.loop]
  refine Go_.val (.int .i64 left) rfl rfl (by decide) (fun w hw => by simp [go_sem, execOp, Act.eval]) (fun w hw e he => by simp [go_sem, execOp, Act.eval] at he) ?_
  walk_nrm
  refine Go_.val (.int .i64 gr) rfl rfl (by decide) (fun w hw => ?_) (fun w hw e he => ?_) ?_
  · have h1 := (hF w hw).cG
    simp [go_sem, execOp, Act.eval, h1]
  · have h1 := (hF w hw).cG
    simp [go_sem, execOp, Act.eval, h1] at he
    exact ⟨_, he⟩
  walk_nrm
  refine Go_.val (.int .i64 (left - gr)) rfl rfl (by decide) (fun w hw => by simp [go_sem, execOp, Act.eval, hw64]) (fun w hw e he => by simp [go_sem, execOp, Act.eval] at he) ?_
  walk_nrm
  refine Go_.val (.int .i64 (left - gr)) rfl rfl (by decide) (fun w hw => by simp [go_sem, execOp, Act.eval]) (fun w hw e he => by simp [go_sem, execOp, Act.eval] at he) ?_
  walk_nrm
  refine Go_.ctl rfl (fun w => stepG_region_end) ?_
  refine Go_.ctl rfl (fun w => stepG_inLoop) ?_
  exact hg

theorem stepG_end' {P : Program} {main : Bool} {b : Frame} {a : Act} {cs : List Frame} {w : World} : stepG P main (G (b.at a []) cs) w = .go (G { b.at a [] with mode := .returning } cs) w := stepG_end

/-- The literal's own way out: it only leaves. -/
theorem quitsTail (T : Array Value) : QuitsD Try.prog 2 0 (G { bK.at ⟨T, []⟩ [] with mode := .returning } [bot]) := by
  refine QuitsD.ctl (g' := G bot []) rfl (fun w => ?_) ?_
  · simp [G, stepG, unwind, doReturn, results, Frame.at, bK, baseD, bot, Try.func43, Try.f43, seen, GStep.after, goexitEntry]
  refine QuitsD.ctl (g' := { G bot [] with status := .finished }) rfl (fun w => ?_) ⟨rfl, rfl⟩
  simp [G, stepG, unwind, bot, goexitEntry, Frame.catches]
  rfl

/-- The deferred close. -/
theorem at_close (T : Array Value) : AtCls Try.prog c W (G { bK.at ⟨T, [dcl c]⟩ [] with mode := .returning } [bot]) := by
  refine ⟨rfl, rfl, G { bK.at ⟨T, []⟩ [] with mode := .returning } [bot], 2, rfl, fun w s _ hc => ?_, quitsTail T⟩
  have hq : (Try.prog.funcs[bK.fn]?).any (·.norace) = false := by kernel_rfl
  have hr : (invoke (dcl c).target (dcl c).args).run Try.prog w = .ok (.value (.tuple #[])) (w.setChan c 0 #[] true s s false) := by
    simp [dcl, invoke, builtin, run_close_open _ _ hc, World.setChan]
  have hl : (invoke (dcl c).target (dcl c).args).events Try.prog w #[] = closeEvents c := by
    simp [dcl, invoke, builtin, events_close_open _ _ hc, closeEvents]
  have hs : seen Try.prog bK.fn (closeEvents c) = closeEvents c := seen_eq hq (by intro e he f; simp only [closeEvents, List.mem_toArray, List.mem_cons, List.not_mem_nil, or_false] at he; rcases he with rfl | rfl <;> simp)
  have hrt : (invoke (dcl c).target (dcl c).args).runT Try.prog w #[] = (.ok (.value (.tuple #[])) (w.setChan c 0 #[] true s s false), closeEvents c) := by
    rw [Sem.runT_eq, hr, hl]
  have hcd : callDeferred Try.prog { bK.at ⟨T, []⟩ [] with mode := .returning } [bot] none (dcl c) w = .go (G { bK.at ⟨T, []⟩ [] with mode := .returning } [bot]) (w.setChan c 0 #[] true s s false) (closeEvents c) := by
    unfold callDeferred
    rw [hrt]
    dsimp only [dcl]
    simp only [Bool.false_and, Bool.false_eq_true, if_false]
    rw [show ({ bK.at ⟨T, []⟩ [] with mode := .returning } : Frame).fn = bK.fn from rfl, hs]
    simp [GStep.after, G]
  exact hcd

set_option maxRecDepth 100000 in
theorem head_no (h0 : left < 0) (j7 j8 j9 j10 j11 x12 x13 x14 x15 x16 : Value) :
    Goes Try.prog false (RA c W) DR (fun g _ => AtCls Try.prog c W g) 9 (HW aS aA aG aW c am left j7 j8 j9 j10 j11 x12 x13 x14 x15 x16) default := by
  have h1 : ¬ 0 ≤ left := by omega
  unfold HW
  simp only [codeL, loopOf, bodyK, Try.f43, Option.getD_some]
  refine Go_.ctl rfl (fun w => stepG_seq) ?_
  refine Go_.ctl rfl (fun w => stepG_seq) ?_
  refine Go_.ctl rfl (fun w => stepG_region) ?_
  simp only [List.size_toArray, List.length_cons, List.length_nil, Nat.reduceAdd, Nat.zero_add, List.range, List.range.loop]
  refine Go_.val (.int .i64 left) rfl rfl (by decide) (fun w hw => by simp [go_sem, execOp, Act.eval]) (fun w hw e he => by simp [go_sem, execOp, Act.eval] at he) ?_
  walk_nrm
  refine Go_.val (.bool false) rfl rfl (by decide) (fun w hw => by simp [go_sem, execOp, Act.eval, h1]) (fun w hw e he => by simp [go_sem, execOp, Act.eval] at he) ?_
  walk_nrm
  refine Go_.ctl rfl (fun w => stepG_region_end) ?_
  refine Go_.ctl rfl (fun w => stepG_cond (t := false) rfl) ?_
  simp only [Bool.false_eq_true, if_false]
  refine Go_.ctl rfl (fun w => stepG_exit rfl) ?_
  refine Go_.ctl rfl (fun w => stepG_end) ?_
  exact fun _ _ => at_close _

theorem snd_pre {vs : List Value} {g g' : Goroutine} {k : Nat} (h : ∀ (Stop : Goroutine → World → Prop) (m : Nat), Goes Try.prog false (RA c W) DR Stop m g' default → Goes Try.prog false (RA c W) DR Stop (m + k) g default) (hs : Snd Try.prog c W vs g') : Snd Try.prog c W vs g := by
  cases vs with
  | nil => exact ⟨_, h _ _ hs.choose_spec⟩
  | cons v vs => exact ⟨_, h _ _ hs.choose_spec⟩

theorem worker_sends {gr : Nat} (hF : ∀ w, Aside c W w → KF c aS aA aG aW am gr g n cap f w) (hg : 1 ≤ gr ∧ gr ≤ 30) (hn : n ≤ 2000) : ∀ (fuel l : Nat), l < fuel → l < n → ∀ j7 j8 j9 j10 j11 x12 x13 x14 x15 x16,
    Snd Try.prog c W ((outs f gr fuel l).map (.int .i64)) (HW aS aA aG aW c am l j7 j8 j9 j10 j11 x12 x13 x14 x15 x16) := by
  intro fuel
  induction fuel with
  | zero => intro l hl; omega
  | succ fuel ih =>
    intro l hl hln j7 j8 j9 j10 j11 x12 x13 x14 x15 x16
    have hw64 : IntKind.i64.wrap ((l : Int) - (gr : Int)) = (l : Int) - (gr : Int) := IntWalk.i64_in _ ⟨by omega, by omega⟩
    simp only [outs, List.map_cons]
    refine ⟨16, head_yes (by omega) _ _ _ _ _ _ _ _ _ _ fun t => ?_⟩
    refine sr_walk hF hln rfl ?_ _ _ _ _ _ t
    refine snd_pre (k := 9) (fun Stop m h => round_back hF hw64 _ _ _ _ _ _ _ _ _ _ h) ?_
    by_cases hgl : gr ≤ l
    · rw [if_pos hgl]
      have := ih (l - gr) (by omega) (by omega) (.int .i64 l) (.bool true) (.int .i64 l) (.int .i64 gr) (.int .i64 ((l : Int) - (gr : Int))) (.chan (some c)) (sl g n cap) (.int .i64 l) (.pointer (some ⟨g, l, none⟩)) (.int .i64 (f l))
      rw [show ((l - gr : Nat) : Int) = (l : Int) - (gr : Int) by omega] at this
      exact this
    · rw [if_neg hgl]
      exact ⟨9, head_no (by omega) _ _ _ _ _ _ _ _ _ _⟩

/-- ████ THE WORKER's SCRIPT. ████ -/
theorem worker_all {gr l : Nat} (hF : ∀ w, Aside c W w → KF c aS aA aG aW l gr g (l + 1) cap f w) (hg : 1 ≤ gr ∧ gr ≤ 30) (hl : l ≤ 1900) :
    Snd Try.prog c W ((outs f gr (l + 1) l).map (.int .i64)) (born Try.prog (callK aS aA aG aW)) :=
  snd_pre (k := 13) (fun Stop m h => worker_birth hF h) (worker_sends hF hg (by omega) (l + 1) l (Nat.lt_succ_self _) (Nat.lt_succ_self _) _ _ _ _ _ _ _ _ _ _)
end

end Go.Proofs.Ytkhmooemgjichaa
