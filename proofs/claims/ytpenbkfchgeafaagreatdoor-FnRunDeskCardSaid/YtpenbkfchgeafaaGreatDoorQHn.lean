/- The worker of WaysOf, whole: it sends the ways of each amount that is left, closes, and leaves. More rules beside leavers: blocks, loops, operations that are not wanted, statements one after the other. WaysOf receives: its loop over the channel. -/
import Derived.Test.YtpenbkfchgeafaaGreatDoorQHh
import Derived.Conc.DeferLaws
import Derived.Conc.TokenWords
import Derived.Laws.ByValue
import Derived.Test.YtpenbkfchgeafaaGreatDoorChecked
import Derived.Test.YtpenbkfchgeafaaGreatDoorQPush
import Derived.Orders
import Derived.KernelRfl
import Derived.IntWalk
import Derived.Conc.Own5
namespace Go.Proofs.YtpenbkfchgeafaaGreatDoor

section
section
section
open Go Go.Conc Go.RowKit
variable {P : Program} {c : Nat} {W : World} {main : Bool} {Stop : Goroutine → World → Prop} {n : Nat}

theorem goes_any {g : Goroutine} {w w' : World} (h : Goes P main (RA c W) DR Stop n g w) : Goes P main (RA c W) DR Stop n g w' := by
  cases n <;> exact h
theorem Go_.ctl {g g' : Goroutine} (hs : g.status = .running) (h : ∀ w, stepG P main g w = .go g' w) (hg : Goes P main (RA c W) DR Stop n g' default) : Goes P main (RA c W) DR Stop (n + 1) g default :=
  Goes.step hs fun w₁ _ => by rw [h]; exact ⟨⟨⟨w₁.drawn, rfl⟩, by simp⟩, goes_any hg⟩
theorem Go_.ctlW {g g' : Goroutine} (hs : g.status = .running) (h : ∀ w, Aside c W w → stepG P main g w = .go g' w) (hg : Goes P main (RA c W) DR Stop n g' default) : Goes P main (RA c W) DR Stop (n + 1) g default :=
  Goes.step hs fun w₁ h₁ => by rw [h w₁ h₁]; exact ⟨⟨⟨w₁.drawn, rfl⟩, by simp⟩, goes_any hg⟩
section
variable {b : Frame} {a : Act} {k : List Item} {cs : List Frame} {ops : Array Oper} {i : Nat} {rest : List Nat} {o : Oper}
/-- An operation that yields a value, and turns nothing. -/
theorem Go_.val (v : Value) (ho : ops[i]? = some o) (hw : Region.wanted o (yielded ops a.tmps) = true) (hk : b.kind ≠ .early) (hr : ∀ w, Aside c W w → (execOp a.eval o).run P w = .ok (.value v) w)
    (he : ∀ w, Aside c W w → ∀ e ∈ (execOp a.eval o).events P w #[], EvP e) (hg : Goes P main (RA c W) DR Stop n (G (b.at (a.put o.dst v) (.inRegion ops rest :: k)) cs) default) :
    Goes P main (RA c W) DR Stop (n + 1) (G (b.at a (.inRegion ops (i :: rest) :: k)) cs) default :=
  Goes.step rfl fun w₁ h₁ => by
    rw [stepG_value ho hw hk (hr w₁ h₁)]
    exact ⟨⟨⟨w₁.drawn, rfl⟩, fun e h => he w₁ h₁ e (mem_listed h)⟩, goes_any hg⟩
theorem Go_.draw {id : Nat} (h : ∀ t, Goes P main (RA c W) DR Stop n (G (b.at a (.inRegion ops (Region.schedule (P.follows .mixedOrders) ops t) :: k)) cs) default) :
    Goes P main (RA c W) DR Stop (n + 1) (G (b.at a (.code (.region id ops true) :: k)) cs) default :=
  Goes.step rfl fun w₁ h₁ => by
    have e : stepG P main (G (b.at a (.code (.region id ops true) :: k)) cs) w₁ = .go (G (b.at a (.inRegion ops (Region.schedule (P.follows .mixedOrders) ops (w₁.tape w₁.drawn (.order b.fn id))) :: k)) cs) (w₁.at (w₁.drawn + 1)) := by
      simp [G, stepG, stepG.exec, Frame.at, choose, Sem.run, Question.forced, Question.cut, World.at]
    rw [e]
    exact ⟨⟨⟨_, rfl⟩, by simp⟩, goes_any (h _)⟩
end
theorem Go_.stop {g : Goroutine} (h : ∀ w, Aside c W w → Stop g w) : Goes P main (RA c W) DR Stop n g default := Goes.stop h
theorem Go_.more {m : Nat} {g : Goroutine} {w : World} (h : Goes P main (RA c W) DR Stop n g w) (hm : n ≤ m) : Goes P main (RA c W) DR Stop m g w := by
  obtain ⟨k, rfl⟩ := Nat.exists_eq_add_of_le hm
  induction k with
  | zero => exact h
  | succ k ih => exact (ih (by omega)).more

theorem aside_cell {w : World} (h : Aside c W w) {a : Addr} (hb : a.block ≠ c) : w.cell? a = W.cell? a := by
  unfold World.cell?
  rw [h.block _ hb]
theorem aside_frozen {w : World} (h : Aside c W w) {a : Addr} (hb : a.block ≠ c) : w.frozen? a = W.frozen? a := by
  unfold World.frozen?
  rw [h.block _ hb]

end

open Go Go.Conc Go.RowKit

noncomputable def bot : Frame := { (default : Frame) with fn := Tryz.prog.funcs.size, defers := [], mode := .panicking [goexitEntry] }
noncomputable def bodyK : Code := Tryz.f107.body.getD .skip
def bK : Frame := baseD 107
def callK (aS aA aG aW : Addr) : Deferred := { target := .fn (.func 107) #[.pointer (some aS), .pointer (some aA), .pointer (some aG), .pointer (some aW)], args := #[] }
theorem born_stepK (aS aA aG aW : Addr) (w : World) : stepG Tryz.prog false (born Tryz.prog (callK aS aA aG aW)) w =
    .go (G (bK.at ⟨#[.pointer (some aS), .pointer (some aA), .pointer (some aG), .pointer (some aW), undef, undef, undef, undef, undef, undef, undef, undef, undef, undef, undef, undef, undef], []⟩ [.code bodyK]) [bot]) w := by
  simp [born, callK, stepG, unwind, callDeferred, invoke, callFunc, Tryz.func107, Tryz.f107, seen, GStep.after, G, Frame.enter, Frame.at, bK, baseD, bot, bodyK]

/-- What the worker reads. -/
structure KF (c : Nat) (aS aA aG aW : Addr) (am gr : Int) (g n cap : Nat) (f : Int → Int) (w : World) : Prop where
  cS : w.cell? aS = some (.chan (some c))
  cA : w.cell? aA = some (.int .i64 am)
  cG : w.cell? aG = some (.int .i64 gr)
  cW : w.cell? aW = some (sl g n cap)
  el : ∀ j : Nat, j < n → w.cell? ⟨g, j, none⟩ = some (.int .i64 (f j))
theorem KF.aside {c : Nat} {aS aA aG aW : Addr} {am gr : Int} {g n cap : Nat} {f : Int → Int} {W w : World} (h : KF c aS aA aG aW am gr g n cap f W) (h1 : aS.block ≠ c) (h2 : aA.block ≠ c) (h3 : aG.block ≠ c) (h4 : aW.block ≠ c) (h5 : g ≠ c) (hw : Aside c W w) :
    KF c aS aA aG aW am gr g n cap f w :=
  ⟨(aside_cell hw h1).trans h.cS, (aside_cell hw h2).trans h.cA, (aside_cell hw h3).trans h.cG, (aside_cell hw h4).trans h.cW, fun j hj => (aside_cell hw (a := ⟨g, j, none⟩) h5).trans (h.el j hj)⟩

section
variable {P : Program} {main : Bool} {c : Nat} {W : World} {Stop : Goroutine → World → Prop} {n : Nat} {b : Frame} {a : Act} {k : List Item} {cs : List Frame} {ops : Array Oper} {i : Nat} {rest : List Nat} {o : Oper}
theorem Go_.dfr (d : Deferred) (ho : ops[i]? = some o) (hw : Region.wanted o (yielded ops a.tmps) = true) (hk : b.kind ≠ .early) (hr : ∀ w, (execOp a.eval o).run P w = .ok (.defer d) w) (he : ∀ w, (execOp a.eval o).events P w #[] = #[])
    (hg : Goes P main (RA c W) DR Stop n (G (b.at (Act.put ⟨a.tmps, d :: a.defers⟩ o.dst undef) (.inRegion ops rest :: k)) cs) default) :
    Goes P main (RA c W) DR Stop (n + 1) (G (b.at a (.inRegion ops (i :: rest) :: k)) cs) default := by
  refine Go_.ctl rfl (fun w => ?_) hg
  have hfin : (b.at ⟨a.tmps, d :: a.defers⟩ (.inRegion ops (i :: rest) :: k)).finish undef = b.at (Act.put ⟨a.tmps, d :: a.defers⟩ o.dst undef) (.inRegion ops rest :: k) := by rw [Frame.finish_at, ho]; rfl
  have hk' : (b.kind == CallKind.early) = false := by simpa using hk
  rw [stepG_oper ho hw, ← hfin]
  simp [stepG.apply, hr, he, G, Frame.at, hk', GStep.after, seen_none]
end

/-- The loop's round. -/
def loopOf : Code → Code
  | .seq _ (.seq _ (.block _ (.loop c))) => c
  | c => c
noncomputable def codeL : Code := loopOf bodyK
/-- What it has still to do at its end: the close. -/
def dcl (c : Nat) : Deferred := { target := .builtin .close #[143] 0 #[false], args := #[.chan (some c)] }
/-- At the loop's head. -/
noncomputable def HW (aS aA aG aW : Addr) (c : Nat) (am left : Int) (j7 j8 j9 j10 j11 j12 j13 j14 j15 j16 : Value) : Goroutine :=
  G (bK.at ⟨#[.pointer (some aS), .pointer (some aA), .pointer (some aG), .pointer (some aW), .int .i64 left, .chan (some c), .int .i64 am, j7, j8, j9, j10, j11, j12, j13, j14, j15, j16], [dcl c]⟩ [.code codeL, .inLoop codeL, .inBlock 0]) [bot]

set_option maxRecDepth 100000 in
theorem worker_birth {c : Nat} {aS aA aG aW : Addr} {am gr : Int} {g n cap : Nat} {f : Int → Int} {W : World} {Stop : Goroutine → World → Prop} {m : Nat} (hF : ∀ w, Aside c W w → KF c aS aA aG aW am gr g n cap f w)
    (hg : Goes Tryz.prog false (RA c W) DR Stop m (HW aS aA aG aW c am am undef undef undef undef undef undef undef undef undef undef) default) :
    Goes Tryz.prog false (RA c W) DR Stop (m + 13) (born Tryz.prog (callK aS aA aG aW)) default := by
  refine Go_.ctl rfl (born_stepK aS aA aG aW) ?_
  simp only [bodyK, Tryz.f107, Option.getD_some]
  refine Go_.ctl rfl (fun w => stepG_seq) ?_
  refine Go_.ctl rfl (fun w => stepG_region) ?_
  simp only [List.size_toArray, List.length_cons, List.length_nil, Nat.reduceAdd, Nat.zero_add, List.range, List.range.loop]
  refine Go_.val (.chan (some c)) rfl rfl (by decide) (fun w hw => ?_) (fun w hw e he => ?_) ?_
  · have h1 := (hF w hw).cS
    simp [go_sem, execOp, Act.eval, h1]
  · have h1 := (hF w hw).cS
    simp [go_sem, execOp, Act.eval, h1] at he
    exact ⟨_, he⟩
  walk_nrm
  refine Go_.dfr (dcl c) rfl rfl (by decide) (fun w => by simp [execOp, resolve, Act.eval, dcl]) (fun w => by simp [execOp, resolve, Act.eval]) ?_
  walk_nrm
  refine Go_.ctl rfl (fun w => stepG_region_end) ?_
  refine Go_.ctl rfl (fun w => stepG_seq) ?_
  refine Go_.ctl rfl (fun w => stepG_region) ?_
  simp only [List.size_toArray, List.length_cons, List.length_nil, Nat.reduceAdd, Nat.zero_add, List.range, List.range.loop]
  refine Go_.val (.int .i64 am) rfl rfl (by decide) (fun w hw => ?_) (fun w hw e he => ?_) ?_
  · have h1 := (hF w hw).cA
    simp [go_sem, execOp, Act.eval, h1]
  · have h1 := (hF w hw).cA
    simp [go_sem, execOp, Act.eval, h1] at he
    exact ⟨_, he⟩
  walk_nrm
  refine Go_.val (.int .i64 am) rfl rfl (by decide) (fun w hw => by simp [go_sem, execOp, Act.eval]) (fun w hw e he => by simp [go_sem, execOp, Act.eval] at he) ?_
  walk_nrm
  refine Go_.ctl rfl (fun w => stepG_region_end) ?_
  refine Go_.ctl rfl (fun w => stepG_block) ?_
  refine Go_.ctl rfl (fun w => stepG_loop) ?_
  exact hg

end

open Go Go.Conc Go.RowKit

/-- The region with the send, whose order is drawn. -/
def opsOf : Code → Array Oper
  | .seq _ (.seq (.block _ (.region _ ops _)) _) => ops
  | _ => #[]
def regThree : Code → Code
  | .seq _ (.seq _ r) => r
  | c => c
noncomputable def opsR : Array Oper := opsOf codeL
noncomputable def reg3 : Code := regThree codeL
noncomputable abbrev lin (fuel t : Nat) (L : Array Bool) : List Nat := Region.linearise.go .any opsR fuel t L []

theorem opsR_size : opsR.size = 6 := by rfl
theorem lin_step {fuel t : Nat} {L : Array Bool} {rs : List Nat} (hr : Region.ready .any opsR L = rs) (hne : rs ≠ []) : ∃ i ∈ rs, ∃ t', lin (fuel + 1) t L = i :: lin fuel t' (L.setIfInBounds i true) := by
  have hlt : t % rs.length < rs.length := Nat.mod_lt _ (List.length_pos_iff.2 hne)
  refine ⟨rs[t % rs.length], List.getElem_mem hlt, t / rs.length, ?_⟩
  show Region.linearise.go .any opsR (fuel + 1) t L [] = _
  simp only [Region.linearise.go]
  change (match (Region.ready .any opsR L)[t % (Region.ready .any opsR L).length]? with
      | some i => Region.linearise.go .any opsR fuel (t / (Region.ready .any opsR L).length) (L.setIfInBounds i true) [i]
      | none => [].reverse) = _
  rw [hr, List.getElem?_eq_getElem hlt]
  simp only []
  rw [linearise_go_acc, List.reverse_singleton, List.singleton_append]

section
variable {aS aA aG aW : Addr} {c : Nat} {am left gr : Int} {j7 j8 j9 j10 j11 : Value} {g n cap : Nat} {f : Int → Int} {W : World} {Stop : Goroutine → World → Prop} {m : Nat}
noncomputable def SR (aS aA aG aW : Addr) (c : Nat) (am left : Int) (j7 j8 j9 j10 j11 x12 x13 x14 x15 x16 : Value) (l : List Nat) : Goroutine :=
  G (bK.at ⟨#[.pointer (some aS), .pointer (some aA), .pointer (some aG), .pointer (some aW), .int .i64 left, .chan (some c), .int .i64 am, j7, j8, j9, j10, j11, x12, x13, x14, x15, x16], [dcl c]⟩ [.inRegion opsR l, .inBlock 1, .code reg3, .inLoop codeL, .inBlock 0]) [bot]

theorem opR0 : ∃ o, opsR[0]? = some o ∧ o.dst = some 12 ∧ o.op = .load 143 (.tmp 0) ∧ o.guard = none := ⟨_, rfl, rfl, rfl, rfl⟩
theorem opR1 : ∃ o, opsR[1]? = some o ∧ o.dst = some 13 ∧ o.op = .load 35 (.tmp 3) ∧ o.guard = none := ⟨_, rfl, rfl, rfl, rfl⟩
theorem opR2 : ∃ o, opsR[2]? = some o ∧ o.dst = some 14 ∧ o.op = .move (.tmp 4) ∧ o.guard = none := ⟨_, rfl, rfl, rfl, rfl⟩
theorem opR3 : ∃ o, opsR[3]? = some o ∧ o.dst = some 15 ∧ o.op = .indexAddr 35 (.tmp 13) (.tmp 14) ∧ o.guard = none := ⟨_, rfl, rfl, rfl, rfl⟩
theorem opR4 : ∃ o, opsR[4]? = some o ∧ o.dst = some 16 ∧ o.op = .load 3 (.tmp 15) ∧ o.guard = none := ⟨_, rfl, rfl, rfl, rfl⟩
theorem opR5 : ∃ o, opsR[5]? = some o ∧ o.dst = none ∧ o.op = .send (.tmp 12) (.tmp 16) ∧ o.guard = none := ⟨_, rfl, rfl, rfl, rfl⟩
theorem wanted_none {o : Oper} (h : o.guard = none) (y : Nat → Option Bool) : Region.wanted o y = true := by unfold Region.wanted; rw [h]

theorem sr0 (hF : ∀ w, Aside c W w → KF c aS aA aG aW am gr g n cap f w) (x12 x13 x14 x15 x16 : Value) (l : List Nat) (h : Goes Tryz.prog false (RA c W) DR Stop m (SR aS aA aG aW c am left j7 j8 j9 j10 j11 (.chan (some c)) x13 x14 x15 x16 l) default) : Goes Tryz.prog false (RA c W) DR Stop (m + 1) (SR aS aA aG aW c am left j7 j8 j9 j10 j11 x12 x13 x14 x15 x16 (0 :: l)) default := by
  obtain ⟨o, ho, hd, hop, hg⟩ := opR0
  refine Go_.val (.chan (some c)) ho (wanted_none hg _) (by decide) (fun w hw => ?_) (fun w hw e he => ?_) (by rw [hd]; exact h)
  · have h1 := (hF w hw).cS
    unfold execOp
    simp [go_sem, hop, Act.eval, h1]
  · have h1 := (hF w hw).cS
    unfold execOp at he
    simp [go_sem, hop, Act.eval, h1] at he
    exact ⟨_, he⟩
theorem sr1 (hF : ∀ w, Aside c W w → KF c aS aA aG aW am gr g n cap f w) (x12 x13 x14 x15 x16 : Value) (l : List Nat) (h : Goes Tryz.prog false (RA c W) DR Stop m (SR aS aA aG aW c am left j7 j8 j9 j10 j11 x12 (sl g n cap) x14 x15 x16 l) default) : Goes Tryz.prog false (RA c W) DR Stop (m + 1) (SR aS aA aG aW c am left j7 j8 j9 j10 j11 x12 x13 x14 x15 x16 (1 :: l)) default := by
  obtain ⟨o, ho, hd, hop, hg⟩ := opR1
  refine Go_.val (sl g n cap) ho (wanted_none hg _) (by decide) (fun w hw => ?_) (fun w hw e he => ?_) (by rw [hd]; exact h)
  · have h1 := (hF w hw).cW
    unfold execOp
    simp [go_sem, hop, Act.eval, h1]
  · have h1 := (hF w hw).cW
    unfold execOp at he
    simp [go_sem, hop, Act.eval, h1] at he
    exact ⟨_, he⟩
theorem sr2 (x12 x13 x14 x15 x16 : Value) (l : List Nat) (h : Goes Tryz.prog false (RA c W) DR Stop m (SR aS aA aG aW c am left j7 j8 j9 j10 j11 x12 x13 (.int .i64 left) x15 x16 l) default) : Goes Tryz.prog false (RA c W) DR Stop (m + 1) (SR aS aA aG aW c am left j7 j8 j9 j10 j11 x12 x13 x14 x15 x16 (2 :: l)) default := by
  obtain ⟨o, ho, hd, hop, hg⟩ := opR2
  refine Go_.val (.int .i64 left) ho (wanted_none hg _) (by decide) (fun w hw => ?_) (fun w hw e he => ?_) (by rw [hd]; exact h)
  · unfold execOp
    simp [go_sem, hop, Act.eval]
  · unfold execOp at he
    simp [go_sem, hop, Act.eval] at he
theorem sr3 {k : Nat} (hk : k < n) (hl : left = k) (x12 x15 x16 : Value) (l : List Nat) (h : Goes Tryz.prog false (RA c W) DR Stop m (SR aS aA aG aW c am left j7 j8 j9 j10 j11 x12 (sl g n cap) (.int .i64 left) (.pointer (some ⟨g, k, none⟩)) x16 l) default) : Goes Tryz.prog false (RA c W) DR Stop (m + 1) (SR aS aA aG aW c am left j7 j8 j9 j10 j11 x12 (sl g n cap) (.int .i64 left) x15 x16 (3 :: l)) default := by
  obtain ⟨o, ho, hd, hop, hg⟩ := opR3
  have h1 : (k : Int) < (n : Int) := by omega
  refine Go_.val (.pointer (some ⟨g, k, none⟩)) ho (wanted_none hg _) (by decide) (fun w hw => ?_) (fun w hw e he => ?_) (by rw [hd]; exact h)
  · unfold execOp
    simp [go_sem, hop, Act.eval, hl, h1]
  · unfold execOp at he
    simp [go_sem, hop, Act.eval, hl, h1] at he
theorem sr4 (hF : ∀ w, Aside c W w → KF c aS aA aG aW am gr g n cap f w) {k : Nat} (hk : k < n) (x12 x13 x14 x16 : Value) (l : List Nat) (h : Goes Tryz.prog false (RA c W) DR Stop m (SR aS aA aG aW c am left j7 j8 j9 j10 j11 x12 x13 x14 (.pointer (some ⟨g, k, none⟩)) (.int .i64 (f k)) l) default) : Goes Tryz.prog false (RA c W) DR Stop (m + 1) (SR aS aA aG aW c am left j7 j8 j9 j10 j11 x12 x13 x14 (.pointer (some ⟨g, k, none⟩)) x16 (4 :: l)) default := by
  obtain ⟨o, ho, hd, hop, hg⟩ := opR4
  refine Go_.val (.int .i64 (f k)) ho (wanted_none hg _) (by decide) (fun w hw => ?_) (fun w hw e he => ?_) (by rw [hd]; exact h)
  · have h1 := (hF w hw).el k hk
    unfold execOp
    simp [go_sem, hop, Act.eval, h1]
  · have h1 := (hF w hw).el k hk
    unfold execOp at he
    simp [go_sem, hop, Act.eval, h1] at he
    exact ⟨_, he⟩

/-- It stands at the send. -/
theorem sr5 {Next : Goroutine → Prop} {v x13 x14 x15 : Value} (h : Next (SR aS aA aG aW c am left j7 j8 j9 j10 j11 (.chan (some c)) x13 x14 x15 v [])) : AtSnd Tryz.prog c W v Next (SR aS aA aG aW c am left j7 j8 j9 j10 j11 (.chan (some c)) x13 x14 x15 v [5]) := by
  obtain ⟨o, ho, hd, hop, hg⟩ := opR5
  have e1 : ∀ w, (execOp (Act.eval ⟨#[.pointer (some aS), .pointer (some aA), .pointer (some aG), .pointer (some aW), .int .i64 left, .chan (some c), .int .i64 am, j7, j8, j9, j10, j11, .chan (some c), x13, x14, x15, v], [dcl c]⟩) o).run Tryz.prog w = .ok (.comm #[scase c v (.tuple #[])] true .send) w := fun w => by
    unfold execOp
    simp [go_sem, hop, Act.eval, scase]
  have e2 : ∀ w, (execOp (Act.eval ⟨#[.pointer (some aS), .pointer (some aA), .pointer (some aG), .pointer (some aW), .int .i64 left, .chan (some c), .int .i64 am, j7, j8, j9, j10, j11, .chan (some c), x13, x14, x15, v], [dcl c]⟩) o).events Tryz.prog w #[] = #[] := fun w => by
    unfold execOp
    simp [go_sem, hop, Act.eval]
  refine ⟨rfl, SR aS aA aG aW c am left j7 j8 j9 j10 j11 (.chan (some c)) x13 x14 x15 v [5], .tuple #[], #[], by simp, fun w _ => ?_, ?_⟩
  · unfold SR
    rw [stepG_comm ho (wanted_none hg _) (by decide) (e1 w), listed_none (e2 w)]
  · have : Go.Conc.served (SR aS aA aG aW c am left j7 j8 j9 j10 j11 (.chan (some c)) x13 x14 x15 v [5]) undef = SR aS aA aG aW c am left j7 j8 j9 j10 j11 (.chan (some c)) x13 x14 x15 v [] := by
      unfold SR
      rw [served_fr, Frame.finish_at, ho]
      simp only [Option.bind_some, hd, Act.put]
    rw [this]; exact h

/-- WHATEVER ORDER IS DRAWN: it comes to the send of what stands in the table. -/
theorem sr_walk (hF : ∀ w, Aside c W w → KF c aS aA aG aW am gr g n cap f w) {k : Nat} (hk : k < n) (hl : left = k) {Next : Goroutine → Prop}
    (h : Next (SR aS aA aG aW c am left j7 j8 j9 j10 j11 (.chan (some c)) (sl g n cap) (.int .i64 left) (.pointer (some ⟨g, k, none⟩)) (.int .i64 (f k)) [])) (x12 x13 x14 x15 x16 : Value) (t : Nat) :
    Goes Tryz.prog false (RA c W) DR (fun g _ => AtSnd Tryz.prog c W (.int .i64 (f k)) Next g) 5 (SR aS aA aG aW c am left j7 j8 j9 j10 j11 x12 x13 x14 x15 x16 (lin 6 t #[false, false, false, false, false, false])) default := by
  have s01234 : ∀ t : Nat, Goes Tryz.prog false (RA c W) DR (fun g _ => AtSnd Tryz.prog c W (.int .i64 (f k)) Next g) 0 (SR aS aA aG aW c am left j7 j8 j9 j10 j11 (.chan (some c)) (sl g n cap) (.int .i64 left) (.pointer (some ⟨g, k, none⟩)) (.int .i64 (f k)) (lin 1 t #[true, true, true, true, true, false])) default := by
    intro  t
    obtain ⟨i, hi, t', e⟩ := lin_step (fuel := 0) (t := t) (L := #[true, true, true, true, true, false]) (rs := [5]) (by kernel_rfl) (by simp)
    rw [e]
    simp only [List.mem_cons, List.not_mem_nil, or_false] at hi
    subst hi
    · exact fun _ _ => sr5 h
  have s0123 : ∀ (x16 : Value) (t : Nat), Goes Tryz.prog false (RA c W) DR (fun g _ => AtSnd Tryz.prog c W (.int .i64 (f k)) Next g) 1 (SR aS aA aG aW c am left j7 j8 j9 j10 j11 (.chan (some c)) (sl g n cap) (.int .i64 left) (.pointer (some ⟨g, k, none⟩)) x16 (lin 2 t #[true, true, true, true, false, false])) default := by
    intro x16 t
    obtain ⟨i, hi, t', e⟩ := lin_step (fuel := 1) (t := t) (L := #[true, true, true, true, false, false]) (rs := [4]) (by kernel_rfl) (by simp)
    rw [e]
    simp only [List.mem_cons, List.not_mem_nil, or_false] at hi
    subst hi
    · exact sr4 hF hk _ _ _ _ _ (s01234  t')
  have s1234 : ∀ (x12 : Value) (t : Nat), Goes Tryz.prog false (RA c W) DR (fun g _ => AtSnd Tryz.prog c W (.int .i64 (f k)) Next g) 1 (SR aS aA aG aW c am left j7 j8 j9 j10 j11 x12 (sl g n cap) (.int .i64 left) (.pointer (some ⟨g, k, none⟩)) (.int .i64 (f k)) (lin 2 t #[false, true, true, true, true, false])) default := by
    intro x12 t
    obtain ⟨i, hi, t', e⟩ := lin_step (fuel := 1) (t := t) (L := #[false, true, true, true, true, false]) (rs := [0]) (by kernel_rfl) (by simp)
    rw [e]
    simp only [List.mem_cons, List.not_mem_nil, or_false] at hi
    subst hi
    · exact sr0 hF _ _ _ _ _ _ (s01234  t')
  have s012 : ∀ (x15 x16 : Value) (t : Nat), Goes Tryz.prog false (RA c W) DR (fun g _ => AtSnd Tryz.prog c W (.int .i64 (f k)) Next g) 2 (SR aS aA aG aW c am left j7 j8 j9 j10 j11 (.chan (some c)) (sl g n cap) (.int .i64 left) x15 x16 (lin 3 t #[true, true, true, false, false, false])) default := by
    intro x15 x16 t
    obtain ⟨i, hi, t', e⟩ := lin_step (fuel := 2) (t := t) (L := #[true, true, true, false, false, false]) (rs := [3]) (by kernel_rfl) (by simp)
    rw [e]
    simp only [List.mem_cons, List.not_mem_nil, or_false] at hi
    subst hi
    · exact sr3 hk hl _ _ _ _ (s0123 x16 t')
  have s123 : ∀ (x12 x16 : Value) (t : Nat), Goes Tryz.prog false (RA c W) DR (fun g _ => AtSnd Tryz.prog c W (.int .i64 (f k)) Next g) 2 (SR aS aA aG aW c am left j7 j8 j9 j10 j11 x12 (sl g n cap) (.int .i64 left) (.pointer (some ⟨g, k, none⟩)) x16 (lin 3 t #[false, true, true, true, false, false])) default := by
    intro x12 x16 t
    obtain ⟨i, hi, t', e⟩ := lin_step (fuel := 2) (t := t) (L := #[false, true, true, true, false, false]) (rs := [0, 4]) (by kernel_rfl) (by simp)
    rw [e]
    simp only [List.mem_cons, List.not_mem_nil, or_false] at hi
    rcases hi with rfl | rfl
    · exact sr0 hF _ _ _ _ _ _ (s0123 x16 t')
    · exact sr4 hF hk _ _ _ _ _ (s1234 x12 t')
  have s01 : ∀ (x14 x15 x16 : Value) (t : Nat), Goes Tryz.prog false (RA c W) DR (fun g _ => AtSnd Tryz.prog c W (.int .i64 (f k)) Next g) 3 (SR aS aA aG aW c am left j7 j8 j9 j10 j11 (.chan (some c)) (sl g n cap) x14 x15 x16 (lin 4 t #[true, true, false, false, false, false])) default := by
    intro x14 x15 x16 t
    obtain ⟨i, hi, t', e⟩ := lin_step (fuel := 3) (t := t) (L := #[true, true, false, false, false, false]) (rs := [2]) (by kernel_rfl) (by simp)
    rw [e]
    simp only [List.mem_cons, List.not_mem_nil, or_false] at hi
    subst hi
    · exact sr2 _ _ _ _ _ _ (s012 x15 x16 t')
  have s02 : ∀ (x13 x15 x16 : Value) (t : Nat), Goes Tryz.prog false (RA c W) DR (fun g _ => AtSnd Tryz.prog c W (.int .i64 (f k)) Next g) 3 (SR aS aA aG aW c am left j7 j8 j9 j10 j11 (.chan (some c)) x13 (.int .i64 left) x15 x16 (lin 4 t #[true, false, true, false, false, false])) default := by
    intro x13 x15 x16 t
    obtain ⟨i, hi, t', e⟩ := lin_step (fuel := 3) (t := t) (L := #[true, false, true, false, false, false]) (rs := [1]) (by kernel_rfl) (by simp)
    rw [e]
    simp only [List.mem_cons, List.not_mem_nil, or_false] at hi
    subst hi
    · exact sr1 hF _ _ _ _ _ _ (s012 x15 x16 t')
  have s12 : ∀ (x12 x15 x16 : Value) (t : Nat), Goes Tryz.prog false (RA c W) DR (fun g _ => AtSnd Tryz.prog c W (.int .i64 (f k)) Next g) 3 (SR aS aA aG aW c am left j7 j8 j9 j10 j11 x12 (sl g n cap) (.int .i64 left) x15 x16 (lin 4 t #[false, true, true, false, false, false])) default := by
    intro x12 x15 x16 t
    obtain ⟨i, hi, t', e⟩ := lin_step (fuel := 3) (t := t) (L := #[false, true, true, false, false, false]) (rs := [0, 3]) (by kernel_rfl) (by simp)
    rw [e]
    simp only [List.mem_cons, List.not_mem_nil, or_false] at hi
    rcases hi with rfl | rfl
    · exact sr0 hF _ _ _ _ _ _ (s012 x15 x16 t')
    · exact sr3 hk hl _ _ _ _ (s123 x12 x16 t')
  have s0 : ∀ (x13 x14 x15 x16 : Value) (t : Nat), Goes Tryz.prog false (RA c W) DR (fun g _ => AtSnd Tryz.prog c W (.int .i64 (f k)) Next g) 4 (SR aS aA aG aW c am left j7 j8 j9 j10 j11 (.chan (some c)) x13 x14 x15 x16 (lin 5 t #[true, false, false, false, false, false])) default := by
    intro x13 x14 x15 x16 t
    obtain ⟨i, hi, t', e⟩ := lin_step (fuel := 4) (t := t) (L := #[true, false, false, false, false, false]) (rs := [1, 2]) (by kernel_rfl) (by simp)
    rw [e]
    simp only [List.mem_cons, List.not_mem_nil, or_false] at hi
    rcases hi with rfl | rfl
    · exact sr1 hF _ _ _ _ _ _ (s01 x14 x15 x16 t')
    · exact sr2 _ _ _ _ _ _ (s02 x13 x15 x16 t')
  have s1 : ∀ (x12 x14 x15 x16 : Value) (t : Nat), Goes Tryz.prog false (RA c W) DR (fun g _ => AtSnd Tryz.prog c W (.int .i64 (f k)) Next g) 4 (SR aS aA aG aW c am left j7 j8 j9 j10 j11 x12 (sl g n cap) x14 x15 x16 (lin 5 t #[false, true, false, false, false, false])) default := by
    intro x12 x14 x15 x16 t
    obtain ⟨i, hi, t', e⟩ := lin_step (fuel := 4) (t := t) (L := #[false, true, false, false, false, false]) (rs := [0, 2]) (by kernel_rfl) (by simp)
    rw [e]
    simp only [List.mem_cons, List.not_mem_nil, or_false] at hi
    rcases hi with rfl | rfl
    · exact sr0 hF _ _ _ _ _ _ (s01 x14 x15 x16 t')
    · exact sr2 _ _ _ _ _ _ (s12 x12 x15 x16 t')
  have s2 : ∀ (x12 x13 x15 x16 : Value) (t : Nat), Goes Tryz.prog false (RA c W) DR (fun g _ => AtSnd Tryz.prog c W (.int .i64 (f k)) Next g) 4 (SR aS aA aG aW c am left j7 j8 j9 j10 j11 x12 x13 (.int .i64 left) x15 x16 (lin 5 t #[false, false, true, false, false, false])) default := by
    intro x12 x13 x15 x16 t
    obtain ⟨i, hi, t', e⟩ := lin_step (fuel := 4) (t := t) (L := #[false, false, true, false, false, false]) (rs := [0, 1]) (by kernel_rfl) (by simp)
    rw [e]
    simp only [List.mem_cons, List.not_mem_nil, or_false] at hi
    rcases hi with rfl | rfl
    · exact sr0 hF _ _ _ _ _ _ (s02 x13 x15 x16 t')
    · exact sr1 hF _ _ _ _ _ _ (s12 x12 x15 x16 t')
  have s : ∀ (x12 x13 x14 x15 x16 : Value) (t : Nat), Goes Tryz.prog false (RA c W) DR (fun g _ => AtSnd Tryz.prog c W (.int .i64 (f k)) Next g) 5 (SR aS aA aG aW c am left j7 j8 j9 j10 j11 x12 x13 x14 x15 x16 (lin 6 t #[false, false, false, false, false, false])) default := by
    intro x12 x13 x14 x15 x16 t
    obtain ⟨i, hi, t', e⟩ := lin_step (fuel := 5) (t := t) (L := #[false, false, false, false, false, false]) (rs := [0, 1, 2]) (by kernel_rfl) (by simp)
    rw [e]
    simp only [List.mem_cons, List.not_mem_nil, or_false] at hi
    rcases hi with rfl | rfl | rfl
    · exact sr0 hF _ _ _ _ _ _ (s0 x13 x14 x15 x16 t')
    · exact sr1 hF _ _ _ _ _ _ (s1 x12 x14 x15 x16 t')
    · exact sr2 _ _ _ _ _ _ (s2 x12 x13 x15 x16 t')
  exact s x12 x13 x14 x15 x16 t
end

end

open Go Go.Conc Go.RowKit

/-- What is sent, from amount l on. -/
def outs (f : Int → Int) (gr : Nat) : Nat → Nat → List Int
  | 0, _ => []
  | fuel + 1, l => f l :: if gr ≤ l then outs f gr fuel (l - gr) else []

section
variable {aS aA aG aW : Addr} {c : Nat} {am left gr : Int} {g n cap : Nat} {f : Int → Int} {W : World} {Stop : Goroutine → World → Prop} {m : Nat}

set_option maxRecDepth 100000 in
theorem head_yes (h0 : 0 ≤ left) (j7 j8 j9 j10 j11 x12 x13 x14 x15 x16 : Value)
    (hg : ∀ t, Goes Tryz.prog false (RA c W) DR Stop m (SR aS aA aG aW c am left (.int .i64 left) (.bool true) j9 j10 j11 x12 x13 x14 x15 x16 (lin 6 t #[false, false, false, false, false, false])) default) :
    Goes Tryz.prog false (RA c W) DR Stop (m + 11) (HW aS aA aG aW c am left j7 j8 j9 j10 j11 x12 x13 x14 x15 x16) default := by
  have hsch : ∀ t, ∃ t', Region.schedule (Tryz.prog.follows .mixedOrders) opsR t = lin 6 t' #[false, false, false, false, false, false] := fun t => by
    have hdep : Region.departs opsR = false := by kernel_rfl
    refine ⟨t, ?_⟩
    unfold Region.schedule
    simp only [hdep, Bool.not_false, Bool.or_true, if_true]
    rfl
  unfold HW
  simp only [codeL, loopOf, bodyK, Tryz.f107, Option.getD_some]
  refine Go_.ctl rfl (fun w => stepG_seq) ?_
  refine Go_.ctl rfl (fun w => stepG_seq) ?_
  refine Go_.ctl rfl (fun w => stepG_region) ?_
  simp only [List.size_toArray, List.length_cons, List.length_nil, Nat.reduceAdd, Nat.zero_add, List.range, List.range.loop]
  refine Go_.val (.int .i64 left) rfl rfl (by decide) (fun w hw => by simp [go_sem, execOp, Act.eval]) (fun w hw e he => by simp [go_sem, execOp, Act.eval] at he) ?_
  walk_nrm
  refine Go_.val (.bool true) rfl rfl (by decide) (fun w hw => by simp [go_sem, execOp, Act.eval, h0]) (fun w hw e he => by simp [go_sem, execOp, Act.eval] at he) ?_
  walk_nrm
  refine Go_.ctl rfl (fun w => stepG_region_end) ?_
  refine Go_.ctl rfl (fun w => stepG_cond (t := true) rfl) ?_
  simp only [if_true]
  refine Go_.ctl rfl (fun w => stepG_skip) ?_
  refine Go_.ctl rfl (fun w => stepG_seq) ?_
  refine Go_.ctl rfl (fun w => stepG_block) ?_
  refine Go_.draw fun t => ?_
  obtain ⟨t', e⟩ := hsch t
  have := hg t'
  rw [← e] at this
  exact this

set_option maxRecDepth 100000 in
theorem round_back (hF : ∀ w, Aside c W w → KF c aS aA aG aW am gr g n cap f w) (hw64 : IntKind.i64.wrap (left - gr) = left - gr) (j7 j8 j9 j10 j11 x12 x13 x14 x15 x16 : Value)
    (hg : Goes Tryz.prog false (RA c W) DR Stop m (HW aS aA aG aW c am (left - gr) j7 j8 (.int .i64 left) (.int .i64 gr) (.int .i64 (left - gr)) x12 x13 x14 x15 x16) default) :
    Goes Tryz.prog false (RA c W) DR Stop (m + 9) (SR aS aA aG aW c am left j7 j8 j9 j10 j11 x12 x13 x14 x15 x16 []) default := by
  unfold SR
  refine Go_.ctl rfl (fun w => stepG_region_end) ?_
  refine Go_.ctl rfl (fun w => stepG_inBlock) ?_
  simp only [reg3, regThree, codeL, loopOf, bodyK, Tryz.f107, Option.getD_some]
  refine Go_.ctl rfl (fun w => stepG_region) ?_
  simp only [List.size_toArray, List.length_cons, List.length_nil, Nat.reduceAdd, Nat.zero_add, List.range, List.range.loop]
  refine Go_.val (.int .i64 left) rfl rfl (by decide) (fun w hw => by simp [go_sem, execOp, Act.eval]) (fun w hw e he => by simp [go_sem, execOp, Act.eval] at he) ?_
  walk_nrm
  refine Go_.val (.int .i64 gr) rfl rfl (by decide) (fun w hw => ?_) (fun w hw e he => ?_) ?_
  · have h1 := (hF w hw).cG
    simp [go_sem, execOp, Act.eval, h1]
  · have h1 := (hF w hw).cG
    simp [go_sem, execOp, Act.eval, h1] at he
    exact ⟨_, he⟩
  walk_nrm
  refine Go_.val (.int .i64 (left - gr)) rfl rfl (by decide) (fun w hw => by simp [go_sem, execOp, Act.eval, hw64]) (fun w hw e he => by simp [go_sem, execOp, Act.eval] at he) ?_
  walk_nrm
  refine Go_.val (.int .i64 (left - gr)) rfl rfl (by decide) (fun w hw => by simp [go_sem, execOp, Act.eval]) (fun w hw e he => by simp [go_sem, execOp, Act.eval] at he) ?_
  walk_nrm
  refine Go_.ctl rfl (fun w => stepG_region_end) ?_
  refine Go_.ctl rfl (fun w => stepG_inLoop) ?_
  exact hg

theorem stepG_end' {P : Program} {main : Bool} {b : Frame} {a : Act} {cs : List Frame} {w : World} : stepG P main (G (b.at a []) cs) w = .go (G { b.at a [] with mode := .returning } cs) w := stepG_end

/-- The literal's own way out: it only leaves. -/
theorem quitsTail (T : Array Value) : QuitsD Tryz.prog 2 0 (G { bK.at ⟨T, []⟩ [] with mode := .returning } [bot]) := by
  refine QuitsD.ctl (g' := G bot []) rfl (fun w => ?_) ?_
  · simp [G, stepG, unwind, doReturn, results, Frame.at, bK, baseD, bot, Tryz.func107, Tryz.f107, seen, GStep.after, goexitEntry]
  refine QuitsD.ctl (g' := { G bot [] with status := .finished }) rfl (fun w => ?_) ⟨rfl, rfl⟩
  simp [G, stepG, unwind, bot, goexitEntry, Frame.catches]
  rfl

/-- The deferred close. -/
theorem at_close (T : Array Value) : AtCls Tryz.prog c W (G { bK.at ⟨T, [dcl c]⟩ [] with mode := .returning } [bot]) := by
  refine ⟨rfl, rfl, G { bK.at ⟨T, []⟩ [] with mode := .returning } [bot], 2, rfl, fun w s _ hc => ?_, quitsTail T⟩
  have hq : (Tryz.prog.funcs[bK.fn]?).any (·.norace) = false := by kernel_rfl
  have hr : (invoke (dcl c).target (dcl c).args).run Tryz.prog w = .ok (.value (.tuple #[])) (w.setChan c 0 #[] true s s false) := by
    simp [dcl, invoke, builtin, run_close_open _ _ hc, World.setChan]
  have hl : (invoke (dcl c).target (dcl c).args).events Tryz.prog w #[] = closeEvents c := by
    simp [dcl, invoke, builtin, events_close_open _ _ hc, closeEvents]
  have hs : seen Tryz.prog bK.fn (closeEvents c) = closeEvents c := seen_eq hq (by intro e he f; simp only [closeEvents, List.mem_toArray, List.mem_cons, List.not_mem_nil, or_false] at he; rcases he with rfl | rfl <;> simp)
  have hrt : (invoke (dcl c).target (dcl c).args).runT Tryz.prog w #[] = (.ok (.value (.tuple #[])) (w.setChan c 0 #[] true s s false), closeEvents c) := by
    rw [Sem.runT_eq, hr, hl]
  have hcd : callDeferred Tryz.prog { bK.at ⟨T, []⟩ [] with mode := .returning } [bot] none (dcl c) w = .go (G { bK.at ⟨T, []⟩ [] with mode := .returning } [bot]) (w.setChan c 0 #[] true s s false) (closeEvents c) := by
    unfold callDeferred
    rw [hrt]
    dsimp only [dcl]
    simp only [Bool.false_and, Bool.false_eq_true, if_false]
    rw [show ({ bK.at ⟨T, []⟩ [] with mode := .returning } : Frame).fn = bK.fn from rfl, hs]
    simp [GStep.after, G]
  exact hcd

set_option maxRecDepth 100000 in
theorem head_no (h0 : left < 0) (j7 j8 j9 j10 j11 x12 x13 x14 x15 x16 : Value) :
    Goes Tryz.prog false (RA c W) DR (fun g _ => AtCls Tryz.prog c W g) 9 (HW aS aA aG aW c am left j7 j8 j9 j10 j11 x12 x13 x14 x15 x16) default := by
  have h1 : ¬ 0 ≤ left := by omega
  unfold HW
  simp only [codeL, loopOf, bodyK, Tryz.f107, Option.getD_some]
  refine Go_.ctl rfl (fun w => stepG_seq) ?_
  refine Go_.ctl rfl (fun w => stepG_seq) ?_
  refine Go_.ctl rfl (fun w => stepG_region) ?_
  simp only [List.size_toArray, List.length_cons, List.length_nil, Nat.reduceAdd, Nat.zero_add, List.range, List.range.loop]
  refine Go_.val (.int .i64 left) rfl rfl (by decide) (fun w hw => by simp [go_sem, execOp, Act.eval]) (fun w hw e he => by simp [go_sem, execOp, Act.eval] at he) ?_
  walk_nrm
  refine Go_.val (.bool false) rfl rfl (by decide) (fun w hw => by simp [go_sem, execOp, Act.eval, h1]) (fun w hw e he => by simp [go_sem, execOp, Act.eval] at he) ?_
  walk_nrm
  refine Go_.ctl rfl (fun w => stepG_region_end) ?_
  refine Go_.ctl rfl (fun w => stepG_cond (t := false) rfl) ?_
  simp only [Bool.false_eq_true, if_false]
  refine Go_.ctl rfl (fun w => stepG_exit rfl) ?_
  refine Go_.ctl rfl (fun w => stepG_end) ?_
  exact fun _ _ => at_close _

theorem snd_pre {vs : List Value} {g g' : Goroutine} {k : Nat} (h : ∀ (Stop : Goroutine → World → Prop) (m : Nat), Goes Tryz.prog false (RA c W) DR Stop m g' default → Goes Tryz.prog false (RA c W) DR Stop (m + k) g default) (hs : Snd Tryz.prog c W vs g') : Snd Tryz.prog c W vs g := by
  cases vs with
  | nil => exact ⟨_, h _ _ hs.choose_spec⟩
  | cons v vs => exact ⟨_, h _ _ hs.choose_spec⟩

theorem worker_sends {gr : Nat} (hF : ∀ w, Aside c W w → KF c aS aA aG aW am gr g n cap f w) (hg : 1 ≤ gr ∧ gr ≤ 30) (hn : n ≤ 2000) : ∀ (fuel l : Nat), l < fuel → l < n → ∀ j7 j8 j9 j10 j11 x12 x13 x14 x15 x16,
    Snd Tryz.prog c W ((outs f gr fuel l).map (.int .i64)) (HW aS aA aG aW c am l j7 j8 j9 j10 j11 x12 x13 x14 x15 x16) := by
  intro fuel
  induction fuel with
  | zero => intro l hl; omega
  | succ fuel ih =>
    intro l hl hln j7 j8 j9 j10 j11 x12 x13 x14 x15 x16
    have hw64 : IntKind.i64.wrap ((l : Int) - (gr : Int)) = (l : Int) - (gr : Int) := IntWalk.i64_in _ ⟨by omega, by omega⟩
    simp only [outs, List.map_cons]
    refine ⟨16, head_yes (by omega) _ _ _ _ _ _ _ _ _ _ fun t => ?_⟩
    refine sr_walk hF hln rfl ?_ _ _ _ _ _ t
    refine snd_pre (k := 9) (fun Stop m h => round_back hF hw64 _ _ _ _ _ _ _ _ _ _ h) ?_
    by_cases hgl : gr ≤ l
    · rw [if_pos hgl]
      have := ih (l - gr) (by omega) (by omega) (.int .i64 l) (.bool true) (.int .i64 l) (.int .i64 gr) (.int .i64 ((l : Int) - (gr : Int))) (.chan (some c)) (sl g n cap) (.int .i64 l) (.pointer (some ⟨g, l, none⟩)) (.int .i64 (f l))
      rw [show ((l - gr : Nat) : Int) = (l : Int) - (gr : Int) by omega] at this
      exact this
    · rw [if_neg hgl]
      exact ⟨9, head_no (by omega) _ _ _ _ _ _ _ _ _ _⟩

/-- ████ THE WORKER's SCRIPT. ████ -/
theorem worker_all {gr l : Nat} (hF : ∀ w, Aside c W w → KF c aS aA aG aW l gr g (l + 1) cap f w) (hg : 1 ≤ gr ∧ gr ≤ 30) (hl : l ≤ 1900) :
    Snd Tryz.prog c W ((outs f gr (l + 1) l).map (.int .i64)) (born Tryz.prog (callK aS aA aG aW)) :=
  snd_pre (k := 13) (fun Stop m h => worker_birth hF h) (worker_sends hF hg (by omega) (l + 1) l (Nat.lt_succ_self _) (Nat.lt_succ_self _) _ _ _ _ _ _ _ _ _ _)
end

end Go.Proofs.YtpenbkfchgeafaaGreatDoor

namespace Go.Proofs.YtpenbkfchgeafaaGreatDoor

section
open Go Go.Conc
variable {P : Program} {w : World} {Q : Goroutine → World → Prop} {b : Frame} {a : Act} {k : List Item} {cs : List Frame} {ops : Array Oper} {i : Nat} {rest : List Nat} {o : Oper}

/-- Steps of its own that turn the world. -/
theorem Reach.turn (hP : PlainP P) {g g' : Goroutine} {w' : World} (hg : PlainG g) (hr : g.status = .running) (hr' : g'.status = .running) (h : ∀ τ d, Steps P (solo g (On w τ d)) (solo g' (On w' τ d))) (hQ : PlainG g' → Reach P g' w' Q) (ht : w'.tape = w.tape) : Reach P g w Q := fun d gs sl T q B h0 hL hp => by
  have hS : SoloTo P (fun x u => x = g' ∧ Same w' u) g w := fun τ => by
    obtain ⟨n, e⟩ := h τ 0
    exact ⟨n, g', On w' τ 0, e, hr', rfl, τ, 0, rfl⟩
  obtain ⟨N, gs', x, u, sl', T', q', B', e, k0, ⟨_, kp, rfl, τ, dd, rfl⟩, k2, k3, k4⟩ := Reach.lonely hP (fun x w' τ d h => by obtain ⟨h1, τ', d', rfl⟩ := h; exact ⟨h1, τ, d, rfl⟩) hg hr hS d gs sl T q B h0 hL hp
  have hw : On w' τ dd = w'.at dd := by
    have : τ = w'.tape := k4.trans ht.symm
    rw [this]; rfl
  rw [hw] at e
  obtain ⟨M, gs'', g'', w'', sl'', T'', q'', B'', e', l0, l1, l2, l3, l4⟩ := hQ kp dd gs' sl' T' q' B' k0 k2 k3
  exact ⟨N + M, gs'', g'', w'', sl'', T'', q'', B'', by rw [runNT_add, e]; exact e', l0, l1, l2, l3, l4.trans ht⟩
theorem Reach.opv (hP : PlainP P) (v : Value) (w' : World) (ht : w'.tape = w.tape) (hk : PlainT k) (hcs : PlainC cs) (ho : ops[i]? = some o) (hw : Region.wanted o (yielded ops a.tmps) = true) (hb : b.kind ≠ .early)
    (hr : ∀ τ d, (execOp a.eval o).run P (On w τ d) = .ok (.value v) (On w' τ d)) (hQ : Reach P (G (b.at (a.put o.dst v) (.inRegion ops rest :: k)) cs) w' Q) : Reach P (G (b.at a (.inRegion ops (i :: rest) :: k)) cs) w Q :=
  Reach.turn hP (plain_at (plain_region hk) hcs) rfl (g' := G (b.at (a.put o.dst v) (.inRegion ops rest :: k)) cs) rfl
    (fun τ d => ⟨1, by rw [runN, step, stepT_solo rfl, runT_solo_go (stepG_value (main := true) ho hw hb (hr τ d))]; rfl⟩) (fun _ => hQ) ht
theorem Reach.opn (hP : PlainP P) (w' : World) (ht : w'.tape = w.tape) (hk : PlainT k) (hcs : PlainC cs) (ho : ops[i]? = some o) (hw : Region.wanted o (yielded ops a.tmps) = true) (hb : b.kind ≠ .early)
    (hr : ∀ τ d, (execOp a.eval o).run P (On w τ d) = .ok .skip (On w' τ d)) (hQ : Reach P (G (b.at (a.put o.dst undef) (.inRegion ops rest :: k)) cs) w' Q) : Reach P (G (b.at a (.inRegion ops (i :: rest) :: k)) cs) w Q :=
  Reach.turn hP (plain_at (plain_region hk) hcs) rfl (g' := G (b.at (a.put o.dst undef) (.inRegion ops rest :: k)) cs) rfl
    (fun τ d => ⟨1, by rw [runN, step, stepT_solo rfl, runT_solo_go (stepG_none (main := true) ho hw hb (hr τ d))]; rfl⟩) (fun _ => hQ) ht
/-- An operation that enters a function. -/
theorem Reach.enter (hP : PlainP P) {f : FuncId} {args : Array Value} (hk : PlainT k) (hcs : PlainC cs) (ho : ops[i]? = some o) (hw : Region.wanted o (yielded ops a.tmps) = true)
    (hr : ∀ w, (execOp a.eval o).run P w = .ok (.enter f args) w) (hQ : PlainC (b.at a (.inRegion ops (i :: rest) :: k) :: cs) → Reach P (G (Frame.enter P f args .normal) (b.at a (.inRegion ops (i :: rest) :: k) :: cs)) w Q) :
    Reach P (G (b.at a (.inRegion ops (i :: rest) :: k)) cs) w Q := by
  have hentry : ∀ w, step P (lone (b.at a (.inRegion ops (i :: rest) :: k)) cs w) = .next (lone (Frame.enter P f args .normal) (b.at a (.inRegion ops (i :: rest) :: k) :: cs) w) := fun w => by
    have hg := stepG_op (P := P) (b := b) (k := k) (cs := cs) (w := w) (rest := rest) ho hw
    exact step_lone_go (by rw [hg]; simp [stepG.apply, hr, Frame.at])
  have hcs' : PlainC (b.at a (.inRegion ops (i :: rest) :: k) :: cs) := PlainC.cons (plain_region hk) hcs
  exact Reach.still hP (plain_at (plain_region hk) hcs) rfl (g' := G (Frame.enter P f args .normal) (b.at a (.inRegion ops (i :: rest) :: k) :: cs)) rfl (fun τ d => Steps.one (hentry _)) fun _ => hQ hcs'
theorem enter_at {f : FuncId} {fn : Func} {c : Code} (args : Array Value) (hf : P.funcs[f]? = some fn) (hb : fn.body = some c) :
    Frame.enter P f args .normal = Frame.at { (default : Frame) with fn := f, kind := .normal } { tmps := args ++ Array.replicate (fn.ntmps - args.size) undef, defers := [] } [.code c] := by
  simp [Frame.enter, Frame.at, hf, hb]
/-- The way out. -/
theorem Reach.ret (hP : PlainP P) (hk : PlainT k) (hcs : PlainC cs) (hQ : Reach P (G { b.at a (.code .ret :: k) with mode := .returning } cs) w Q) : Reach P (G (b.at a (.code .ret :: k)) cs) w Q :=
  Reach.step1 hP (plain_at (plain_code hk) hcs) rfl rfl (fun _ => stepG_ret') fun _ => hQ
theorem Reach.cond (hP : PlainP P) {c : Operand} {x y : Code} (t : Bool) (ht : a.eval c = .bool t) (hk : PlainT k) (hcs : PlainC cs) (hQ : Reach P (G (b.at a (.code (if t then x else y) :: k)) cs) w Q) : Reach P (G (b.at a (.code (.cond c x y) :: k)) cs) w Q :=
  Reach.step1 hP (plain_at (plain_code hk) hcs) rfl rfl (fun _ => stepG_cond ht) fun _ => hQ
theorem Reach.skip (hP : PlainP P) (hk : PlainT k) (hcs : PlainC cs) (hQ : Reach P (G (b.at a k) cs) w Q) : Reach P (G (b.at a (.code .skip :: k)) cs) w Q :=
  Reach.step1 hP (plain_at (plain_code hk) hcs) rfl rfl (fun _ => stepG_skip) fun _ => hQ

end

open Go Go.Conc
variable {P : Program} {w : World} {Q : Goroutine → World → Prop} {b : Frame} {a : Act} {k : List Item} {cs : List Frame} {ops : Array Oper} {i : Nat} {rest : List Nat} {o : Oper}

theorem on_cell (w : World) (τ : Tp) (d : Nat) (p : Addr) : (On w τ d).cell? p = w.cell? p := rfl
theorem plain_item {x : Item} (h : PlainI x) (hk : PlainT k) : PlainT (x :: k) := PlainT.cons h hk
theorem Reach.unwanted (hP : PlainP P) (hk : PlainT k) (hcs : PlainC cs) (ho : ops[i]? = some o) (hw : Region.wanted o (yielded ops a.tmps) = false) (hQ : Reach P (G (b.at (a.put o.dst undef) (.inRegion ops rest :: k)) cs) w Q) : Reach P (G (b.at a (.inRegion ops (i :: rest) :: k)) cs) w Q :=
  Reach.step1 hP (plain_at (plain_region hk) hcs) rfl rfl (fun _ => stepG_unwanted ho hw) fun _ => hQ
theorem Reach.block (hP : PlainP P) {id : Nat} {c : Code} (hk : PlainT k) (hcs : PlainC cs) (hQ : Reach P (G (b.at a (.code c :: .inBlock id :: k)) cs) w Q) : Reach P (G (b.at a (.code (.block id c) :: k)) cs) w Q :=
  Reach.step1 hP (plain_at (plain_code hk) hcs) rfl rfl (fun _ => stepG_block) fun _ => hQ
theorem Reach.inBlock (hP : PlainP P) {id : Nat} (hk : PlainT (.inBlock id :: k)) (hcs : PlainC cs) (hQ : Reach P (G (b.at a k) cs) w Q) : Reach P (G (b.at a (.inBlock id :: k)) cs) w Q :=
  Reach.step1 hP (plain_at hk hcs) rfl rfl (fun _ => stepG_inBlock) fun _ => hQ
theorem Reach.exit (hP : PlainP P) {id : Nat} {k' : List Item} (h : exitTo id k = some k') (hk : PlainT k) (hcs : PlainC cs) (hQ : Reach P (G (b.at a k') cs) w Q) : Reach P (G (b.at a (.code (.exit id) :: k)) cs) w Q :=
  Reach.step1 hP (plain_at (plain_code hk) hcs) rfl rfl (fun _ => stepG_exit h) fun _ => hQ
/-- A statement, then the next. -/
theorem Reach.seqThen (hP : PlainP P) {x y : Code} (R : Act → World → Prop) (hk : PlainT k) (hcs : PlainC cs) (hx : Reach P (G (b.at a (.code x :: .code y :: k)) cs) w fun g' w' => ∃ a', g' = G (b.at a' (.code y :: k)) cs ∧ R a' w')
    (hy : ∀ a' w', R a' w' → Reach P (G (b.at a' (.code y :: k)) cs) w' Q) : Reach P (G (b.at a (.code (.seq x y) :: k)) cs) w Q :=
  Reach.seq hP hk hcs (hx.trans fun g' w' h => by obtain ⟨a', rfl, hR⟩ := h; exact hy a' w' hR)
/-- A loop, by a measure. -/
theorem Reach.loop (hP : PlainP P) {c : Code} {n : Nat} (I : Nat → Act → World → Prop) (hk : PlainT k) (hcs : PlainC cs)
    (h : ∀ n a w, I n a w → PlainT (.inLoop c :: k) → (∀ m a' w', m < n → I m a' w' → Reach P (G (b.at a' (.inLoop c :: k)) cs) w' Q) → Reach P (G (b.at a (.code c :: .inLoop c :: k)) cs) w Q) (h0 : I n a w) :
    Reach P (G (b.at a (.code (.loop c) :: k)) cs) w Q := by
  have hk' : PlainT (.inLoop c :: k) := PlainT.cons (show PlainI (.inLoop c) from trivial) hk
  have key : ∀ n a w, I n a w → Reach P (G (b.at a (.inLoop c :: k)) cs) w Q := by
    intro n
    induction n using Nat.strongRecOn with
    | ind n ih =>
      intro a w hi
      exact Reach.step1 hP (plain_at hk' hcs) rfl rfl (fun _ => stepG_inLoop) fun _ => h n a w hi hk' fun m a' w' hm hi' => ih m hm a' w' hi'
  exact Reach.step1 hP (plain_at (plain_code hk) hcs) rfl rfl (fun _ => stepG_loop) fun _ => h n a w h0 hk' fun m a' w' _ hi' => key m a' w' hi'

end Go.Proofs.YtpenbkfchgeafaaGreatDoor

namespace Go.Proofs.YtpenbkfchgeafaaGreatDoor
open Go Go.Conc Go.RowKit

def bN (f : FuncId) : Frame := { (default : Frame) with fn := f, kind := .normal }
noncomputable def body8 : Code := Tryz.f77.body.getD .skip
def loopR : Code → Code
  | .seq _ (.seq _ (.seq _ (.seq (.seq _ (.block _ (.loop c))) _))) => c
  | c => c
def restR : Code → Code
  | .seq _ (.seq _ (.seq _ (.seq _ c))) => c
  | c => c
noncomputable def codeR : Code := loopR body8
noncomputable def tailR : Code := restR body8

section
variable {c : Nat} {W : World} {Stop : Goroutine → World → Prop} {m : Nat} {cs : List Frame} {x0 x1 x2 x3 x4 x7 x8 x9 x10 x11 x12 : Value} {all : Int}
/-- At the loop's head. -/
noncomputable def HR (cs : List Frame) (x0 x1 x2 x3 x4 x7 x8 x9 x10 x11 x12 : Value) (c : Nat) (all : Int) (x6 x14 x15 x16 x17 x18 x19 x20 : Value) : Goroutine :=
  G ((bN 77).at ⟨#[x0, x1, x2, x3, x4, .int .i64 all, x6, x7, x8, x9, x10, x11, x12, .chan (some c), x14, x15, x16, x17, x18, x19, x20], []⟩ [.code codeR, .inLoop codeR, .inBlock 0, .code tailR]) cs
/-- It has heard the last word. -/
noncomputable def FinR (cs : List Frame) (x0 x1 x2 x3 x4 x7 x8 x9 x10 x11 x12 : Value) (c : Nat) (all : Int) (g : Goroutine) : Prop :=
  ∃ x6 x15 x16 x17 x18 x19 x20, g = G ((bN 77).at ⟨#[x0, x1, x2, x3, x4, .int .i64 all, x6, x7, x8, x9, x10, x11, x12, .chan (some c), .tuple #[.int .i64 0, .bool false], x15, x16, x17, x18, x19, x20], []⟩
    (match codeR with | .seq (.region _ ops _) r => [.inRegion ops [1], .code r, .inLoop codeR, .inBlock 0, .code tailR] | _ => [])) cs

set_option maxRecDepth 100000 in
theorem head_recv {Next : Goroutine → Prop} (x6 x14 x15 x16 x17 x18 x19 x20 : Value)
    (h : ∀ g₂, g₂ = G ((bN 77).at ⟨#[x0, x1, x2, x3, x4, .int .i64 all, x6, x7, x8, x9, x10, x11, x12, .chan (some c), x14, x15, x16, x17, x18, x19, x20], []⟩
      (match codeR with | .seq (.region _ ops _) r => [.inRegion ops [0, 1], .code r, .inLoop codeR, .inBlock 0, .code tailR] | _ => [])) cs → Next g₂) :
    Goes Tryz.prog true (RA c W) DR (fun g _ => AtRcv Tryz.prog c W (.int .i64 0) Next g) 2 (HR cs x0 x1 x2 x3 x4 x7 x8 x9 x10 x11 x12 c all x6 x14 x15 x16 x17 x18 x19 x20) default := by
  unfold HR
  simp only [codeR, loopR, body8, Tryz.f77, Option.getD_some] at h ⊢
  refine Go_.ctl rfl (fun w => stepG_seq) ?_
  refine Go_.ctl rfl (fun w => stepG_region) ?_
  simp only [List.size_toArray, List.length_cons, List.length_nil, Nat.reduceAdd, Nat.zero_add, List.range, List.range.loop]
  refine fun w₁ _ => ⟨rfl, #[], by simp, _, rfl, rfl, rfl, h _ rfl, fun w _ => ?_⟩
  rw [stepG_comm (main := true) (cases := #[rcase c (.int .i64 0)]) (blocking := true) (shape := .recv true) (w' := w) rfl rfl (by decide) (by simp [go_sem, execOp, rcase, Act.eval]), listed_none (by simp [go_sem, execOp, Act.eval])]

set_option maxRecDepth 100000 in
theorem recv_next {y : Int} (hw64 : IntKind.i64.wrap (all + y) = all + y) (x6 x14 x15 x16 x17 x18 x19 x20 : Value)
    (hg : Goes Tryz.prog true (RA c W) DR Stop m (HR cs x0 x1 x2 x3 x4 x7 x8 x9 x10 x11 x12 c (all + y) (.int .i64 y) (.tuple #[.int .i64 y, .bool true]) (.bool true) (.int .i64 y) (.int .i64 all) (.int .i64 y) (.int .i64 (all + y)) x20) default) :
    Goes Tryz.prog true (RA c W) DR Stop (m + 19) (Go.Conc.served (G ((bN 77).at ⟨#[x0, x1, x2, x3, x4, .int .i64 all, x6, x7, x8, x9, x10, x11, x12, .chan (some c), x14, x15, x16, x17, x18, x19, x20], []⟩
      (match codeR with | .seq (.region _ ops _) r => [.inRegion ops [0, 1], .code r, .inLoop codeR, .inBlock 0, .code tailR] | _ => [])) cs) (recvd true (.int .i64 y) true)) default := by
  simp only [codeR, loopR, body8, Tryz.f77, Option.getD_some]
  rw [served_fr, Frame.finish_at]
  simp only [recvd, if_true]
  walk_nrm
  refine Go_.val (.bool true) rfl rfl (by decide) (fun w hw => by simp [go_sem, execOp, Act.eval]) (fun w hw e he => by simp [go_sem, execOp, Act.eval] at he) ?_
  walk_nrm
  refine Go_.ctl rfl (fun w => stepG_region_end) ?_
  refine Go_.ctl rfl (fun w => stepG_seq) ?_
  refine Go_.ctl rfl (fun w => stepG_cond (t := true) rfl) ?_
  simp only [if_true]
  refine Go_.ctl rfl (fun w => stepG_skip) ?_
  refine Go_.ctl rfl (fun w => stepG_block) ?_
  refine Go_.ctl rfl (fun w => stepG_seq) ?_
  refine Go_.ctl rfl (fun w => stepG_region) ?_
  simp only [List.size_toArray, List.length_cons, List.length_nil, Nat.reduceAdd, Nat.zero_add, List.range, List.range.loop]
  refine Go_.val (.int .i64 y) rfl rfl (by decide) (fun w hw => by simp [go_sem, execOp, Act.eval]) (fun w hw e he => by simp [go_sem, execOp, Act.eval] at he) ?_
  walk_nrm
  refine Go_.val (.int .i64 y) rfl rfl (by decide) (fun w hw => by simp [go_sem, execOp, Act.eval]) (fun w hw e he => by simp [go_sem, execOp, Act.eval] at he) ?_
  walk_nrm
  refine Go_.ctl rfl (fun w => stepG_region_end) ?_
  refine Go_.ctl rfl (fun w => stepG_region) ?_
  simp only [List.size_toArray, List.length_cons, List.length_nil, Nat.reduceAdd, Nat.zero_add, List.range, List.range.loop]
  refine Go_.val (.int .i64 all) rfl rfl (by decide) (fun w hw => by simp [go_sem, execOp, Act.eval]) (fun w hw e he => by simp [go_sem, execOp, Act.eval] at he) ?_
  walk_nrm
  refine Go_.val (.int .i64 y) rfl rfl (by decide) (fun w hw => by simp [go_sem, execOp, Act.eval]) (fun w hw e he => by simp [go_sem, execOp, Act.eval] at he) ?_
  walk_nrm
  refine Go_.val (.int .i64 (all + y)) rfl rfl (by decide) (fun w hw => by simp [go_sem, execOp, Act.eval, hw64]) (fun w hw e he => by simp [go_sem, execOp, Act.eval] at he) ?_
  walk_nrm
  refine Go_.val (.int .i64 (all + y)) rfl rfl (by decide) (fun w hw => by simp [go_sem, execOp, Act.eval]) (fun w hw e he => by simp [go_sem, execOp, Act.eval] at he) ?_
  walk_nrm
  refine Go_.ctl rfl (fun w => stepG_region_end) ?_
  refine Go_.ctl rfl (fun w => stepG_inBlock) ?_
  refine Go_.ctl rfl (fun w => stepG_inLoop) ?_
  exact hg

theorem recv_last (x6 x14 x15 x16 x17 x18 x19 x20 : Value) :
    FinR cs x0 x1 x2 x3 x4 x7 x8 x9 x10 x11 x12 c all (Go.Conc.served (G ((bN 77).at ⟨#[x0, x1, x2, x3, x4, .int .i64 all, x6, x7, x8, x9, x10, x11, x12, .chan (some c), x14, x15, x16, x17, x18, x19, x20], []⟩
      (match codeR with | .seq (.region _ ops _) r => [.inRegion ops [0, 1], .code r, .inLoop codeR, .inBlock 0, .code tailR] | _ => [])) cs) (recvd true (.int .i64 0) false)) := by
  refine ⟨x6, x15, x16, x17, x18, x19, x20, ?_⟩
  simp only [codeR, loopR, body8, Tryz.f77, Option.getD_some]
  rw [served_fr, Frame.finish_at]
  simp only [recvd, if_true]
  walk_nrm

/-- Sums of what has come. -/
def sumL : List Int → Int
  | [] => 0
  | y :: l => y + sumL l
theorem sumL_nonneg {l : List Int} (h : ∀ y ∈ l, 0 ≤ y) : 0 ≤ sumL l := by
  induction l with
  | nil => exact Int.le_refl _
  | cons y l ih =>
    have := h y (by simp)
    have := ih fun z hz => h z (by simp [hz])
    show 0 ≤ y + sumL l
    omega

/-- ████ THE RECEIVER's SCRIPT. ████ -/
theorem recv_all : ∀ (ys : List Int) (all : Int), (∀ y ∈ ys, 0 ≤ y) → 0 ≤ all → all + sumL ys ≤ 1000000000000000000 → ∀ x6 x14 x15 x16 x17 x18 x19 x20,
    Rcv Tryz.prog c W (.int .i64 0) (FinR cs x0 x1 x2 x3 x4 x7 x8 x9 x10 x11 x12 c (all + sumL ys)) (ys.map (.int .i64)) (HR cs x0 x1 x2 x3 x4 x7 x8 x9 x10 x11 x12 c all x6 x14 x15 x16 x17 x18 x19 x20) := by
  intro ys
  induction ys with
  | nil =>
    intro all _ _ _ x6 x14 x15 x16 x17 x18 x19 x20
    refine ⟨2, head_recv _ _ _ _ _ _ _ _ fun g₂ hg => ?_⟩
    subst hg
    have := recv_last (c := c) (cs := cs) (x0 := x0) (x1 := x1) (x2 := x2) (x3 := x3) (x4 := x4) (x7 := x7) (x8 := x8) (x9 := x9) (x10 := x10) (x11 := x11) (x12 := x12) (all := all) x6 x14 x15 x16 x17 x18 x19 x20
    simpa only [sumL, Int.add_zero] using this
  | cons y ys ih =>
    intro all hy h0 hb x6 x14 x15 x16 x17 x18 x19 x20
    have hy0 := hy y (by simp)
    have hs0 : 0 ≤ sumL ys := sumL_nonneg fun z hz => hy z (by simp [hz])
    have hb' : all + (y + sumL ys) ≤ 1000000000000000000 := hb
    have hw64 : IntKind.i64.wrap (all + y) = all + y := IntWalk.i64_in _ ⟨by omega, by omega⟩
    refine ⟨2, head_recv _ _ _ _ _ _ _ _ fun g₂ hg => ?_⟩
    subst hg
    have := ih (all + y) (fun z hz => hy z (by simp [hz])) (by omega) (by omega) (.int .i64 y) (.tuple #[.int .i64 y, .bool true]) (.bool true) (.int .i64 y) (.int .i64 all) (.int .i64 y) (.int .i64 (all + y)) x20
    rw [Int.add_assoc] at this
    obtain ⟨n, hn⟩ := (rcv_iff _ _ _ _ _ _ _).1 this
    exact (rcv_iff _ _ _ _ _ _ _).2 ⟨n + 19, recv_next hw64 _ _ _ _ _ _ _ _ hn⟩
end
end Go.Proofs.YtpenbkfchgeafaaGreatDoor
