/- Steps of one who only reads, while all but channel c's block stands: laws of a walk. -/
import Derived.Test.YtkhmooemgjichaaHh
import Derived.Conc.DeferLaws
import Derived.Conc.TokenWords
import Derived.Laws.ByValue
namespace Go.Proofs.Ytkhmooemgjichaa
open Go Go.Conc Go.RowKit
variable {P : Program} {c : Nat} {W : World} {main : Bool} {Stop : Goroutine → World → Prop} {n : Nat}

theorem goes_any {g : Goroutine} {w w' : World} (h : Goes P main (RA c W) DR Stop n g w) : Goes P main (RA c W) DR Stop n g w' := by
  cases n <;> exact h
theorem Go_.ctl {g g' : Goroutine} (hs : g.status = .running) (h : ∀ w, stepG P main g w = .go g' w) (hg : Goes P main (RA c W) DR Stop n g' default) : Goes P main (RA c W) DR Stop (n + 1) g default :=
  Goes.step hs fun w₁ _ => by rw [h]; exact ⟨⟨⟨w₁.drawn, rfl⟩, by simp⟩, goes_any hg⟩
theorem Go_.ctlW {g g' : Goroutine} (hs : g.status = .running) (h : ∀ w, Aside c W w → stepG P main g w = .go g' w) (hg : Goes P main (RA c W) DR Stop n g' default) : Goes P main (RA c W) DR Stop (n + 1) g default :=
  Goes.step hs fun w₁ h₁ => by rw [h w₁ h₁]; exact ⟨⟨⟨w₁.drawn, rfl⟩, by simp⟩, goes_any hg⟩
section
variable {b : Frame} {a : Act} {k : List Item} {cs : List Frame} {ops : Array Oper} {i : Nat} {rest : List Nat} {o : Oper}
/-- An operation that yields a value, and turns nothing. -/
theorem Go_.val (v : Value) (ho : ops[i]? = some o) (hw : Region.wanted o (yielded ops a.tmps) = true) (hk : b.kind ≠ .early) (hr : ∀ w, Aside c W w → (execOp a.eval o).run P w = .ok (.value v) w)
    (he : ∀ w, Aside c W w → ∀ e ∈ (execOp a.eval o).events P w #[], EvP e) (hg : Goes P main (RA c W) DR Stop n (G (b.at (a.put o.dst v) (.inRegion ops rest :: k)) cs) default) :
    Goes P main (RA c W) DR Stop (n + 1) (G (b.at a (.inRegion ops (i :: rest) :: k)) cs) default :=
  Goes.step rfl fun w₁ h₁ => by
    rw [stepG_value ho hw hk (hr w₁ h₁)]
    exact ⟨⟨⟨w₁.drawn, rfl⟩, fun e h => he w₁ h₁ e (mem_listed h)⟩, goes_any hg⟩
theorem Go_.draw {id : Nat} (h : ∀ t, Goes P main (RA c W) DR Stop n (G (b.at a (.inRegion ops (Region.schedule (P.follows .mixedOrders) ops t) :: k)) cs) default) :
    Goes P main (RA c W) DR Stop (n + 1) (G (b.at a (.code (.region id ops true) :: k)) cs) default :=
  Goes.step rfl fun w₁ h₁ => by
    have e : stepG P main (G (b.at a (.code (.region id ops true) :: k)) cs) w₁ = .go (G (b.at a (.inRegion ops (Region.schedule (P.follows .mixedOrders) ops (w₁.tape w₁.drawn (.order b.fn id))) :: k)) cs) (w₁.at (w₁.drawn + 1)) := by
      simp [G, stepG, stepG.exec, Frame.at, choose, Sem.run, Question.forced, Question.cut, World.at]
    rw [e]
    exact ⟨⟨⟨_, rfl⟩, by simp⟩, goes_any (h _)⟩
end
theorem Go_.stop {g : Goroutine} (h : ∀ w, Aside c W w → Stop g w) : Goes P main (RA c W) DR Stop n g default := Goes.stop h
theorem Go_.more {m : Nat} {g : Goroutine} {w : World} (h : Goes P main (RA c W) DR Stop n g w) (hm : n ≤ m) : Goes P main (RA c W) DR Stop m g w := by
  obtain ⟨k, rfl⟩ := Nat.exists_eq_add_of_le hm
  induction k with
  | zero => exact h
  | succ k ih => exact (ih (by omega)).more

theorem aside_cell {w : World} (h : Aside c W w) {a : Addr} (hb : a.block ≠ c) : w.cell? a = W.cell? a := by
  unfold World.cell?
  rw [h.block _ hb]
theorem aside_frozen {w : World} (h : Aside c W w) {a : Addr} (hb : a.block ≠ c) : w.frozen? a = W.frozen? a := by
  unfold World.frozen?
  rw [h.block _ hb]
end Go.Proofs.Ytkhmooemgjichaa
