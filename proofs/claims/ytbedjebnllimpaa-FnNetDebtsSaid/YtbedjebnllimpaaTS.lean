/- What stands while a table is drawn. -/
import Derived.Test.YtbedjebnllimpaaTK
import Derived.Test.YtbedjebnllimpaaReadH
import Derived.Deep.RegionHeld3
namespace Go.Proofs.Ytbedjebnllimpaa
open Go.RowKit

/-- Rows of n numbers each. -/
def RowsN (n : Nat) (g : List (List Int)) : Prop := ∀ i, i < g.length → (rowOf g i).length = n ∧ ∀ x ∈ rowOf g i, 0 ≤ x ∧ x ≤ 50

theorem RowsN.snoc {n : Nat} {g : List (List Int)} {r : List Int} (h : RowsN n g) (hl : r.length = n) (hr : ∀ x ∈ r, 0 ≤ x ∧ x ≤ 50) : RowsN n (g ++ [r]) := by
  intro i hi
  by_cases e : i < g.length
  · rw [rowOf_snoc_lt e]; exact h i e
  · have e2 : i = g.length := by simp at hi; omega
    subst e2
    rw [rowOf_snoc_eq]; exact ⟨hl, hr⟩

/-- What stands while a table is drawn: the reader, the table, and what has been left as it was. -/
structure TabSt (w w' : World) (B R : Nat) (a : Option Addr) (q : Nat) (v : Value) (vs : List Value) (g : List (List Int)) : Prop where
  rd : HasReader w' B R a q
  tb : OwnTV w' w.heap.size v vs g
  gr : w.grownBy w' (some R)

theorem OwnTV.pastR {w : World} {B R : Nat} {v : Value} {vs : List Value} {g : List (List Int)} (h : OwnTV w B v vs g) (hR : R < B) : (v.ownBlock = none ∨ v.ownBlock ≠ some R) ∧ ∀ i, i < g.length → (vs.getD i undef).ownBlock = none ∨ (vs.getD i undef).ownBlock ≠ some R :=
  ⟨.inr fun e => by have := (h.lt.1 R e).1; omega, fun i hi => .inr fun e => by have := (h.lt.2 i hi R e).1; omega⟩

theorem TabSt.pick {w w' w2 : World} {B R q q' : Nat} {a : Option Addr} {v : Value} {vs : List Value} {g : List (List Int)} (h : TabSt w w' B R a q v vs g) (hR : R < w.heap.size) (hr : HasReader w2 B R a q') (hg : w'.grownBy w2 (some R)) : TabSt w w2 B R a q' v vs g :=
  ⟨hr, h.tb.kept hg (h.tb.pastR hR).1 (h.tb.pastR hR).2, h.gr.trans hg⟩

/-- A block made or written that is none of the table's. -/
theorem TabSt.past {w w' w2 : World} {B R q : Nat} {a : Option Addr} {v : Value} {vs : List Value} {g : List (List Int)} {row : Option Nat} (h : TabSt w w' B R a q v vs g) (hR : B ≤ R ∧ R < w.heap.size) (hg : w'.grownBy w2 row) (hrow : ∀ k, row = some k → w.heap.size ≤ k ∧ v.ownBlock ≠ some k ∧ ∀ i, i < g.length → (vs.getD i undef).ownBlock ≠ some k) : TabSt w w2 B R a q v vs g := by
  refine ⟨h.rd.kept hg (fun k hk => by have := (hrow k hk).1; omega), h.tb.kept hg ?_ ?_, grown_fresh h.gr hg (fun k hk => (hrow k hk).1)⟩
  · cases row with
    | none => cases hv : v.ownBlock <;> simp
    | some k => exact .inr (hrow k rfl).2.1
  · intro i hi
    cases row with
    | none => cases hv : (vs.getD i undef).ownBlock <;> simp
    | some k => exact .inr ((hrow k rfl).2.2 i hi)

end Go.Proofs.Ytbedjebnllimpaa
