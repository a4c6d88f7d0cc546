/- A table of the call's own, whatever its capacities: its rows lie in blocks apart. -/
import Derived.Test.YtlblhhfapeljfaaFromM
namespace Go.Proofs.Ytlblhhfapeljfaa
open Go.RowKit

def apartB (x y : Value) : Prop := x.ownBlock = none ∨ x.ownBlock ≠ y.ownBlock

/-- v is a slice of rows, each in a block of its own (or nil where it is empty), all from block B on. -/
def OwnT (w : World) (B : Nat) (v : Value) (o : List (List Int)) : Prop :=
  ∃ vs : List Value, vs.length = o.length ∧ w.ownsRow B 23 1 v o.length vs ∧
    (∀ i, i < o.length → Own w B (vs.getD i undef) (rowOf o i) ∧ apartB (vs.getD i undef) v) ∧ (∀ i j, i < o.length → j < o.length → i ≠ j → apartB (vs.getD i undef) (vs.getD j undef))

theorem OwnT.below {w w' : World} {B : Nat} {v : Value} {o : List (List Int)} (h : OwnT w B v o) (hb : Below w.heap.size w w') : OwnT w' B v o := by
  obtain ⟨vs, hl, hown, hrows, hd⟩ := h
  exact ⟨vs, hl, World.ownsRow.kept hown (grown_below hb none) (by cases hv : v.ownBlock <;> simp), fun i hi => ⟨(hrows i hi).1.below hb, (hrows i hi).2⟩, hd⟩

theorem OwnT.grid {w : World} {B : Nat} {v : Value} {o : List (List Int)} (h : OwnT w B v o) : IsGrid w v o := by
  obtain ⟨vs, hl, hown, hrows, _⟩ := h
  rcases id hown.2 with ⟨rfl, hn⟩ | ⟨b, cap, cur, rfl, _⟩
  · exact ⟨none, 0, by rw [hn], fun j hj => by omega⟩
  · refine ⟨_, cap, rfl, fun j hj => ⟨b, 0, vs.getD j undef, rfl, ?_, (hrows j hj).1.ints⟩⟩
    have := World.ownsRow.cellAt hown j (by omega)
    rw [Nat.zero_add, this]
    simp [List.getD, show j < vs.length by omega]

theorem OwnGrid.table {w : World} {B : Nat} {v : Value} {o : List (List Int)} (h : OwnGrid w B v o) : OwnT w B v o := by
  obtain ⟨b0, G, rfl, hown, hrows, hd⟩ := h
  have hg : ∀ i, i < o.length → ((List.range o.length).map fun i => rowVal (G i) (rowOf o i).length).getD i undef = rowVal (G i) (rowOf o i).length := by
    intro i hi
    simp [List.getD, hi]
  refine ⟨_, by simp, hown, fun i hi => ?_, fun i j hi hj hij => ?_⟩
  · rw [hg i hi]
    exact ⟨(hrows i hi).2, .inr (by have := (hrows i hi).1; simp [rowVal, Value.ownBlock]; omega)⟩
  · rw [hg i hi, hg j hj]
    exact .inr (by have := hd i j hi hj hij; simp [rowVal, Value.ownBlock]; omega)

end Go.Proofs.Ytlblhhfapeljfaa
