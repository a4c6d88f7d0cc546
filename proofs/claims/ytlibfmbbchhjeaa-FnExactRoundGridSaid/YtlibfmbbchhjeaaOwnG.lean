/- A table of the call's own: one number read and written. -/
import Derived.Test.YtlibfmbbchhjeaaRoundD
namespace Go.Proofs.Ytlibfmbbchhjeaa
open Go.RowKit

/-- The table with another number in row i, column k. -/
def setC (o : List (List Int)) (i k : Nat) (x : Int) : List (List Int) := o.set i ((rowOf o i).set k x)

theorem setC_length (o : List (List Int)) (i k : Nat) (x : Int) : (setC o i k x).length = o.length := by simp [setC]
theorem setC_row (o : List (List Int)) (i k : Nat) (x : Int) (j : Nat) (hi : i < o.length) : rowOf (setC o i k x) j = if j = i then (rowOf o i).set k x else rowOf o j := by
  unfold setC rowOf
  by_cases h : j = i
  · subst h
    rw [if_pos rfl]
    simp [List.getD, hi]
  · rw [if_neg h]
    have h' : ¬ i = j := fun e => h e.symm
    simp [List.getD, h']
theorem setC_rowlen (o : List (List Int)) (i k : Nat) (x : Int) (j : Nat) (hi : i < o.length) : (rowOf (setC o i k x) j).length = (rowOf o j).length := by
  rw [setC_row o i k x j hi]
  by_cases h : j = i
  · rw [if_pos h, h]; simp
  · rw [if_neg h]

theorem OwnGrid.at {w : World} {B : Nat} {v : Value} {o : List (List Int)} (h : OwnGrid w B v o) (i k : Nat) (hi : i < o.length) (hk : k < (rowOf o i).length) :
    ∃ b0 Gi, v = .slice (some ⟨b0, 0, none⟩) o.length o.length ∧ B ≤ Gi ∧ w.cell? ⟨b0, i, none⟩ = some (.slice (some ⟨Gi, 0, none⟩) (rowOf o i).length (rowOf o i).length) ∧ w.cell? ⟨Gi, k, none⟩ = some (.int .i64 (cellOf o i k)) ∧ w.frozen? ⟨Gi, k, none⟩ = false ∧
      ∀ x, OwnGrid (w.setCell ⟨Gi, k, none⟩ (.int .i64 x)) B v (setC o i k x) ∧ w.grownBy (w.setCell ⟨Gi, k, none⟩ (.int .i64 x)) (some Gi) := by
  obtain ⟨b0, G, rfl, hown, hrows, hd⟩ := h
  have hri := (hrows i hi).2
  have hri' : w.ownsRow B 3 1 (.slice (some ⟨G i, 0, none⟩) (rowOf o i).length (rowOf o i).length) (rowOf o i).length ((rowOf o i).map (Value.int .i64)) := hri
  refine ⟨b0, G i, rfl, (hri.lt (G i) (by simp [rowVal, Value.ownBlock])).1, ?_, ?_, hri'.frozenAt k, fun x => ?_⟩
  · rw [hown.cellAt i (by omega)]
    simp [hi, rowVal]
  · rw [hri'.cellAt k (by omega)]
    simp [hk, cellOf, List.getD]
  · have hst := hri'.stored k (.int .i64 x)
    refine ⟨⟨b0, G, by rw [setC_length], ?_, fun j hj => ?_, fun j l hj hl => hd j l (by rwa [setC_length] at hj) (by rwa [setC_length] at hl)⟩, hst.2⟩
    · rw [setC_length, List.map_congr_left (fun j hj => by rw [setC_rowlen o i k x j hi])]
      exact World.ownsRow.kept hown hst.2 (.inr (by have := (hrows i hi).1; simp [rowVal, Value.ownBlock]; omega))
    · rw [setC_length] at hj
      rw [setC_rowlen o i k x j hi]
      refine ⟨(hrows j hj).1, ?_⟩
      rw [setC_row o i k x j hi]
      by_cases hji : j = i
      · subst hji
        rw [if_pos rfl]
        have := hst.1
        unfold Own rowVal
        rw [List.length_set, List.map_set]
        exact this
      · rw [if_neg hji]
        exact (hrows j hj).2.kept hst.2 (.inr (by have := hd j i hj hi hji; simp [rowVal, Value.ownBlock]; omega))

end Go.Proofs.Ytlibfmbbchhjeaa
