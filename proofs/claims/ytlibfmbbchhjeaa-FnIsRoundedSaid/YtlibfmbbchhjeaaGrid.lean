/- Tables of ints in memory; valid tables and numbers rounded down or up, in the model. -/
import Derived.Test.YtlibfmbbchhjeaaFair
import Derived.Test.YtlibfmbbchhjeaaEqQuiet
import Derived.Test.YtlibfmbbchhjeaaRestI
namespace Go.Proofs.Ytlibfmbbchhjeaa
open Go.RowKit

/-- The row with the index i. -/
def rowOf (g : List (List Int)) (i : Nat) : List Int := g.getD i []
/-- The number in row i, column k. -/
def cellOf (g : List (List Int)) (i k : Nat) : Int := (rowOf g i).getD k 0

/-- The value v reads as the rows g. -/
def IsGrid (w : World) (v : Value) (g : List (List Int)) : Prop :=
  ∃ a cap, v = .slice a g.length cap ∧ ∀ i, i < g.length → ∃ b off u, a = some ⟨b, off, none⟩ ∧ w.cell? ⟨b, off + i, none⟩ = some u ∧ IsInts w u (rowOf g i)

theorem IsGrid.below {w w' : World} {v : Value} {g : List (List Int)} (h : IsGrid w v g) (hb : Below w.heap.size w w') : IsGrid w' v g := by
  obtain ⟨a, cap, rfl, hc⟩ := h
  refine ⟨a, cap, rfl, fun i hi => ?_⟩
  obtain ⟨b, off, u, ha, hcell, hu⟩ := hc i hi
  exact ⟨b, off, u, ha, (hb.cell (p := ⟨b, off + i, none⟩) (World.block_lt_of_cell? w _ hcell)).trans hcell, hu.below hb⟩

/-- One row: its value and its cells. -/
theorem IsGrid.row {w : World} {a : Option Addr} {n cap : Nat} {g : List (List Int)} (h : IsGrid w (.slice a n cap) g) (i : Nat) (hi : i < g.length) :
    ∃ b off ar cr, a = some ⟨b, off, none⟩ ∧ w.cell? ⟨b, off + i, none⟩ = some (.slice ar (rowOf g i).length cr) ∧
      ∀ k, k < (rowOf g i).length → ∃ br fr, ar = some ⟨br, fr, none⟩ ∧ w.cell? ⟨br, fr + k, none⟩ = some (.int .i64 (cellOf g i k)) := by
  obtain ⟨a', cap', e, hc⟩ := h
  simp only [Value.slice.injEq] at e
  obtain ⟨rfl, _, _⟩ := e
  obtain ⟨b, off, u, ha, hcell, ar, cr, rfl, hr⟩ := hc i hi
  exact ⟨b, off, ar, cr, ha, hcell, hr⟩

/-- A number is a part rounded down or up. -/
def nearB (x p u : Int) : Bool := inR x (p / u) ((p + u - 1) / u)

theorem nearB_iff {x p u : Int} (hu : 1 ≤ u) : nearB x p u = true ↔ x = p / u ∨ x = (p + u - 1) / u := by
  have h1 := div_up (a := p) hu
  have h2 : (p + u - 1) / u ≤ p / u + 1 := by
    have e : p + u - 1 ≤ p + 1 * u := by omega
    have := Int.ediv_le_ediv (show 0 < u by omega) e
    rwa [Int.add_mul_ediv_right _ _ (by omega)] at this
  unfold nearB inR
  rw [decide_eq_true_iff]
  omega

set_option maxHeartbeats 400000 in
theorem near_spec (x p u : Int) (w : World) (hp : 0 ≤ p ∧ p ≤ 1000000) (hu : 1 ≤ u ∧ u ≤ 12) :
    Calls Try.prog 75 #[.int .i64 x, .int .i64 p, .int .i64 u] w fun e w' => e = .returned (.bool (nearB x p u)) ∧ w = w' := by
  have hiff := nearB_iff (x := x) (p := p) hu.1
  by_cases h1 : x = p / u
  · have hd : (x == p / u) = true := by simpa using h1
    have HN := Lib.hid (hiff.2 (.inl h1))
    clear h1 hiff
    go_enter Try.func75, Try.ntmps75
    go_wp2
    go_ret
    exact ⟨ret_bool HN.out.symm, rfl⟩
  · have hd : (x == p / u) = false := by simpa using h1
    by_cases h2 : x = (p + u - 1) / u
    · have hd2 : (x == (p + u - 1) / u) = true := by simpa using h2
      have HN := Lib.hid (hiff.2 (.inr h2))
      clear h1 h2 hiff
      go_enter Try.func75, Try.ntmps75
      go_wp2
      go_ret
      exact ⟨ret_bool HN.out.symm, rfl⟩
    · have hd2 : (x == (p + u - 1) / u) = false := by simpa using h2
      have HN : Hid (nearB x p u = false) := by
        cases hn : nearB x p u
        · exact rfl
        · rcases hiff.1 hn with h | h
          · exact absurd h h1
          · exact absurd h h2
      clear h1 h2 hiff
      go_enter Try.func75, Try.ntmps75
      go_wp2
      go_ret
      exact ⟨ret_bool HN.out.symm, rfl⟩

/-- A row of a valid table. -/
def rowOK (g : List (List Int)) (i : Nat) : Bool := decide ((rowOf g i).length = (rowOf g 0).length) && inR (rowOf g i).length 1 3 && allR (rowOf g i) 0 50

def vGrid (g : List (List Int)) (u : Int) : Bool := inR g.length 1 3 && inR u 1 12 && (List.range g.length).all (rowOK g)

theorem vGrid_no {g : List (List Int)} {u : Int} {i : Nat} (hi : i < g.length) (h : rowOK g i = false) : vGrid g u = false := by
  have : (List.range g.length).all (rowOK g) = false := by
    rw [List.all_eq_false]
    exact ⟨i, by simpa using hi, by simp [h]⟩
  rw [vGrid, this]; simp
theorem vGrid_yes {g : List (List Int)} {u : Int} (h1 : inR g.length 1 3 = true) (h2 : inR u 1 12 = true) (h3 : ∀ i, i < g.length → rowOK g i = true) : vGrid g u = true := by
  have : (List.range g.length).all (rowOK g) = true := by
    rw [List.all_eq_true]
    intro i hi
    exact h3 i (by simpa using hi)
  rw [vGrid, h1, h2, this]; rfl

theorem allR_of_cells {g : List (List Int)} {i : Nat} (h : ∀ k, k < (rowOf g i).length → inR (cellOf g i k) 0 50 = true) : allR (rowOf g i) 0 50 = true := by
  unfold allR
  rw [List.all_eq_true]
  intro x hx
  obtain ⟨k, hk, rfl⟩ := List.getElem_of_mem hx
  have := h k hk
  unfold cellOf at this
  simpa [List.getD, hk] using this
theorem allR_no_cell {g : List (List Int)} {i k : Nat} (hk : k < (rowOf g i).length) (h : inR (cellOf g i k) 0 50 = false) : allR (rowOf g i) 0 50 = false := by
  refine allR_false_of _ _ _ k hk ?_
  unfold cellOf at h
  simpa [List.getD, hk] using h

end Go.Proofs.Ytlibfmbbchhjeaa
