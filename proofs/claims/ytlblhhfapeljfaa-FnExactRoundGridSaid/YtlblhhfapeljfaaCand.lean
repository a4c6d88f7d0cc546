/- The tables that the search goes through have the grid's form, and numbers that fit. -/
import Derived.Test.YtlblhhfapeljfaaSeek
namespace Go.Proofs.Ytlblhhfapeljfaa
open Go.RowKit

theorem cellOf_setC (o : List (List Int)) (i k : Nat) (x : Int) (i' k' : Nat) (hi : i < o.length) (hk : k < (rowOf o i).length) : cellOf (setC o i k x) i' k' = if i' = i ∧ k' = k then x else cellOf o i' k' := by
  unfold cellOf
  rw [setC_row o i k x i' hi]
  by_cases h : i' = i
  · subst h
    rw [if_pos rfl]
    by_cases hk' : k' = k
    · subst hk'
      rw [if_pos ⟨rfl, rfl⟩]
      simp [List.getD, hk]
    · rw [if_neg (fun e => hk' e.2)]
      have h' : ¬ k = k' := fun e => hk' e.symm
      simp [List.getD, h']
  · rw [if_neg h, if_neg (fun e => h e.1)]

theorem candOK.set {g o : List (List Int)} (h : candOK g o) {i k : Nat} (hi : i < g.length) (hk : k < (rowOf g i).length) {x : Int} (hx : -9223372036854775808 ≤ x ∧ x ≤ 9223372036854775807) : candOK g (setC o i k x) := by
  refine ⟨h.1.set hi k x, fun i' k' hi' hk' => ?_⟩
  rw [cellOf_setC o i k x i' k' (by rw [h.1.1]; exact hi) (by rw [h.1.2]; exact hk)]
  by_cases e : i' = i ∧ k' = k
  · rw [if_pos e]; exact hx
  · rw [if_neg e]
    rw [setC_length] at hi'
    rw [setC_rowlen o i k x i' (by rw [h.1.1]; exact hi)] at hk'
    exact h.2 i' k' hi' hk'

section
variable {g : List (List Int)} {u : Int}

theorem div_small (h1 : vGrid g u = true) {i k : Nat} (hi : i < g.length) (hk : k < (rowOf g i).length) : 0 ≤ cellOf g i k / u ∧ cellOf g i k / u ≤ 50 := by
  obtain ⟨_, hu, h3⟩ := (vGrid_iff g u).1 h1
  have hx := (h3 i hi).2.2 k hk
  have hq0 : 0 ≤ cellOf g i k / u := Int.ediv_nonneg hx.1 (by omega)
  have hq1 : cellOf g i k / u ≤ cellOf g i k := Int.ediv_le_self _ hx.1
  omega

theorem candOK_in (h1 : vGrid g u = true) {i : Nat} (hi : i < g.length) : ∀ k, k ≤ (rowOf g i).length → ∀ o, candOK g o → candOK g (nextIn g u i k o).2
  | 0, _, _, h => h
  | k + 1, hk, o, h => by
    have hd := div_small h1 hi (k := k) (by omega)
    by_cases hc : cellOf o i k = cellOf g i k / u ∧ cellOf g i k % u ≠ 0
    · rw [nextIn_yes hc]
      exact h.set hi (by omega) (by rw [hc.1]; omega)
    · rw [nextIn_no hc]
      exact candOK_in h1 hi k (by omega) _ (h.set hi (by omega) (by omega))

theorem candOK_all (h1 : vGrid g u = true) : ∀ i, i ≤ g.length → ∀ o, candOK g o → candOK g (nextAll g u i o).2
  | 0, _, _, h => h
  | i + 1, hi, o, h => by
    have hin := candOK_in h1 (i := i) (by omega) _ (Nat.le_refl _) o h
    unfold nextAll
    by_cases hb : (nextIn g u i (rowOf g i).length o).1 = true
    · rw [if_pos hb]; exact hin
    · rw [if_neg hb]; exact candOK_all h1 i (by omega) _ hin

theorem candOK_down (h1 : vGrid g u = true) : candOK g (downG g u) := by
  have hrow : ∀ j, rowOf (downG g u) j = (rowOf g j).map (· / u) := by
    intro j
    by_cases hj : j < g.length
    · exact downG_row g u j hj
    · have e1 : rowOf g j = [] := by simp [rowOf, List.getD, Nat.not_lt.1 hj]
      have e2 : rowOf (downG g u) j = [] := by simp [rowOf, downG, List.getD, Nat.not_lt.1 hj]
      rw [e1, e2]; rfl
  refine ⟨⟨downG_length g u, fun j => by rw [hrow j]; simp⟩, fun i k hi hk => ?_⟩
  rw [downG_length] at hi
  rw [hrow i, List.length_map] at hk
  have hd := div_small h1 hi hk
  have e : cellOf (downG g u) i k = cellOf g i k / u := by
    unfold cellOf
    rw [hrow i]
    simp [List.getD, hk]
  rw [e]
  omega

end
end Go.Proofs.Ytlblhhfapeljfaa
