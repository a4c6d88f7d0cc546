/- What the rows made of the first numbers are: how many, how long, how great. -/
import Derived.Test.YtlblhhfapeljfaaFromM
namespace Go.Proofs.Ytlblhhfapeljfaa
open Go.RowKit Flat

theorem part_form {m : Nat} (hm : 0 < m) (p : Nat) (c : Nat → Int) : part m p c = unflat (p / m) m c ++ if p % m = 0 then [] else [(List.range (p % m)).map fun k => c (p / m * m + k)] := by
  have h := part_row m hm c (p / m) (part_full m hm c (p / m)) (p % m) (Nat.le_of_lt (Nat.mod_lt _ hm))
  have e : p / m * m + p % m = p := by rw [Nat.mul_comm]; exact Nat.div_add_mod p m
  rw [e] at h
  exact h

theorem unflat_len (n m : Nat) (c : Nat → Int) : (unflat n m c).length = n := by simp [unflat]

theorem part_len {m : Nat} (hm : 0 < m) (p : Nat) (c : Nat → Int) : (part m p c).length = p / m + if p % m = 0 then 0 else 1 := by
  rw [part_form hm]
  split <;> simp [unflat_len]

theorem part_row_full {m : Nat} (hm : 0 < m) (p : Nat) (c : Nat → Int) {j : Nat} (hj : j < p / m) : rowOf (part m p c) j = (List.range m).map fun k => c (j * m + k) := by
  rw [part_form hm]
  have : rowOf (unflat (p / m) m c ++ if p % m = 0 then [] else [(List.range (p % m)).map fun k => c (p / m * m + k)]) j = rowOf (unflat (p / m) m c) j := by
    unfold rowOf
    rw [List.getD_eq_getElem?_getD, List.getD_eq_getElem?_getD, List.getElem?_append_left (by rw [unflat_len]; exact hj)]
  rw [this, rowOf_unflat _ _ _ _ hj]

theorem part_row_last {m : Nat} (hm : 0 < m) (p : Nat) (c : Nat → Int) (h : p % m ≠ 0) : rowOf (part m p c) (p / m) = (List.range (p % m)).map fun k => c (p / m * m + k) := by
  rw [part_form hm, if_neg h]
  unfold rowOf
  rw [List.getD_eq_getElem?_getD, List.getElem?_append_right (by rw [unflat_len]; exact Nat.le_refl _), unflat_len, Nat.sub_self]
  rfl

section
variable {g : List (List Int)} {u : Int}

theorem fF_bounds (h1 : vGrid g u = true) {q : Nat} (hq : q < g.length * (rowOf g 0).length) : 0 ≤ flat (rowOf g 0).length g q ∧ flat (rowOf g 0).length g q ≤ 50 ∧ 0 ≤ fF g u q ∧ fF g u q ≤ 50 := by
  have hg := small_vGrid h1
  have hu := ((vGrid_iff g u).1 h1).2.1
  have hm : 0 < (rowOf g 0).length := by have := hg.2.1; omega
  have hk : q % (rowOf g 0).length < (rowOf g 0).length := Nat.mod_lt _ hm
  have hi : q / (rowOf g 0).length < g.length := (Nat.div_lt_iff_lt_mul hm).2 hq
  have h3 := ((vGrid_iff g u).1 h1).2.2 (q / (rowOf g 0).length) hi
  have hc := h3.2.2 (q % (rowOf g 0).length) (by rw [(hg.2.2 _ hi).1]; exact hk)
  have e : flat (rowOf g 0).length g q = cellOf g (q / (rowOf g 0).length) (q % (rowOf g 0).length) := rfl
  unfold fF
  rw [e]
  have h4 := Int.ediv_nonneg hc.1 (show 0 ≤ u by omega)
  have h5 := Int.ediv_le_self u hc.1
  omega

theorem okTo_bounds (h1 : vGrid g u = true) {p : Nat} {c : Nat → Int} (h : okTo g u p c) (hp : p ≤ g.length * (rowOf g 0).length) {q : Nat} (hq : q < p) : 0 ≤ c q ∧ c q ≤ 50 := by
  have hb := fF_bounds h1 (show q < g.length * (rowOf g 0).length by omega)
  have hu := ((vGrid_iff g u).1 h1).2.1
  rcases h q hq with h | ⟨hi, h⟩
  · omega
  · have hne : flat (rowOf g 0).length g q % u ≠ 0 := by simpa [incF] using hi
    have hu2 : 2 ≤ u := by
      apply Classical.byContradiction
      intro hn
      have : u = 1 := by omega
      rw [this] at hne
      exact hne (Int.emod_one _)
    have e1 : fF g u q * u ≤ flat (rowOf g 0).length g q := Int.ediv_mul_le _ (by omega)
    have e2 : fF g u q * 2 ≤ fF g u q * u := Int.mul_le_mul_of_nonneg_left hu2 hb.2.2.1
    omega

/-- Rows of 1 to 3 numbers from 0 to 50, at most three. -/
def Tiny (o : List (List Int)) : Prop := o.length ≤ 3 ∧ ∀ i, i < o.length → (0 < (rowOf o i).length ∧ (rowOf o i).length ≤ 3) ∧ ∀ x ∈ rowOf o i, 0 ≤ x ∧ x ≤ 50

theorem part_tiny (h1 : vGrid g u = true) {p : Nat} {c : Nat → Int} (h : okTo g u p c) (hp : p ≤ g.length * (rowOf g 0).length) : Tiny (part (rowOf g 0).length p c) := by
  have hg := small_vGrid h1
  have hm : 0 < (rowOf g 0).length := by have := hg.2.1; omega
  have hm3 := hg.2.1.2
  have hl := part_len hm p c
  have hd : p / (rowOf g 0).length ≤ g.length := Nat.div_le_of_le_mul (by rw [Nat.mul_comm]; exact hp)
  have hb : p / (rowOf g 0).length * (rowOf g 0).length + p % (rowOf g 0).length = p := by rw [Nat.mul_comm]; exact Nat.div_add_mod p _
  have hlt : p % (rowOf g 0).length < (rowOf g 0).length := Nat.mod_lt _ hm
  refine ⟨?_, fun i hi => ?_⟩
  · rw [hl]
    by_cases e : p % (rowOf g 0).length = 0
    · rw [if_pos e]; have := hg.1.2; omega
    · rw [if_neg e]
      have : p / (rowOf g 0).length < g.length := by
        apply Classical.byContradiction
        intro hn
        have e2 : p / (rowOf g 0).length = g.length := by omega
        rw [e2] at hb
        omega
      have := hg.1.2
      omega
  · rw [hl] at hi
    by_cases hj : i < p / (rowOf g 0).length
    · rw [part_row_full hm p c hj]
      refine ⟨by simp; omega, fun x hx => ?_⟩
      obtain ⟨k, hk, rfl⟩ := List.mem_map.1 hx
      have hk := List.mem_range.1 hk
      refine okTo_bounds h1 h hp ?_
      have : (i + 1) * (rowOf g 0).length ≤ p / (rowOf g 0).length * (rowOf g 0).length := Nat.mul_le_mul_right _ (by omega)
      rw [Nat.succ_mul] at this
      omega
    · by_cases e : p % (rowOf g 0).length = 0
      · rw [if_pos e] at hi; omega
      · rw [if_neg e] at hi
        have ei : i = p / (rowOf g 0).length := by omega
        rw [ei, part_row_last hm p c e]
        refine ⟨by simp; omega, fun x hx => ?_⟩
        obtain ⟨k, hk, rfl⟩ := List.mem_map.1 hx
        have hk := List.mem_range.1 hk
        exact okTo_bounds h1 h hp (by omega)

theorem unflat_small (h1 : vGrid g u = true) {c : Nat → Int} (h : okTo g u (g.length * (rowOf g 0).length) c) : Small (unflat g.length (rowOf g 0).length c) (rowOf g 0).length := by
  have hg := small_vGrid h1
  have hm : 0 < (rowOf g 0).length := by have := hg.2.1; omega
  refine ⟨by rw [unflat_len]; exact hg.1, hg.2.1, fun i hi => ?_⟩
  rw [unflat_len] at hi
  refine ⟨by rw [rowOf_unflat _ _ _ _ hi]; simp, fun k hk => ?_⟩
  have e : cellOf (unflat g.length (rowOf g 0).length c) i k = c (i * (rowOf g 0).length + k) := by
    unfold cellOf
    rw [rowOf_unflat _ _ _ _ hi]
    simp [List.getD, hk]
  have h2 : (i + 1) * (rowOf g 0).length ≤ g.length * (rowOf g 0).length := Nat.mul_le_mul_right _ (by omega)
  rw [Nat.succ_mul] at h2
  have := okTo_bounds h1 h (Nat.le_refl _) (show i * (rowOf g 0).length + k < g.length * (rowOf g 0).length by omega)
  rw [e]
  omega
end

end Go.Proofs.Ytlblhhfapeljfaa
