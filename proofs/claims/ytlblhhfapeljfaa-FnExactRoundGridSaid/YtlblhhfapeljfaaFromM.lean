/- The model's search finds the first choice that fits. -/
import Derived.Test.YtlblhhfapeljfaaPart
namespace Go.Proofs.Ytlblhhfapeljfaa
open Go.RowKit Flat

theorem up_div {p u : Int} (hu : 1 ≤ u ∧ u ≤ 12) (h : p % u ≠ 0) : p / u + 1 = (p + u - 1) / u := by
  have : u = 1 ∨ u = 2 ∨ u = 3 ∨ u = 4 ∨ u = 5 ∨ u = 6 ∨ u = 7 ∨ u = 8 ∨ u = 9 ∨ u = 10 ∨ u = 11 ∨ u = 12 := by omega
  rcases this with rfl | rfl | rfl | rfl | rfl | rfl | rfl | rfl | rfl | rfl | rfl | rfl <;> omega

section
variable {g : List (List Int)} {u : Int}

/-- The numbers below p are choices. -/
def okTo (g : List (List Int)) (u : Int) (p : Nat) (c : Nat → Int) : Prop := ∀ q, q < p → c q = fF g u q ∨ (incF g u q = true ∧ c q = fF g u q + 1)

theorem okTo.upd {p : Nat} {c : Nat → Int} (h : okTo g u p c) {x : Int} (hx : x = fF g u p ∨ (incF g u p = true ∧ x = fF g u p + 1)) : okTo g u (p + 1) (Flat.upd c p x) := by
  intro q hq
  unfold Flat.upd
  by_cases e : q = p
  · subst e; rw [if_pos rfl]; exact hx
  · rw [if_neg e]; exact h q (by omega)

theorem fitF_ok (h1 : vGrid g u = true) {c : Nat → Int} (h : okTo g u (g.length * (rowOf g 0).length) c) : fitF g u c = fitsB g u (unflat g.length (rowOf g 0).length c) := by
  have hg := small_vGrid h1
  have hu := ((vGrid_iff g u).1 h1).2.1
  unfold fitF
  refine roundS_yes h1 (by simp [unflat]) fun i hi => rowNear_iff.2 ⟨by rw [rowOf_unflat _ _ _ _ hi]; simp, fun k hk => ?_⟩
  have hq : i * (rowOf g 0).length + k < g.length * (rowOf g 0).length := by
    have h2 : (i + 1) * (rowOf g 0).length ≤ g.length * (rowOf g 0).length := Nat.mul_le_mul_right _ (by omega)
    rw [Nat.succ_mul] at h2
    omega
  have e : cellOf (unflat g.length (rowOf g 0).length c) i k = c (i * (rowOf g 0).length + k) := by
    unfold cellOf
    rw [rowOf_unflat _ _ _ _ hi]
    simp [List.getD, hk]
  rw [e, nearB_iff hu.1]
  have ef : fF g u (i * (rowOf g 0).length + k) = cellOf g i k / u := by unfold fF; rw [flat_at _ g i k hk]
  rcases h _ hq with h2 | ⟨h2, h3⟩
  · left; rw [h2, ef]
  · right
    unfold incF at h2
    rw [flat_at _ g i k hk] at h2
    rw [h3, ef, up_div hu (by simpa using h2)]

theorem fromM_eq (h1 : vGrid g u = true) : ∀ r p c, p + r = g.length * (rowOf g 0).length → okTo g u p c →
    fromM g u (rowOf g 0).length (g.length * (rowOf g 0).length) r (part (rowOf g 0).length p c) = ((C (fF g u) (incF g u) r p c).find? (fitF g u)).map (unflat g.length (rowOf g 0).length)
  | 0, p, c, hp, hok => by
    have hg := small_vGrid h1
    have hm : 0 < (rowOf g 0).length := by have := hg.2.1; omega
    rw [Nat.add_zero] at hp
    subst hp
    rw [fromM, part_full _ hm, C, List.find?_cons, fitF_ok h1 hok]
    cases fitsB g u (unflat g.length (rowOf g 0).length c)
    · rfl
    · rfl
  | r + 1, p, c, hp, hok => by
    have hg := small_vGrid h1
    have hm : 0 < (rowOf g 0).length := by have := hg.2.1; omega
    have eN : g.length * (rowOf g 0).length - (r + 1) = p := by omega
    rw [fromM, eN]
    by_cases hpr : p % (rowOf g 0).length = 0 ∧ 0 < p / (rowOf g 0).length ∧ nearB (tot (rowOf (part (rowOf g 0).length p c) (p / (rowOf g 0).length - 1))) (tot (rowOf g (p / (rowOf g 0).length - 1))) u = false
    · rw [if_pos hpr]
      obtain ⟨h2, h3, h4⟩ := hpr
      have hnone : (C (fF g u) (incF g u) (r + 1) p c).find? (fitF g u) = none := by
        rw [List.find?_eq_none]
        intro e he hfit
        have hout := C_out _ _ _ _ _ _ he
        have hpm : p = p / (rowOf g 0).length * (rowOf g 0).length := by
          have := Nat.div_add_mod p (rowOf g 0).length
          rw [h2, Nat.add_zero, Nat.mul_comm] at this
          exact this.symm
        have hlt : p / (rowOf g 0).length < g.length := (Nat.div_lt_iff_lt_mul hm).2 (by omega)
        have e1 : rowOf (part (rowOf g 0).length p c) (p / (rowOf g 0).length - 1) = rowOf (unflat g.length (rowOf g 0).length e) (p / (rowOf g 0).length - 1) := by
          have hpf := part_full (rowOf g 0).length hm c (p / (rowOf g 0).length)
          rw [← hpm] at hpf
          rw [hpf, rowOf_unflat _ _ _ _ (by omega), rowOf_unflat _ _ _ _ (by omega)]
          apply List.map_congr_left
          intro k hk
          have hk' := List.mem_range.1 hk
          refine (hout _ ?_).symm
          have h5 : (p / (rowOf g 0).length - 1 + 1) * (rowOf g 0).length = p := by rw [show p / (rowOf g 0).length - 1 + 1 = p / (rowOf g 0).length by omega]; exact hpm.symm
          rw [Nat.succ_mul] at h5
          omega
        rw [e1] at h4
        have hfb := fitsB_no1 (o := unflat g.length (rowOf g 0).length e) (i := p / (rowOf g 0).length - 1) (by omega) h4
        unfold fitF roundS at hfit
        rw [hfb] at hfit
        simp at hfit
      rw [hnone]
      rfl
    · rw [if_neg hpr, ← part_upd, ← part_upd, fromM_eq h1 r (p + 1) _ (by omega) (hok.upd (.inl rfl)), C, List.find?_append]
      cases hA : (C (fF g u) (incF g u) r (p + 1) (Flat.upd c p (fF g u p))).find? (fitF g u) with
      | some t => rfl
      | none =>
        by_cases hi : incF g u p = true
        · rw [if_pos hi, if_pos hi, fromM_eq h1 r (p + 1) _ (by omega) (hok.upd (.inr ⟨hi, rfl⟩))]
          rfl
        · rw [if_neg hi, if_neg hi]
          rfl

/-- The two searches find the same. -/
theorem fromM_first (h1 : vGrid g u = true) : fromM g u (rowOf g 0).length (g.length * (rowOf g 0).length) (g.length * (rowOf g 0).length) [] = firstFit g u :=
  fromM_eq h1 (g.length * (rowOf g 0).length) 0 (flat (rowOf g 0).length (downG g u)) (by omega) (fun q hq => absurd hq (Nat.not_lt_zero _))

end
end Go.Proofs.Ytlblhhfapeljfaa
