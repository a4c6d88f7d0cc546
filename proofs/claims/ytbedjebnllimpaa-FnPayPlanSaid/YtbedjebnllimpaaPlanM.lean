/- Plans of payments: the recursion and what holds of it. -/
import Derived.Test.YtbedjebnllimpaaGrpP
namespace Go.Proofs.Ytbedjebnllimpaa
open Go.RowKit

/-- The first of the first friends whose balance is the least. -/
def loN (xs : List Int) : Nat → Nat
  | 0 => 0
  | i + 1 => if xs.getD i 0 < xs.getD (loN xs i) 0 then i else loN xs i
/-- The first of the first friends whose balance is the greatest. -/
def hiN (xs : List Int) : Nat → Nat
  | 0 => 0
  | i + 1 => if xs.getD (hiN xs i) 0 < xs.getD i 0 then i else hiN xs i

theorem loN_one (xs : List Int) : loN xs 1 = 0 := by simp [loN]
theorem hiN_one (xs : List Int) : hiN xs 1 = 0 := by simp [hiN]

theorem loN_spec (xs : List Int) : ∀ m, 1 ≤ m → loN xs m < m ∧ ∀ j, j < m → xs.getD (loN xs m) 0 ≤ xs.getD j 0
  | 0, h => absurd h (by omega)
  | 1, _ => by
    rw [loN_one]
    refine ⟨by omega, fun j hj => ?_⟩
    have : j = 0 := by omega
    subst this; exact Int.le_refl _
  | m + 2, _ => by
    obtain ⟨h1, h2⟩ := loN_spec xs (m + 1) (by omega)
    rw [loN]
    by_cases e : xs.getD (m + 1) 0 < xs.getD (loN xs (m + 1)) 0
    · rw [if_pos e]
      refine ⟨by omega, fun j hj => ?_⟩
      by_cases ej : j = m + 1
      · subst ej; exact Int.le_refl _
      · have := h2 j (by omega); omega
    · rw [if_neg e]
      refine ⟨by omega, fun j hj => ?_⟩
      by_cases ej : j = m + 1
      · subst ej; omega
      · exact h2 j (by omega)

theorem hiN_spec (xs : List Int) : ∀ m, 1 ≤ m → hiN xs m < m ∧ ∀ j, j < m → xs.getD j 0 ≤ xs.getD (hiN xs m) 0
  | 0, h => absurd h (by omega)
  | 1, _ => by
    rw [hiN_one]
    refine ⟨by omega, fun j hj => ?_⟩
    have : j = 0 := by omega
    subst this; exact Int.le_refl _
  | m + 2, _ => by
    obtain ⟨h1, h2⟩ := hiN_spec xs (m + 1) (by omega)
    rw [hiN]
    by_cases e : xs.getD (hiN xs (m + 1)) 0 < xs.getD (m + 1) 0
    · rw [if_pos e]
      refine ⟨by omega, fun j hj => ?_⟩
      by_cases ej : j = m + 1
      · subst ej; exact Int.le_refl _
      · have := h2 j (by omega); omega
    · rw [if_neg e]
      refine ⟨by omega, fun j hj => ?_⟩
      by_cases ej : j = m + 1
      · subst ej; omega
      · exact h2 j (by omega)

theorem getD_setI (xs : List Int) (i k : Nat) (x : Int) (hk : k < xs.length) : (xs.set i x).getD k 0 = if k = i then x else xs.getD k 0 := by
  by_cases e : k = i
  · subst e; rw [if_pos rfl]; simp [List.getD, hk]
  · rw [if_neg e]
    have e' : ¬ i = k := fun h => e h.symm
    simp [List.getD, e']

theorem tot_cons (x : Int) (xs : List Int) : tot (x :: xs) = x + tot xs := by simp [tot]

theorem tot_set (xs : List Int) (i : Nat) (x : Int) (hi : i < xs.length) : tot (xs.set i x) = tot xs - xs.getD i 0 + x := by
  induction xs generalizing i with
  | nil => simp at hi
  | cons y ys ih =>
    cases i with
    | zero => rw [List.set_cons_zero, tot_cons, tot_cons]; simp [List.getD]; omega
    | succ i =>
      rw [List.set_cons_succ, tot_cons, tot_cons, ih i (by simpa using hi)]
      simp [List.getD]; omega

theorem tot_ge_mem (xs : List Int) (h : ∀ x ∈ xs, 0 ≤ x) : ∀ y ∈ xs, 0 ≤ tot xs ∧ y ≤ tot xs := by
  induction xs with
  | nil => intro y hy; simp at hy
  | cons x xs ih =>
    have h0 : 0 ≤ tot xs := by
      cases xs with
      | nil => exact Int.le_refl _
      | cons z zs => exact (ih (fun y hy => h y (by simp [hy])) z (by simp)).1
    intro y hy
    rw [tot_cons]
    have hx := h x (by simp)
    rcases List.mem_cons.1 hy with rfl | hy
    · omega
    · have := ih (fun y hy => h y (by simp [hy])) y hy; omega

theorem tot_le_mem (xs : List Int) (h : ∀ x ∈ xs, x ≤ 0) : ∀ y ∈ xs, tot xs ≤ 0 ∧ tot xs ≤ y := by
  induction xs with
  | nil => intro y hy; simp at hy
  | cons x xs ih =>
    have h0 : tot xs ≤ 0 := by
      cases xs with
      | nil => exact Int.le_refl _
      | cons z zs => exact (ih (fun y hy => h y (by simp [hy])) z (by simp)).1
    intro y hy
    rw [tot_cons]
    have hx := h x (by simp)
    rcases List.mem_cons.1 hy with rfl | hy
    · omega
    · have := ih (fun y hy => h y (by simp [hy])) y hy; omega

theorem mem_getD {xs : List Int} {x : Int} (h : x ∈ xs) : ∃ j, j < xs.length ∧ xs.getD j 0 = x := by
  obtain ⟨j, hj, rfl⟩ := List.getElem_of_mem h
  exact ⟨j, hj, by simp [List.getD, hj]⟩
theorem getD_mem {xs : List Int} {j : Nat} (h : j < xs.length) : xs.getD j 0 ∈ xs := by simp [List.getD, h]

/-- How many of the first balances are not 0, where one is set. -/
theorem kC_set (xs : List Int) (i : Nat) (x : Int) : ∀ m, m ≤ xs.length → kC (xs.set i x) m = kC xs m + if i < m then ((if x = 0 then 0 else 1) - (if xs.getD i 0 = 0 then 0 else 1)) else 0
  | 0, _ => by simp [kC]
  | m + 1, h => by
    rw [kC, kC, kC_set xs i x m (by omega), getD_setI xs i m x (by omega)]
    by_cases e : m = i
    · subst e
      rw [if_pos rfl, if_neg (Nat.lt_irrefl _), if_pos (Nat.lt_succ_self _)]; omega
    · rw [if_neg e]
      generalize (if xs.getD m 0 = 0 then (0 : Int) else 1) = y
      by_cases h1 : i < m
      · rw [if_pos h1, if_pos (show i < m + 1 by omega)]; omega
      · rw [if_neg h1, if_neg (show ¬ i < m + 1 by omega)]; omega

/-- The balance of the first one who owes most, and of the first one who gets most. -/
def loV (xs : List Int) : Int := xs.getD (loN xs xs.length) 0
def hiV (xs : List Int) : Int := xs.getD (hiN xs xs.length) 0
/-- The amount paid. -/
def payX (xs : List Int) : Int := if hiV xs < -loV xs then hiV xs else -loV xs
/-- The balances behind the payment. -/
def stepP (xs : List Int) : List Int := (xs.set (loN xs xs.length) (loV xs + payX xs)).set (hiN xs xs.length) (hiV xs - payX xs)

theorem stepP_length (xs : List Int) : (stepP xs).length = xs.length := by simp [stepP]

section
variable {xs : List Int} (hv : vBal xs = true)
include hv

theorem plan_bounds : loN xs xs.length < xs.length ∧ hiN xs xs.length < xs.length ∧ (∀ j, j < xs.length → loV xs ≤ xs.getD j 0 ∧ xs.getD j 0 ≤ hiV xs) := by
  obtain ⟨_, hn, _⟩ := (vBal_iff xs).1 hv
  obtain ⟨h1, h2⟩ := loN_spec xs xs.length hn.1
  obtain ⟨h3, h4⟩ := hiN_spec xs xs.length hn.1
  exact ⟨h1, h3, fun j hj => ⟨h2 j hj, h4 j hj⟩⟩

theorem plan_settled (h : loV xs = hiV xs) : ∀ j, j < xs.length → xs.getD j 0 = 0 := by
  obtain ⟨_, hn, ht⟩ := (vBal_iff xs).1 hv
  obtain ⟨p1, _, p3⟩ := plan_bounds hv
  have all : ∀ x ∈ xs, x = loV xs := fun x hx => by
    obtain ⟨j, hj, rfl⟩ := mem_getD hx
    have := p3 j hj
    omega
  have hmem : loV xs ∈ xs := getD_mem p1
  have hz : loV xs = 0 := by
    rcases Int.lt_trichotomy (loV xs) 0 with h0 | h0 | h0
    · have := (tot_le_mem xs (fun x hx => by rw [all x hx]; omega) _ hmem).2; omega
    · exact h0
    · have := (tot_ge_mem xs (fun x hx => by rw [all x hx]; omega) _ hmem).2; omega
  intro j hj
  rw [all _ (getD_mem hj), hz]

theorem plan_open (h : loV xs ≠ hiV xs) : loV xs < 0 ∧ 0 < hiV xs ∧ loN xs xs.length ≠ hiN xs xs.length := by
  obtain ⟨_, hn, ht⟩ := (vBal_iff xs).1 hv
  obtain ⟨p1, p2, p3⟩ := plan_bounds hv
  have hl := p3 _ p2
  have hle : loV xs ≤ hiV xs := hl.1
  refine ⟨?_, ?_, fun e => h (by unfold loV hiV; rw [e])⟩
  · apply Classical.byContradiction
    intro hn0
    have h1 := (tot_ge_mem xs (fun x hx => by obtain ⟨j, hj, rfl⟩ := mem_getD hx; have := p3 j hj; omega) (hiV xs) (getD_mem p2)).2
    omega
  · apply Classical.byContradiction
    intro hn0
    have h1 := (tot_le_mem xs (fun x hx => by obtain ⟨j, hj, rfl⟩ := mem_getD hx; have := p3 j hj; omega) (loV xs) (getD_mem p1)).2
    omega

omit hv in
theorem step_at {j : Nat} (hj : j < xs.length) : (stepP xs).getD j 0 = if j = hiN xs xs.length then hiV xs - payX xs else if j = loN xs xs.length then loV xs + payX xs else xs.getD j 0 := by
  unfold stepP
  rw [getD_setI _ _ j _ (by simpa using hj), getD_setI _ _ j _ hj]

theorem step_vBal (h : loV xs ≠ hiV xs) : vBal (stepP xs) = true ∧ (1 ≤ payX xs ∧ payX xs ≤ 300) := by
  obtain ⟨hb, hn, ht⟩ := (vBal_iff xs).1 hv
  obtain ⟨p1, p2, p3⟩ := plan_bounds hv
  obtain ⟨o1, o2, o3⟩ := plan_open hv h
  have b1 := hb _ (getD_mem p1)
  have b2 := hb _ (getD_mem p2)
  change -300 ≤ loV xs ∧ loV xs ≤ 300 at b1
  change -300 ≤ hiV xs ∧ hiV xs ≤ 300 at b2
  have hx : 1 ≤ payX xs ∧ payX xs ≤ 300 ∧ payX xs ≤ -loV xs ∧ payX xs ≤ hiV xs := by unfold payX; split <;> omega
  refine ⟨(vBal_iff _).2 ⟨fun x hx' => ?_, by rw [stepP_length]; exact hn, ?_⟩, hx.1, hx.2.1⟩
  · obtain ⟨j, hj, rfl⟩ := mem_getD hx'
    rw [stepP_length] at hj
    rw [step_at hj]
    have := hb _ (getD_mem hj)
    split
    · omega
    · split <;> omega
  · unfold stepP
    rw [tot_set _ _ _ (by simpa using p2), tot_set _ _ _ p1, getD_setI _ _ _ _ p2, if_neg (fun e => o3 e.symm), ht]
    change 0 - loV xs + (loV xs + payX xs) - hiV xs + (hiV xs - payX xs) = 0
    omega

theorem step_kC (h : loV xs ≠ hiV xs) : kC (stepP xs) xs.length + 1 ≤ kC xs xs.length ∧ 2 ≤ kC xs xs.length := by
  obtain ⟨p1, p2, p3⟩ := plan_bounds hv
  obtain ⟨o1, o2, o3⟩ := plan_open hv h
  have l0 : xs.getD (loN xs xs.length) 0 ≠ 0 := by change loV xs ≠ 0; omega
  have h0 : xs.getD (hiN xs xs.length) 0 ≠ 0 := by change hiV xs ≠ 0; omega
  have e : kC (stepP xs) xs.length = kC xs xs.length + ((if loV xs + payX xs = 0 then 0 else 1) - 1) + ((if hiV xs - payX xs = 0 then 0 else 1) - 1) := by
    unfold stepP
    have e1 := kC_set (xs.set (loN xs xs.length) (loV xs + payX xs)) (hiN xs xs.length) (hiV xs - payX xs) xs.length (by simp)
    have hget : (xs.set (loN xs xs.length) (loV xs + payX xs)).getD (hiN xs xs.length) 0 = xs.getD (hiN xs xs.length) 0 := by rw [getD_setI _ _ _ _ p2, if_neg (fun e => o3 e.symm)]
    rw [kC_set xs _ _ xs.length (Nat.le_refl _), if_pos p1, if_pos p2, hget, if_neg l0, if_neg h0] at e1
    exact e1
  have hz : loV xs + payX xs = 0 ∨ hiV xs - payX xs = 0 := by unfold payX; split <;> omega
  have h2 : 2 ≤ kC xs xs.length := by
    have z : ∀ m, m ≤ xs.length → (if loN xs xs.length < m then (1 : Int) else 0) + (if hiN xs xs.length < m then 1 else 0) ≤ kC xs m := by
      intro m
      induction m with
      | zero => intro _; simp [kC]
      | succ m ih =>
        intro hm
        have := ih (by omega)
        rw [kC]
        by_cases e1 : m = loN xs xs.length
        · rw [if_pos (show loN xs xs.length < m + 1 by omega)]
          rw [if_neg (show ¬ loN xs xs.length < m by omega)] at this
          rw [e1, if_neg l0, ← e1]
          by_cases e2 : hiN xs xs.length < m
          · rw [if_pos e2] at this; rw [if_pos (by omega)]; omega
          · rw [if_neg e2] at this; rw [if_neg (by omega)]; omega
        · by_cases e2 : m = hiN xs xs.length
          · rw [if_pos (show hiN xs xs.length < m + 1 by omega)]
            rw [if_neg (show ¬ hiN xs xs.length < m by omega)] at this
            rw [e2, if_neg h0, ← e2]
            by_cases e3 : loN xs xs.length < m
            · rw [if_pos e3] at this; rw [if_pos (by omega)]; omega
            · rw [if_neg e3] at this; rw [if_neg (by omega)]; omega
          · have a1 : (loN xs xs.length < m + 1) = (loN xs xs.length < m) := propext ⟨fun h => by omega, fun h => by omega⟩
            have a2 : (hiN xs xs.length < m + 1) = (hiN xs xs.length < m) := propext ⟨fun h => by omega, fun h => by omega⟩
            have a3 : (0 : Int) ≤ if xs.getD m 0 = 0 then 0 else 1 := by split <;> omega
            simp only [a1, a2]
            omega
    have := z xs.length (Nat.le_refl _)
    rw [if_pos p1, if_pos p2] at this
    omega
  refine ⟨?_, h2⟩
  rw [e]
  rcases hz with hz | hz
  · rw [if_pos hz]; split <;> omega
  · rw [if_pos hz]; split <;> omega

end

/-- The plan, with at most f payments. -/
def planF : Nat → List Int → List (Int × Int × Int)
  | 0, _ => []
  | f + 1, xs => if loV xs = hiV xs then [] else ((loN xs xs.length : Nat), (hiN xs xs.length : Nat), payX xs) :: planF f (stepP xs)

theorem kC_zero {xs : List Int} (h : ∀ j, j < xs.length → xs.getD j 0 = 0) : ∀ m, m ≤ xs.length → kC xs m = 0
  | 0, _ => rfl
  | m + 1, hm => by rw [kC, kC_zero h m (by omega), h m (by omega)]; rfl

theorem kC_nonneg (xs : List Int) : ∀ m, 0 ≤ kC xs m ∧ kC xs m ≤ m
  | 0 => ⟨Int.le_refl _, Int.le_refl _⟩
  | m + 1 => by
    have := kC_nonneg xs m
    rw [kC]; split <;> omega

theorem kC_pos_of {xs : List Int} (hv : vBal xs = true) (h : loV xs = hiV xs) : kC xs xs.length = 0 := kC_zero (plan_settled hv h) _ (Nat.le_refl _)

/-- A plan is shorter than those who must pay or get. -/
theorem plan_short : ∀ (f : Nat) (xs : List Int), vBal xs = true → kC xs xs.length ≤ f → (planF f xs).length ≤ kC xs xs.length - 1 ∨ planF f xs = []
  | 0, xs, _, _ => .inr rfl
  | f + 1, xs, hv, hf => by
    rw [planF]
    by_cases h : loV xs = hiV xs
    · rw [if_pos h]; exact .inr rfl
    · rw [if_neg h]
      obtain ⟨hs, _⟩ := step_vBal hv h
      have hk := step_kC hv h
      have ih := plan_short f (stepP xs) hs (by rw [stepP_length]; omega)
      rw [stepP_length] at ih
      refine .inl ?_
      rw [List.length_cons]
      rcases ih with ih | ih
      · omega
      · rw [ih]; simp; omega

/-- All friends less the most groups are at most the payments of the plan. -/
theorem plan_groups : ∀ (f : Nat) (xs : List Int), vBal xs = true → kC xs xs.length ≤ f → (xs.length : Int) ≤ gp xs (2 ^ xs.length - 1) + (planF f xs).length
  | f, xs, hv, hf => by
    have hg := groups_facts hv
    cases f with
    | zero =>
      have := (kC_nonneg xs xs.length).1
      simp only [planF, List.length_nil]; omega
    | succ f =>
      rw [planF]
      by_cases h : loV xs = hiV xs
      · rw [if_pos h]
        have := kC_pos_of hv h
        simp only [List.length_nil]; omega
      · rw [if_neg h]
        obtain ⟨hs, _⟩ := step_vBal hv h
        have hk := step_kC hv h
        have ih := plan_groups f (stepP xs) hs (by rw [stepP_length]; omega)
        obtain ⟨_, hn, _⟩ := (vBal_iff xs).1 hv
        obtain ⟨p1, p2, _⟩ := plan_bounds hv
        obtain ⟨o1, o2, o3⟩ := plan_open hv h
        have hl := stepP_length xs
        have hz : loV xs + payX xs = 0 ∨ hiV xs - payX xs = 0 := by unfold payX; split <;> omega
        have sa := fun {j} (hj : j < xs.length) => step_at hj
        have key : gp (stepP xs) (2 ^ (stepP xs).length - 1) ≤ gp xs (2 ^ xs.length - 1) + 1 := by
          rcases hz with hz | hz
          · refine gp_pay (xs := xs) (ys := stepP xs) (by rw [hl]; exact hn.2) hl.symm (c := loN xs xs.length) (d := hiN xs xs.length) (by rw [hl]; exact p1) (by rw [hl]; exact p2) o3 ?_ ?_ ?_
            · rw [sa p1, if_neg o3, if_pos rfl]; exact hz
            · rw [sa p2, if_pos rfl]
              change _ = loV xs + hiV xs
              omega
            · intro i hi hc hd
              rw [sa (by rw [hl] at hi; exact hi), if_neg hd, if_neg hc]
          · refine gp_pay (xs := xs) (ys := stepP xs) (by rw [hl]; exact hn.2) hl.symm (c := hiN xs xs.length) (d := loN xs xs.length) (by rw [hl]; exact p2) (by rw [hl]; exact p1) (fun e => o3 e.symm) ?_ ?_ ?_
            · rw [sa p2, if_pos rfl]; exact hz
            · rw [sa p1, if_neg o3, if_pos rfl]
              change _ = hiV xs + loV xs
              omega
            · intro i hi hc hd
              rw [sa (by rw [hl] at hi; exact hi), if_neg hc, if_neg hd]
        rw [hl] at ih key
        rw [List.length_cons]
        omega

end Go.Proofs.Ytbedjebnllimpaa
