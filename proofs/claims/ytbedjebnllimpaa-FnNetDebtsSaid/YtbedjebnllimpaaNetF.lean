/- Debts netted: the recursion and what holds of it. -/
import Derived.Test.YtbedjebnllimpaaNetM
namespace Go.Proofs.Ytbedjebnllimpaa
open Go.RowKit

/-- The first circle from the friend a on, r of them. -/
def fcS (g : List (List Int)) : Nat → Nat → Option (List Nat)
  | 0, _ => none
  | r + 1, a => orC (circF g 100 [a]) (fcS g r (a + 1))
def fcF (g : List (List Int)) : Option (List Nat) := fcS g g.length 0
/-- The step of netting. -/
def netS (g : List (List Int)) (F : List (List Int) → List (List Int)) : Option (List Nat) → List (List Int)
  | some c => F (downC g c)
  | none => g
def netF : Nat → List (List Int) → List (List Int)
  | 0, g => g
  | f + 1, g => netS g (netF f) (fcF g)
/-- What NetDebts answers. -/
def netL (g : List (List Int)) : List (List Int) := if vDebts g = true then netF 2000 g else []

theorem fcS_none {g : List (List Int)} : ∀ r a, fcS g r a = none ↔ ∀ b, a ≤ b → b < a + r → circF g 100 [b] = none
  | 0, a => ⟨fun _ b h1 h2 => by omega, fun _ => rfl⟩
  | r + 1, a => by
    rw [fcS]
    constructor
    · intro h b h1 h2
      cases hc : circF g 100 [a] with
      | some t => rw [hc] at h; cases h
      | none =>
        rw [hc] at h
        change fcS g r (a + 1) = none at h
        by_cases e : b = a
        · subst e; exact hc
        · exact (fcS_none r (a + 1)).1 h b (by omega) (by omega)
    · intro h
      rw [h a (Nat.le_refl _) (by omega)]
      exact (fcS_none r (a + 1)).2 fun b h1 h2 => h b (by omega) (by omega)

theorem fcS_some {g : List (List Int)} {c : List Nat} : ∀ r a, fcS g r a = some c → ∃ b, a ≤ b ∧ b < a + r ∧ circF g 100 [b] = some c
  | 0, _, h => by cases h
  | r + 1, a, h => by
    rw [fcS] at h
    cases hc : circF g 100 [a] with
    | some t =>
      rw [hc] at h
      simp only [orC, Option.some.injEq] at h
      subst h
      exact ⟨a, Nat.le_refl _, by omega, hc⟩
    | none =>
      rw [hc] at h
      change fcS g r (a + 1) = some c at h
      obtain ⟨b, h1, h2, h3⟩ := fcS_some r (a + 1) h
      exact ⟨b, by omega, by omega, h3⟩

theorem fcS_skip {g : List (List Int)} : ∀ r a, circF g 100 [a] = none → fcS g (r + 1) a = fcS g r (a + 1) := fun r a h => by rw [fcS, h]; rfl
theorem fcS_take {g : List (List Int)} {c : List Nat} (r a : Nat) (h : circF g 100 [a] = some c) : fcS g (r + 1) a = some c := by rw [fcS, h]; rfl

theorem good_one {g : List (List Int)} {a : Nat} (ha : a < g.length) : GoodC g [a] :=
  ⟨fun i j hi hj _ => by simp at hi hj; omega, fun i hi => by simp at hi; subst hi; simpa using ha, fun i hi => by simp at hi⟩

theorem circ_good {g : List (List Int)} {a : Nat} {c : List Nat} (ha : a < g.length) (h : circF g 100 [a] = some c) : GoodC g c ∧ closes g c = true :=
  circF_good 100 [a] c (by simp) (good_one ha) h

theorem fc_good {g : List (List Int)} {c : List Nat} (h : fcF g = some c) : GoodC g c ∧ closes g c = true := by
  obtain ⟨b, _, h2, h3⟩ := fcS_some _ _ h
  exact circ_good (by omega) h3

theorem netF_end {g : List (List Int)} (h : fcF g = none) : ∀ f, netF f g = g
  | 0 => rfl
  | f + 1 => by rw [netF, h]; rfl
theorem netF_step {g : List (List Int)} {c : List Nat} (h : fcF g = some c) (f : Nat) : netF (f + 1) g = netF f (downC g c) := by rw [netF, h]; rfl

theorem sumG_bounds {g : List (List Int)} (hv : vDebts g = true) : 0 ≤ sumG g ∧ sumG g ≤ 1800 := by
  obtain ⟨hn, hrow⟩ := (vDebts_iff g).1 hv
  have h1 : ∀ a, a < g.length → 0 ≤ sumN (cellOf g a) g.length ∧ sumN (cellOf g a) g.length ≤ 300 := fun a ha => by
    have := sumN_bounds (cellOf g a) 50 g.length (fun i hi => (hrow a ha).2.2 i hi)
    omega
  have h2 := sumN_bounds (fun a => sumN (cellOf g a) g.length) 300 g.length h1
  unfold sumG
  omega

/-- All that holds of netted debts. -/
theorem netF_facts : ∀ (f : Nat) (g : List (List Int)), vDebts g = true → sumG g < f → vDebts (netF f g) = true ∧ (netF f g).length = g.length ∧ fcF (netF f g) = none ∧ (∀ a b, a < g.length → b < g.length → cellOf (netF f g) a b ≤ cellOf g a b) ∧ balL (netF f g) = balL g
  | 0, g, hv, h => by have := (sumG_bounds hv).1; omega
  | f + 1, g, hv, h => by
    cases hc : fcF g with
    | none =>
      rw [netF_end hc]
      exact ⟨hv, rfl, hc, fun _ _ _ _ => Int.le_refl _, rfl⟩
    | some c =>
      rw [netF_step hc]
      obtain ⟨hg, hcl⟩ := fc_good hc
      obtain ⟨d1, d2, d3, d4, d5⟩ := down_facts hv hg hcl
      obtain ⟨i1, i2, i3, i4, i5⟩ := netF_facts f (downC g c) d1 (by omega)
      rw [d2] at i2 i4
      exact ⟨i1, i2, i3, fun a b ha hb => Int.le_trans (i4 a b ha hb) (d4 a b ha hb), by rw [i5, d5]⟩

theorem net_facts {g : List (List Int)} (hv : vDebts g = true) : vDebts (netL g) = true ∧ (netL g).length = g.length ∧ fcF (netL g) = none ∧ (∀ a b, a < g.length → b < g.length → cellOf (netL g) a b ≤ cellOf g a b) ∧ balL (netL g) = balL g ∧ netL (netL g) = netL g := by
  have e : netL g = netF 2000 g := by rw [netL, if_pos hv]
  have hs := (sumG_bounds hv).2
  obtain ⟨h1, h2, h3, h4, h5⟩ := netF_facts 2000 g hv (by omega)
  rw [e]
  refine ⟨h1, h2, h3, h4, h5, ?_⟩
  rw [netL, if_pos h1, netF_end h3]

section
variable {g g' : List (List Int)}

theorem nextOK_mono (hle : ∀ a b, cellOf g' a b ≤ cellOf g a b) {hd : List Nat} {b : Nat} (h : nextOK g' hd b = true) : nextOK g hd b = true := by
  unfold nextOK at *
  rw [Bool.and_eq_true, decide_eq_true_eq] at *
  exact ⟨h.1, Int.lt_of_lt_of_le h.2 (hle _ _)⟩

theorem scanC_mono (hle : ∀ a b, cellOf g' a b ≤ cellOf g a b) {hd : List Nat} {F F' : List Nat → Option (List Nat)} (hF : ∀ b, F (hd ++ [b]) = none → F' (hd ++ [b]) = none) : ∀ r b, scanC g hd F r b = none → scanC g' hd F' r b = none
  | 0, _, _ => rfl
  | r + 1, b, h => by
    rw [scanC] at h ⊢
    by_cases hn' : nextOK g' hd b = true
    · rw [if_pos (nextOK_mono hle hn')] at h
      rw [if_pos hn']
      cases hf : F (hd ++ [b]) with
      | some t => rw [hf] at h; cases h
      | none =>
        rw [hf] at h
        rw [hF b hf]
        exact scanC_mono hle hF r (b + 1) h
    · rw [if_neg hn']
      by_cases hn : nextOK g hd b = true
      · rw [if_pos hn] at h
        cases hf : F (hd ++ [b]) with
        | some t => rw [hf] at h; cases h
        | none =>
          rw [hf] at h
          exact scanC_mono hle hF r (b + 1) h
      · rw [if_neg hn] at h
        exact scanC_mono hle hF r (b + 1) h

/-- With less debts there are no more circles. -/
theorem circF_mono (hl : g'.length = g.length) (hle : ∀ a b, cellOf g' a b ≤ cellOf g a b) : ∀ f hd, circF g f hd = none → circF g' f hd = none
  | 0, _, _ => rfl
  | f + 1, hd, h => by
    rw [circF] at h ⊢
    by_cases hc : closes g hd = true
    · rw [if_pos hc] at h; cases h
    · rw [if_neg hc] at h
      have hc' : ¬ closes g' hd = true := fun hh => hc (by
        unfold closes at *
        rw [Bool.and_eq_true, decide_eq_true_eq, decide_eq_true_eq] at *
        exact ⟨hh.1, Int.lt_of_lt_of_le hh.2 (hle _ _)⟩)
      rw [if_neg hc', hl]
      exact scanC_mono hle (fun b => circF_mono hl hle f (hd ++ [b])) _ _ h

end

/-- Taken down, everywhere. -/
theorem down_le {g : List (List Int)} {c : List Nat} (hv : vDebts g = true) (h : GoodC g c) (hc : closes g c = true) (a b : Nat) : cellOf (downC g c) a b ≤ cellOf g a b := by
  obtain ⟨d1, d2, _, d4, _⟩ := down_facts hv h hc
  by_cases ha : a < g.length
  · by_cases hb : b < g.length
    · exact d4 a b ha hb
    · have e1 : (rowOf (downC g c) a).length ≤ b := by rw [vDebts_sq d1 a (by rw [d2]; exact ha), d2]; omega
      have e2 : (rowOf g a).length ≤ b := by rw [vDebts_sq hv a ha]; omega
      unfold cellOf
      rw [List.getD_eq_getElem?_getD, List.getElem?_eq_none e1, List.getD_eq_getElem?_getD, List.getElem?_eq_none e2]
      exact Int.le_refl _
  · have e1 : rowOf (downC g c) a = [] := by unfold rowOf; rw [List.getD_eq_getElem?_getD, List.getElem?_eq_none (by omega)]; rfl
    have e2 : rowOf g a = [] := by unfold rowOf; rw [List.getD_eq_getElem?_getD, List.getElem?_eq_none (by omega)]; rfl
    unfold cellOf
    rw [e1, e2]; exact Int.le_refl _

/-- A circle has no more friends than there are. -/
theorem nodup_shortM : ∀ (n : Nat) (l : List Nat), (∀ i j, i < l.length → j < l.length → l.getD i 0 = l.getD j 0 → i = j) → (∀ i, i < l.length → l.getD i 0 < n) → l.length ≤ n
  | 0, l, _, hl => by
    cases l with
    | nil => exact Nat.le_refl _
    | cons x xs => exact absurd (hl 0 (by simp)) (Nat.not_lt_zero _)
  | n + 1, l, hd, hl => by
    by_cases h : ∃ i, i < l.length ∧ l.getD i 0 = n
    · obtain ⟨i, hi, he⟩ := h
      have hlen : (l.eraseIdx i).length = l.length - 1 := List.length_eraseIdx_of_lt hi
      have hat : ∀ j, j < l.length - 1 → (l.eraseIdx i).getD j 0 = l.getD (if j < i then j else j + 1) 0 := fun j hj => by
        rw [List.getD_eq_getElem?_getD, List.getElem?_eraseIdx, List.getD_eq_getElem?_getD]
        split <;> rfl
      have ih := nodup_shortM n (l.eraseIdx i) (fun a b ha hb e => by
        rw [hlen] at ha hb
        rw [hat a ha, hat b hb] at e
        have := hd _ _ (by split <;> omega) (by split <;> omega) e
        split at this <;> split at this <;> omega) (fun a ha => by
        rw [hlen] at ha
        rw [hat a ha]
        have h1 := hl (if a < i then a else a + 1) (by split <;> omega)
        have h2 : l.getD (if a < i then a else a + 1) 0 ≠ n := fun e => by
          have := hd _ _ (by split <;> omega) hi (e.trans he.symm)
          split at this <;> omega
        omega)
      omega
    · have ih := nodup_shortM n l hd (fun i hi => by
        have h1 := hl i hi
        have h2 : l.getD i 0 ≠ n := fun e => h ⟨i, hi, e⟩
        omega)
      omega

end Go.Proofs.Ytbedjebnllimpaa
