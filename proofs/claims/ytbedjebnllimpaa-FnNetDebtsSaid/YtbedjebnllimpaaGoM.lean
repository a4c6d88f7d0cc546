/- No circle is found where debts go nowhere round. -/
import Derived.Test.YtbedjebnllimpaaNetF
import Derived.Test.YtbedjebnllimpaaGrpM
namespace Go.Proofs.Ytbedjebnllimpaa
open Go.RowKit

theorem scanC_ne {g : List (List Int)} {hd : List Nat} {F : List Nat → Option (List Nat)} {b : Nat} (hn : nextOK g hd b = true) (hF : F (hd ++ [b]) ≠ none) : ∀ r b0, b0 ≤ b → b < b0 + r → scanC g hd F r b0 ≠ none
  | 0, _, h1, h2 => by omega
  | r + 1, b0, h1, h2 => by
    rw [scanC]
    by_cases e : b0 = b
    · subst e
      rw [if_pos hn]
      cases hf : F (hd ++ [b0]) with
      | none => exact absurd hf hF
      | some t => intro h; cases h
    · have ih := scanC_ne hn hF r (b0 + 1) (by omega) (by omega)
      by_cases e2 : nextOK g hd b0 = true
      · rw [if_pos e2]
        cases F (hd ++ [b0]) with
        | none => exact ih
        | some t => intro h; cases h
      · rw [if_neg e2]; exact ih

/-- The first friends on a way. -/
def wayL (P : Nat → Nat) (k : Nat) : List Nat := (List.range k).map P
theorem wayL_len (P : Nat → Nat) (k : Nat) : (wayL P k).length = k := by simp [wayL]
theorem wayL_at (P : Nat → Nat) (k i : Nat) (h : i < k) : (wayL P k).getD i 0 = P i := by simp [wayL, List.getD, h]
theorem wayL_succ (P : Nat → Nat) (k : Nat) : wayL P (k + 1) = wayL P k ++ [P k] := by simp [wayL, List.range_succ]

/-- A circle is found if there is one. -/
theorem circF_finds {g : List (List Int)} {P : Nat → Nat} {d : Nat} (hd : 2 ≤ d) (hdis : ∀ x y, x < d → y < d → P x = P y → x = y) (hlt : ∀ x, x < d → P x < g.length) (hmin : ∀ x, 0 < x → x < d → P 0 < P x) (hed : ∀ x, x + 1 < d → 0 < cellOf g (P x) (P (x + 1))) (hcl : 0 < cellOf g (P (d - 1)) (P 0)) :
    ∀ m k f, k + m = d → 1 ≤ k → m < f → circF g f (wayL P k) ≠ none
  | m, k, 0, _, _, hf => absurd hf (Nat.not_lt_zero _)
  | 0, k, f + 1, hk, h1, _ => by
    have hkd : k = d := by omega
    subst hkd
    have hc : closes g (wayL P k) = true := by
      unfold closes
      rw [wayL_len, wayL_at P k _ (by omega), wayL_at P k 0 (by omega), decide_eq_true hcl, decide_eq_true (show 1 < k by omega)]
      rfl
    rw [circF, if_pos hc]
    intro h; cases h
  | m + 1, k, f + 1, hk, h1, hf => by
    have ih := circF_finds hd hdis hlt hmin hed hcl m (k + 1) f (by omega) (by omega) (by omega)
    rw [circF]
    by_cases hc : closes g (wayL P k) = true
    · rw [if_pos hc]; intro h; cases h
    · rw [if_neg hc, wayL_at P k 0 (by omega)]
      have hp := hmin k (by omega) (by omega)
      have hl := hlt k (by omega)
      refine scanC_ne (b := P k) ?_ ?_ _ _ (by omega) (by omega)
      · unfold nextOK
        rw [wayL_len, wayL_at P k _ (by omega)]
        have he := hed (k - 1) (by omega)
        rw [show k - 1 + 1 = k by omega] at he
        rw [decide_eq_true he, Bool.and_true, Bool.not_eq_true']
        cases hcn : (wayL P k).contains (P k)
        · rfl
        · exfalso
          have hm := List.contains_iff_mem.1 hcn
          unfold wayL at hm
          rw [List.mem_map] at hm
          obtain ⟨x, hx, hx2⟩ := hm
          have hx := List.mem_range.1 hx
          have := hdis x k (by omega) (by omega) hx2
          omega
      · rw [← wayL_succ]; exact ih

/-- Among more than n numbers below n two are the same. -/
theorem pigeon (n : Nat) (o : Nat → Nat) (h : ∀ i, o i < n) : ∃ i j, i < j ∧ o i = o j := by
  apply Classical.byContradiction
  intro hno
  have hd : ∀ i j, i < (wayL o (n + 1)).length → j < (wayL o (n + 1)).length → (wayL o (n + 1)).getD i 0 = (wayL o (n + 1)).getD j 0 → i = j := by
    intro i j hi hj e
    rw [wayL_len] at hi hj
    rw [wayL_at o _ i hi, wayL_at o _ j hj] at e
    rcases Nat.lt_trichotomy i j with h1 | h1 | h1
    · exact absurd ⟨i, j, h1, e⟩ hno
    · exact h1
    · exact absurd ⟨j, i, h1, e.symm⟩ hno
  have := nodup_shortM n (wayL o (n + 1)) hd (fun i hi => by rw [wayL_len] at hi; rw [wayL_at o _ i hi]; exact h i)
  rw [wayL_len] at this
  omega

/-- The least number of which something holds. -/
theorem least_of (P : Nat → Prop) (h : ∃ n, P n) : ∃ n, P n ∧ ∀ m, m < n → ¬ P m := by
  obtain ⟨n, hn⟩ := h
  induction n using Nat.strongRecOn with
  | ind n ih =>
    by_cases e : ∃ m, m < n ∧ P m
    · obtain ⟨m, hm, hp⟩ := e
      exact ih m hm hp
    · exact ⟨n, hn, fun m hm hp => e ⟨m, hm, hp⟩⟩

/-- Where a function is least. -/
theorem argmin (o : Nat → Nat) (i : Nat) : ∀ d, 0 < d → ∃ t, i ≤ t ∧ t < i + d ∧ ∀ s, i ≤ s → s < i + d → o t ≤ o s
  | 0, h => absurd h (Nat.lt_irrefl _)
  | 1, _ => by
    refine ⟨i, Nat.le_refl _, by omega, fun s h1 h2 => ?_⟩
    have : s = i := by omega
    subst this; exact Nat.le_refl _
  | d + 2, _ => by
    obtain ⟨t, h1, h2, h3⟩ := argmin o i (d + 1) (by omega)
    by_cases e : o (i + (d + 1)) < o t
    · refine ⟨i + (d + 1), by omega, by omega, fun s hs1 hs2 => ?_⟩
      by_cases e2 : s = i + (d + 1)
      · subst e2; exact Nat.le_refl _
      · have := h3 s hs1 (by omega); omega
    · refine ⟨t, h1, by omega, fun s hs1 hs2 => ?_⟩
      by_cases e2 : s = i + (d + 1)
      · subst e2; omega
      · exact h3 s hs1 (by omega)

/-- Friends each of whom owes another one of them: there is a circle. -/
theorem trap {g : List (List Int)} (hv : vDebts g = true) (hfc : fcF g = none) (S : Nat → Prop) (h0 : ∃ a, a < g.length ∧ S a) (hS : ∀ a, a < g.length → S a → ∃ b, b < g.length ∧ S b ∧ 0 < cellOf g a b) : False := by
  obtain ⟨a0, ha0, hs0⟩ := h0
  have hch : ∃ nx : Nat → Nat, ∀ a, a < g.length → S a → nx a < g.length ∧ S (nx a) ∧ 0 < cellOf g a (nx a) := by
    have h : ∀ a, ∃ b, a < g.length → S a → b < g.length ∧ S b ∧ 0 < cellOf g a b := fun a => by
      by_cases hh : a < g.length ∧ S a
      · obtain ⟨b, hb⟩ := hS a hh.1 hh.2
        exact ⟨b, fun _ _ => hb⟩
      · exact ⟨0, fun h1 h2 => absurd ⟨h1, h2⟩ hh⟩
    exact ⟨fun a => Classical.choose (h a), fun a ha hs => Classical.choose_spec (h a) ha hs⟩
  obtain ⟨nx, hnx⟩ := hch
  obtain ⟨o, ho0, hos⟩ : ∃ o : Nat → Nat, o 0 = a0 ∧ ∀ k, o (k + 1) = nx (o k) := ⟨fun k => Nat.rec a0 (fun _ x => nx x) k, rfl, fun _ => rfl⟩
  have hin : ∀ k, o k < g.length ∧ S (o k) := by
    intro k
    induction k with
    | zero => rw [ho0]; exact ⟨ha0, hs0⟩
    | succ k ih => rw [hos]; have := hnx _ ih.1 ih.2; exact ⟨this.1, this.2.1⟩
  have hedge : ∀ k, 0 < cellOf g (o k) (o (k + 1)) := fun k => by rw [hos]; exact (hnx _ (hin k).1 (hin k).2).2.2
  obtain ⟨i, j, hij, hoij⟩ := pigeon g.length o (fun i => (hin i).1)
  obtain ⟨d, ⟨hd0, i1, hi1⟩, hdm⟩ := least_of (fun d => 0 < d ∧ ∃ i, o (i + d) = o i) ⟨j - i, by omega, i, by rw [show i + (j - i) = j by omega]; exact hoij.symm⟩
  have hper : ∀ x, o (i1 + x + d) = o (i1 + x) := by
    intro x
    induction x with
    | zero => exact hi1
    | succ x ih =>
      rw [show i1 + (x + 1) + d = (i1 + x + d) + 1 by omega, hos, ih, ← hos]
      rfl
  obtain ⟨t, ht1, ht2, ht3⟩ := argmin o i1 d hd0
  have hpt : ∀ x, o (t + x + d) = o (t + x) := fun x => by
    have := hper (t - i1 + x)
    rw [show i1 + (t - i1 + x) = t + x by omega] at this
    exact this
  have hdis : ∀ x y, x < d → y < d → o (t + x) = o (t + y) → x = y := by
    intro x y hx hy e
    rcases Nat.lt_trichotomy x y with h1 | h1 | h1
    · exact absurd ⟨by omega, t + x, by rw [show t + x + (y - x) = t + y by omega]; exact e.symm⟩ (hdm (y - x) (by omega))
    · exact h1
    · exact absurd ⟨by omega, t + y, by rw [show t + y + (x - y) = t + x by omega]; exact e⟩ (hdm (x - y) (by omega))
  have hge : ∀ x, x < d → o t ≤ o (t + x) := by
    intro x hx
    by_cases e : t + x < i1 + d
    · exact ht3 _ (by omega) e
    · have h1 := ht3 (t + x - d) (by omega) (by omega)
      have h2 := hper (t + x - d - i1)
      rw [show i1 + (t + x - d - i1) = t + x - d by omega, show t + x - d + d = t + x by omega] at h2
      omega
  have hd2 : 2 ≤ d := by
    apply Classical.byContradiction
    intro hlt
    have h1 : d = 1 := by omega
    have h2 := hpt 0
    rw [h1] at h2
    have h3 := hedge t
    have e : o (t + 1) = o t := h2
    rw [e] at h3
    have h4 := (((vDebts_iff g).1 hv).2 (o t) (hin t).1).2.1
    omega
  have hne := circF_finds (g := g) (P := fun x => o (t + x)) hd2 hdis (fun x _ => (hin _).1) (fun x hx0 hx => by
    have h1 := hge x hx
    have h2 : o (t + 0) ≠ o (t + x) := fun e => by have := hdis 0 x (by omega) hx e; omega
    show o (t + 0) < o (t + x)
    have e0 : o (t + 0) = o t := rfl
    omega) (fun x _ => hedge _) (by
    have h1 := hedge (t + (d - 1))
    rw [show t + (d - 1) + 1 = t + 0 + d by omega, hpt 0] at h1
    exact h1) (d - 1) 1 100 (by omega) (Nat.le_refl _) (by
    have h1 := nodup_shortM g.length (wayL (fun x => o (t + x)) d) (fun i j hi hj e => by
      rw [wayL_len] at hi hj
      rw [wayL_at _ _ i hi, wayL_at _ _ j hj] at e
      exact hdis i j hi hj e) (fun i hi => by rw [wayL_len] at hi; rw [wayL_at _ _ i hi]; exact (hin _).1)
    rw [wayL_len] at h1
    have := ((vDebts_iff g).1 hv).1.2
    omega)
  have hz := (fcS_none g.length 0).1 hfc (o t) (Nat.zero_le _) (by have := (hin t).1; omega)
  exact hne hz

end Go.Proofs.Ytbedjebnllimpaa
