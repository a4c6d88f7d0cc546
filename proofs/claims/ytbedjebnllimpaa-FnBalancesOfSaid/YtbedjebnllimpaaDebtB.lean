/- Balances of debts, in the model. -/
import Derived.Test.YtbedjebnllimpaaSN
import Derived.Test.YtbedjebnllimpaaDebtV
import Derived.BigRegion
namespace Go.Proofs.Ytbedjebnllimpaa
open Go.RowKit

/-- What has come in for k behind the place b of row a. -/
def inP (g : List (List Int)) (a b k : Nat) : Int := sumN (fun x => cellOf g x k) a + if k < b then cellOf g a k else 0
def outP (g : List (List Int)) (a b k : Nat) : Int := if k < a then sumN (cellOf g k) g.length else if k = a then sumN (cellOf g k) b else 0
def balP (g : List (List Int)) (a b : Nat) : List Int := (List.range g.length).map fun k => inP g a b k - outP g a b k
/-- What each one must get. -/
def balL (g : List (List Int)) : List Int := (List.range g.length).map fun k => sumN (fun x => cellOf g x k) g.length - sumN (cellOf g k) g.length

theorem balP_len (g : List (List Int)) (a b : Nat) : (balP g a b).length = g.length := by simp [balP]
theorem balP_at (g : List (List Int)) (a b k : Nat) (hk : k < g.length) : (balP g a b).getD k 0 = inP g a b k - outP g a b k := by simp [balP, List.getD, hk]
theorem balL_len (g : List (List Int)) : (balL g).length = g.length := by simp [balL]
theorem balL_at (g : List (List Int)) (k : Nat) (hk : k < g.length) : (balL g).getD k 0 = sumN (fun x => cellOf g x k) g.length - sumN (cellOf g k) g.length := by simp [balL, List.getD, hk]

theorem list_ext0 {xs ys : List Int} (hl : xs.length = ys.length) (h : ∀ k, k < xs.length → xs.getD k 0 = ys.getD k 0) : xs = ys := by
  refine List.ext_getElem hl fun k h1 h2 => ?_
  have := h k h1
  simpa [List.getD, h1, h2] using this

theorem getD_set_int (xs : List Int) (i k : Nat) (x : Int) (hk : k < xs.length) : (xs.set i x).getD k 0 = if k = i then x else xs.getD k 0 := by
  by_cases e : k = i
  · subst e; rw [if_pos rfl]; simp [List.getD, hk]
  · rw [if_neg e]
    have e' : ¬ i = k := fun h => e h.symm
    simp [List.getD, e']

theorem balP_zero (g : List (List Int)) : balP g 0 0 = List.replicate g.length 0 := by
  refine list_ext0 (by simp [balP]) fun k hk => ?_
  rw [balP_len] at hk
  rw [balP_at g 0 0 k hk]
  have : (List.replicate g.length (0 : Int)).getD k 0 = 0 := by simp [List.getD, hk]
  rw [this]
  unfold inP outP
  by_cases h : k = 0
  · subst h; simp [sumN]
  · simp [sumN, h]

theorem balP_row (g : List (List Int)) (a : Nat) : balP g a g.length = balP g (a + 1) 0 := by
  refine list_ext0 (by simp [balP]) fun k hk => ?_
  rw [balP_len] at hk
  rw [balP_at g _ _ k hk, balP_at g _ _ k hk]
  unfold inP outP
  have e : sumN (fun x => cellOf g x k) (a + 1) = sumN (fun x => cellOf g x k) a + cellOf g a k := rfl
  rw [if_pos hk, if_neg (Nat.not_lt_zero k), e]
  by_cases h1 : k < a
  · rw [if_pos h1, if_pos (show k < a + 1 by omega)]; omega
  · by_cases h2 : k = a
    · subst h2
      rw [if_neg h1, if_pos rfl, if_pos (show k < k + 1 by omega)]; omega
    · rw [if_neg h1, if_neg h2, if_neg (show ¬ k < a + 1 by omega)]
      by_cases h3 : k = a + 1
      · subst h3
        rw [if_pos rfl]
        simp [sumN]
      · rw [if_neg h3]; omega

theorem balP_full (g : List (List Int)) : balP g g.length 0 = balL g := by
  refine list_ext0 (by simp [balP, balL]) fun k hk => ?_
  rw [balP_len] at hk
  rw [balP_at g _ _ k hk, balL_at g k hk]
  unfold inP outP
  rw [if_neg (Nat.not_lt_zero k), if_pos hk]
  omega

theorem balP_step (g : List (List Int)) (a b : Nat) (ha : a < g.length) (hb : b < g.length) :
    ((balP g a b).set a ((balP g a b).getD a 0 - cellOf g a b)).set b (((balP g a b).set a ((balP g a b).getD a 0 - cellOf g a b)).getD b 0 + cellOf g a b) = balP g a (b + 1) := by
  refine list_ext0 (by simp [balP]) fun k hk => ?_
  have hk' : k < g.length := by simpa [balP] using hk
  have hl1 : k < ((balP g a b).set a ((balP g a b).getD a 0 - cellOf g a b)).length := by simpa using hk
  rw [getD_set_int _ b k _ hl1, getD_set_int _ a b _ (by rw [balP_len]; exact hb), getD_set_int _ a k _ (by rw [balP_len]; exact hk'), balP_at g a b a ha, balP_at g a b b hb, balP_at g a b k hk', balP_at g a (b + 1) k hk']
  have hi : inP g a (b + 1) k = inP g a b k + if k = b then cellOf g a b else 0 := by
    unfold inP
    by_cases h : k = b
    · subst h
      rw [if_pos (by omega), if_neg (by omega), if_pos rfl]; omega
    · rw [if_neg h]
      by_cases h2 : k < b
      · rw [if_pos h2, if_pos (by omega)]; omega
      · rw [if_neg h2, if_neg (by omega)]; omega
  have ho : outP g a (b + 1) k = outP g a b k + if k = a then cellOf g a b else 0 := by
    unfold outP
    by_cases h : k = a
    · subst h
      rw [if_neg (by omega), if_pos rfl, if_neg (by omega), if_pos rfl, if_pos rfl, sumN]
    · rw [if_neg h, if_neg h, if_neg h]; split <;> omega
  rw [hi, ho]
  by_cases h1 : k = b
  · subst h1
    rw [if_pos rfl, if_pos rfl]
    by_cases h2 : k = a
    · subst h2; rw [if_pos rfl, if_pos rfl]; omega
    · rw [if_neg h2, if_neg h2]; omega
  · rw [if_neg h1, if_neg h1]
    by_cases h2 : k = a
    · subst h2; rw [if_pos rfl, if_pos rfl]; omega
    · rw [if_neg h2, if_neg h2]; omega

theorem balP_bounds {g : List (List Int)} (h : vDebts g = true) {a b : Nat} (ha : a < g.length) (hb : b ≤ g.length) {k : Nat} (hk : k < g.length) : -1000 ≤ (balP g a b).getD k 0 ∧ (balP g a b).getD k 0 ≤ 1000 := by
  obtain ⟨h1, h2⟩ := (vDebts_iff g).1 h
  rw [balP_at g a b k hk]
  have s1 := sumN_bounds (fun x => cellOf g x k) 50 a (fun i hi => (h2 i (by omega)).2.2 k hk)
  have s2 := sumN_bounds (cellOf g k) 50 g.length (fun i hi => (h2 k hk).2.2 i hi)
  have s3 := sumN_bounds (cellOf g k) 50 b (fun i hi => (h2 k hk).2.2 i (by omega))
  have s4 := (h2 a ha).2.2 k hk
  have i1 : 0 ≤ inP g a b k ∧ inP g a b k ≤ 400 := by unfold inP; split <;> omega
  have i2 : 0 ≤ outP g a b k ∧ outP g a b k ≤ 400 := by
    unfold outP
    split
    · omega
    · split <;> omega
  omega

end Go.Proofs.Ytbedjebnllimpaa
