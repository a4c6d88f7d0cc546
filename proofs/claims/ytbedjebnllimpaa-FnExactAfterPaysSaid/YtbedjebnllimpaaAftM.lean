/- Balances behind payments: the recursion. -/
import Derived.Test.YtbedjebnllimpaaPlanM
import Derived.Test.YtbedjebnllimpaaPay
namespace Go.Proofs.Ytbedjebnllimpaa
open Go.RowKit

/-- May a payment be made by n friends? -/
def payOK (n : Nat) (f t a : Int) : Bool := inR f 0 (n - 1) && inR t 0 (n - 1) && !decide (f = t) && inR a 1 600
/-- The balances behind one payment. -/
def applyP (xs : List Int) (f t a : Int) : List Int :=
  (xs.set f.toNat (xs.getD f.toNat 0 + a)).set t.toNat ((xs.set f.toNat (xs.getD f.toNat 0 + a)).getD t.toNat 0 - a)

/-- The balances behind the payments from k on. -/
def afterF (st : List (Int × Int × Int)) : Nat → Nat → List Int → Option (List Int)
  | 0, _, xs => some xs
  | r + 1, k, xs => if payOK xs.length (pF st k) (pT st k) (pA st k) = true then afterF st r (k + 1) (applyP xs (pF st k) (pT st k) (pA st k)) else none

/-- Balances that are balances. -/
def okBal : Option (List Int) → Option (List Int)
  | some ys => if vBal ys = true then some ys else none
  | none => none

/-- What AfterPays answers. -/
def afterL (xs : List Int) (st : List (Int × Int × Int)) : Option (List Int) :=
  if vBal xs = true ∧ st.length ≤ 12 then okBal (afterF st st.length 0 xs) else none

theorem applyP_length (xs : List Int) (f t a : Int) : (applyP xs f t a).length = xs.length := by simp [applyP]

theorem payOK_iff {n : Nat} {f t a : Int} : payOK n f t a = true ↔ (0 ≤ f ∧ f ≤ (n : Int) - 1) ∧ (0 ≤ t ∧ t ≤ (n : Int) - 1) ∧ f ≠ t ∧ 1 ≤ a ∧ a ≤ 600 := by
  unfold payOK
  simp only [Bool.and_eq_true, Bool.not_eq_true', decide_eq_false_iff_not]
  constructor
  · rintro ⟨⟨⟨h1, h2⟩, h3⟩, h4⟩
    exact ⟨inR_true h1, inR_true h2, h3, inR_true h4⟩
  · rintro ⟨h1, h2, h3, h4⟩
    refine ⟨⟨⟨?_, ?_⟩, h3⟩, ?_⟩ <;> · unfold inR; exact decide_eq_true (by omega)

/-- Numbers not further from 0 than m. -/
def Within (m : Int) (xs : List Int) : Prop := ∀ x ∈ xs, -m ≤ x ∧ x ≤ m

theorem Within.set {m m' : Int} {xs : List Int} (h : Within m xs) (hm : m ≤ m') {i : Nat} {x : Int} (hx : -m' ≤ x ∧ x ≤ m') : Within m' (xs.set i x) := fun y hy => by
  rcases List.mem_or_eq_of_mem_set hy with hy | hy
  · have := h y hy; omega
  · subst hy; exact hx

theorem Within.getD {m : Int} {xs : List Int} (h : Within m xs) (h0 : 0 ≤ m) (i : Nat) : -m ≤ xs.getD i 0 ∧ xs.getD i 0 ≤ m := by
  by_cases hi : i < xs.length
  · exact h _ (getD_mem hi)
  · simp [List.getD, Nat.not_lt.1 hi]; omega

theorem Within.apply {m : Int} {xs : List Int} (h : Within m xs) (h0 : 0 ≤ m) {f t a : Int} (ha : 1 ≤ a ∧ a ≤ 600) : Within (m + 600) (applyP xs f t a) := by
  have h1 := h.getD h0 f.toNat
  have h2 := h.getD h0 t.toNat
  have s1 : Within (m + 600) (xs.set f.toNat (xs.getD f.toNat 0 + a)) := h.set (by omega) (by omega)
  refine s1.set (Int.le_refl _) ?_
  by_cases ht : t.toNat < xs.length
  · rw [getD_setI _ _ _ _ ht]
    split <;> omega
  · have : (xs.set f.toNat (xs.getD f.toNat 0 + a)).getD t.toNat 0 = 0 := by simp [List.getD, Nat.not_lt.1 ht]
    rw [this]; omega

theorem tot_apply {xs : List Int} {f t a : Int} (h : payOK xs.length f t a = true) : tot (applyP xs f t a) = tot xs := by
  obtain ⟨h1, h2, h3, h4⟩ := payOK_iff.1 h
  unfold applyP
  rw [tot_set _ _ _ (by rw [List.length_set]; omega), tot_set _ _ _ (by omega)]
  omega

theorem afterF_tot (st : List (Int × Int × Int)) : ∀ r k (xs ys : List Int), afterF st r k xs = some ys → tot ys = tot xs ∧ ys.length = xs.length
  | 0, _, xs, ys, h => by
    simp only [afterF, Option.some.injEq] at h
    subst h; exact ⟨rfl, rfl⟩
  | r + 1, k, xs, ys, h => by
    rw [afterF] at h
    by_cases e : payOK xs.length (pF st k) (pT st k) (pA st k) = true
    · rw [if_pos e] at h
      have := afterF_tot st r (k + 1) _ ys h
      rw [tot_apply e, applyP_length] at this
      exact this
    · rw [if_neg e] at h; cases h

end Go.Proofs.Ytbedjebnllimpaa
