/- Circles of debts: the search. -/
import Derived.Test.YtbedjebnllimpaaDebtV
namespace Go.Proofs.Ytbedjebnllimpaa
open Go.RowKit

/-- Friends as ints. -/
def ti (hd : List Nat) : List Int := hd.map Int.ofNat
theorem ti_length (hd : List Nat) : (ti hd).length = hd.length := by simp [ti]
theorem ti_getD (hd : List Nat) (i : Nat) : (ti hd).getD i 0 = ((hd.getD i 0 : Nat) : Int) := by
  by_cases h : i < hd.length
  · simp [ti, List.getD, h]
  · simp [ti, List.getD, h]
theorem ti_snoc (hd : List Nat) (b : Nat) : ti (hd ++ [b]) = ti hd ++ [(b : Int)] := by simp [ti]

/-- May b come next behind the head? -/
def nextOK (g : List (List Int)) (hd : List Nat) (b : Nat) : Bool := !hd.contains b && decide (0 < cellOf g (hd.getD (hd.length - 1) 0) b)

/-- The first of two that is there. -/
def orC : Option (List Nat) → Option (List Nat) → Option (List Nat)
  | some t, _ => some t
  | none, y => y

/-- The first that is found from b on, r of them. -/
def scanC (g : List (List Int)) (hd : List Nat) (F : List Nat → Option (List Nat)) : Nat → Nat → Option (List Nat)
  | 0, _ => none
  | r + 1, b => if nextOK g hd b = true then orC (F (hd ++ [b])) (scanC g hd F r (b + 1)) else scanC g hd F r (b + 1)

/-- Does the head close a circle? -/
def closes (g : List (List Int)) (hd : List Nat) : Bool := decide (1 < hd.length) && decide (0 < cellOf g (hd.getD (hd.length - 1) 0) (hd.getD 0 0))

def circF (g : List (List Int)) : Nat → List Nat → Option (List Nat)
  | 0, _ => none
  | f + 1, hd => if closes g hd = true then some hd else scanC g hd (circF g f) (g.length - (hd.getD 0 0 + 1)) (hd.getD 0 0 + 1)

/-- How many friends are not in the head. -/
def freeN (hd : List Nat) : Nat → Nat
  | 0 => 0
  | i + 1 => freeN hd i + if hd.contains i = true then 0 else 1

theorem freeN_le (hd : List Nat) (b : Nat) : ∀ m, freeN (hd ++ [b]) m + (if b < m ∧ hd.contains b = false then 1 else 0) ≤ freeN hd m
  | 0 => by simp [freeN]
  | m + 1 => by
    have ih := freeN_le hd b m
    rw [freeN, freeN]
    have hc : (hd ++ [b]).contains m = (hd.contains m || decide (m = b)) := by
      simp
    rw [hc]
    by_cases e : m = b
    · subst e
      cases h : hd.contains m
      · simp at ih ⊢; omega
      · simp at ih ⊢; omega
    · have d : decide (m = b) = false := decide_eq_false e
      rw [d, Bool.or_false]
      generalize (if hd.contains m = true then 0 else 1) = y
      by_cases h2 : b < m ∧ hd.contains b = false
      · rw [if_pos h2] at ih
        rw [if_pos (show b < m + 1 ∧ hd.contains b = false from ⟨by omega, h2.2⟩)]; omega
      · rw [if_neg h2] at ih
        rw [if_neg (show ¬ (b < m + 1 ∧ hd.contains b = false) from fun h => h2 ⟨by omega, h.2⟩)]; omega

theorem scanC_pos {g : List (List Int)} {hd : List Nat} {F : List Nat → Option (List Nat)} (hF : ∀ b t, F (hd ++ [b]) = some t → 0 < t.length) : ∀ r b t, scanC g hd F r b = some t → 0 < t.length
  | 0, _, _, h => by cases h
  | r + 1, b, t, h => by
    rw [scanC] at h
    split at h
    · cases hf : F (hd ++ [b]) with
      | some t' =>
        rw [hf] at h
        simp only [orC, Option.some.injEq] at h
        subst h
        exact hF b t' hf
      | none =>
        rw [hf] at h
        exact scanC_pos hF r (b + 1) t h
    · exact scanC_pos hF r (b + 1) t h

theorem circF_pos {g : List (List Int)} : ∀ f hd t, 0 < hd.length → circF g f hd = some t → 0 < t.length
  | 0, _, _, _, h => by cases h
  | f + 1, hd, t, hp, h => by
    rw [circF] at h
    split at h
    · simp only [Option.some.injEq] at h
      subst h; exact hp
    · exact scanC_pos (fun b t ht => circF_pos f (hd ++ [b]) t (by simp) ht) _ _ _ h

end Go.Proofs.Ytbedjebnllimpaa
