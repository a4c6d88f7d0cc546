/- Gains: what stands in the midst of the search. -/
import Derived.Test.YtiffjeclpgcabaaRatT
namespace Go.Proofs.Ytiffjeclpgcabaa

/-- The best gain so far, in row a, ahead of column b: none ahead of the first circle. -/
def stG (W : Nat → Nat → Int × Int) (N a b : Nat) : Int × Int := if a = 0 ∧ b ≤ 1 then (0, 0) else gainRow W N a (gainUp W N (rProd (W 0 1) (W 1 0)) a) b

/-- What GainOf answers. -/
def gainW (g : List (List (Int × Int))) : (Int × Int) × Bool := if (vRates g && decide (2 ≤ g.length)) = true then (gainV (cellX g) g.length, true) else ((0, 0), false)

section
variable {W : Nat → Nat → Int × Int} {N : Nat}

theorem stG_next {a : Nat} (h2 : 2 ≤ N) : stG W N a N = stG W N (a + 1) 0 := by
  unfold stG
  rw [if_neg (by omega), if_neg (by omega)]
  rfl
theorem stG_same {a : Nat} : stG W N a (a + 1) = stG W N a a := by
  unfold stG
  by_cases h : a = 0
  · subst h; rfl
  · rw [if_neg (by omega), if_neg (by omega), gainRow, if_neg (fun h => h rfl)]
theorem stG_zero {a b : Nat} (h : a = 0 ∧ b ≤ 1) : stG W N a b = (0, 0) := by unfold stG; rw [if_pos h]
theorem stG_end (h2 : 2 ≤ N) : stG W N N 0 = gainV W N := by
  unfold stG gainV
  rw [if_neg (by omega)]
  rfl
theorem stG_first (hW : ∀ i j, i < N → j < N → rB (W i j) 20) (hN : N ≤ 4) (h2 : 2 ≤ N) : stG W N 0 2 = rProd (bestD W N 0 1) (W 1 0) := by
  unfold stG
  rw [if_neg (by omega), gainRow, if_pos (by decide), gainRow, if_neg (by decide)]
  exact gain_first hW hN h2
theorem stG_step {a b : Nat} (hab : a ≠ b) (h : ¬ (a = 0 ∧ b ≤ 1)) : stG W N a (b + 1) = rMax (stG W N a b) (rProd (bestD W N a b) (W b a)) := by
  unfold stG
  rw [if_neg (by omega), if_neg h, gainRow, if_pos hab]
theorem stG_bd (hW : ∀ i j, i < N → j < N → rB (W i j) 20) (h2 : 2 ≤ N) {a b : Nat} (ha : a < N) (hb : b ≤ N) (h : ¬ (a = 0 ∧ b ≤ 1)) : rB (stG W N a b) 160000 := by
  unfold stG
  rw [if_neg h]
  exact gainRow_bd hW ha (gainUp_bd hW (start_bd hW h2) a (by omega)) b hb

end

end Go.Proofs.Ytiffjeclpgcabaa
