/- Powers, worth, doubling, equal payments: the recursions and what holds of them. -/
import Derived.Test.YtfgafbjofkicdaaNum
import Derived.Test.YtfgafbjofkicdaaSumN
namespace Go.Proofs.Ytfgafbjofkicdaa

theorem pow_bounds {x : Int} (h0 : 0 ≤ x) (h : x ≤ 20) : ∀ n : Nat, 0 ≤ x ^ n ∧ x ^ n ≤ 20 ^ n
  | 0 => by simp
  | n + 1 => by
    obtain ⟨h1, h2⟩ := pow_bounds h0 h n
    rw [Int.pow_succ, Int.pow_succ]
    exact ⟨Int.mul_nonneg h1 h0, Int.mul_le_mul h2 h h0 (by omega)⟩

theorem pow20 : ∀ n : Nat, n ≤ 12 → (20 : Int) ^ n ≤ 4096000000000000
  | 0, _ => by decide
  | 1, _ => by decide
  | 2, _ => by decide
  | 3, _ => by decide
  | 4, _ => by decide
  | 5, _ => by decide
  | 6, _ => by decide
  | 7, _ => by decide
  | 8, _ => by decide
  | 9, _ => by decide
  | 10, _ => by decide
  | 11, _ => by decide
  | 12, _ => by decide
  | n + 13, h => by omega

/-- One payment's part of the worth of n. -/
def wAt (list : List Int) (b q : Int) (n t : Nat) : Int := list.getD t 0 * b ^ (t + 1) * q ^ (n - t - 1)
/-- What the first payments are worth, times the power. -/
def wSum (list : List Int) (b q : Int) (n : Nat) : Nat → Int
  | 0 => 0
  | t + 1 => wSum list b q n t + wAt list b q n t
def worthI (list : List Int) (p b : Int) : Int := wSum list b (b + p) list.length list.length

theorem wSum_cons (x : Int) (xs : List Int) (b q : Int) (n : Nat) : ∀ t, wSum (x :: xs) b q (n + 1) (t + 1) = b * (x * q ^ n + wSum xs b q n t)
  | 0 => by
    simp only [wSum, wAt, List.getD_cons_zero, Nat.sub_zero, Nat.zero_add, Nat.add_sub_cancel, Int.zero_add, Int.add_zero, Int.pow_succ, Int.pow_zero, Int.one_mul]
    rw [Int.mul_comm x b, Int.mul_assoc]
  | t + 1 => by
    rw [wSum, wSum_cons x xs b q n t, wSum]
    have e : wAt (x :: xs) b q (n + 1) (t + 1) = b * wAt xs b q n t := by
      unfold wAt
      rw [List.getD_cons_succ, show n + 1 - (t + 1) - 1 = n - t - 1 by omega, Int.pow_succ b (t + 1)]
      rw [← Int.mul_assoc, ← Int.mul_assoc, Int.mul_comm (xs.getD t 0 * b ^ (t + 1)) b, ← Int.mul_assoc]
    rw [e, ← Int.mul_add]
    congr 1
    omega

theorem worth_cons (x : Int) (xs : List Int) (p b : Int) : worthI (x :: xs) p b = b * (x * (b + p) ^ xs.length + worthI xs p b) := by
  unfold worthI
  rw [List.length_cons, wSum_cons]

theorem wSum_free (list : List Int) (b : Int) (n : Nat) : ∀ t, t ≤ n → wSum list b b n t = sumT list t * b ^ n
  | 0, _ => by simp [wSum, sumT]
  | t + 1, h => by
    rw [wSum, wSum_free list b n t (by omega), sumT, Int.add_mul]
    congr 1
    unfold wAt
    rw [Int.mul_assoc, ← Int.pow_add, show t + 1 + (n - t - 1) = n by omega]

/-- The least power from k on by which an amount doubles, f tried. -/
def dblF (b q : Int) : Nat → Nat → Nat
  | 0, k => k
  | f + 1, k => if q ^ k < 2 * b ^ k then dblF b q f (k + 1) else k

theorem dblF_spec (b q : Int) : ∀ (f k : Nat), (∃ j, k ≤ j ∧ j < k + f ∧ ¬ q ^ j < 2 * b ^ j) → ¬ q ^ (dblF b q f k) < 2 * b ^ (dblF b q f k) ∧ k ≤ dblF b q f k ∧ dblF b q f k < k + f ∧ ∀ j, k ≤ j → j < dblF b q f k → q ^ j < 2 * b ^ j
  | 0, k, h => by obtain ⟨j, h1, h2, _⟩ := h; omega
  | f + 1, k, h => by
    rw [dblF]
    by_cases e : q ^ k < 2 * b ^ k
    · rw [if_pos e]
      obtain ⟨j, h1, h2, h3⟩ := h
      have hne : j ≠ k := fun e2 => h3 (e2 ▸ e)
      obtain ⟨i1, i2, i3, i4⟩ := dblF_spec b q f (k + 1) ⟨j, by omega, by omega, h3⟩
      refine ⟨i1, by omega, by omega, fun z hz1 hz2 => ?_⟩
      by_cases e2 : z = k
      · subst e2; exact e
      · exact i4 z (by omega) hz2
    · rw [if_neg e]
      exact ⟨e, Nat.le_refl _, by omega, fun j h1 h2 => by omega⟩

theorem dbl_ten_fin : ∀ b : Fin 10, ∀ p : Fin 10, ¬ (((b.val + 1 + (p.val + 1) : Nat) : Int) ^ 10 < 2 * ((b.val + 1 : Nat) : Int) ^ 10) := by decide +kernel
theorem dbl_ten {b p : Int} (hb : 1 ≤ b ∧ b ≤ 10) (hp : 1 ≤ p ∧ p ≤ 10) : ¬ ((b + p) ^ 10 < 2 * b ^ 10) := by
  have h := dbl_ten_fin ⟨(b - 1).toNat, by omega⟩ ⟨(p - 1).toNat, by omega⟩
  have e1 : (((b - 1).toNat + 1 + ((p - 1).toNat + 1) : Nat) : Int) = b + p := by omega
  have e2 : (((b - 1).toNat + 1 : Nat) : Int) = b := by omega
  rw [e1, e2] at h
  exact h

/-- The equal payments, what is missing in the last one. -/
def lastAt (a : Int) (n i : Nat) : Int := if i + 1 = n then a / n + a % n else a / n

theorem lastAt_sum (a : Int) (n : Nat) : ∀ t, t ≤ n → 0 < n → sumF (lastAt a n) t = a / n * t + if t = n then a % n else 0
  | 0, _, h => by
    rw [if_neg (by omega)]; simp [sumF]
  | t + 1, ht, h => by
    rw [sumF, lastAt_sum a n t (by omega) h, if_neg (show ¬ t = n by omega)]
    unfold lastAt
    rw [Int.natCast_add, Int.mul_add]
    by_cases e : t + 1 = n
    · rw [if_pos e, if_pos e]; omega
    · rw [if_neg e, if_neg e]; omega

end Go.Proofs.Ytfgafbjofkicdaa
