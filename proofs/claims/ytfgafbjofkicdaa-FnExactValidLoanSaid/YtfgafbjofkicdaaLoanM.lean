/- Loans: interest, what is left and what is paid: the recursions and what holds of them. -/
import Derived.Test.YtfgafbjofkicdaaNum
namespace Go.Proofs.Ytfgafbjofkicdaa

/-- The interest of one time. -/
def intr (a p b : Int) : Int := (2 * a * p + b) / (2 * b)
/-- What is owed with interest. -/
def dueL (p b a : Int) : Int := a + intr a p b
/-- What is left behind one time. -/
def stepL (p b pay a : Int) : Int := dueL p b a - min (dueL p b a) pay
/-- What is left after t times. -/
def leftN (p b pay a : Int) : Nat → Int
  | 0 => a
  | t + 1 => stepL p b pay (leftN p b pay a t)

theorem intr_bounds {a p b : Int} (hb : 1 ≤ b) : 2 * b * intr a p b ≤ 2 * a * p + b ∧ 2 * a * p + b < 2 * b * intr a p b + 2 * b := by
  have h0 : 0 < 2 * b := by omega
  have h1 := Int.mul_ediv_add_emod (2 * a * p + b) (2 * b)
  have h2 := Int.emod_nonneg (2 * a * p + b) (show 2 * b ≠ 0 by omega)
  have h3 := Int.emod_lt_of_pos (2 * a * p + b) h0
  unfold intr
  omega

theorem intr_mono {a a' p b : Int} (hb : 1 ≤ b) (hp : 0 ≤ p) (h : a ≤ a') : intr a p b ≤ intr a' p b := by
  unfold intr
  refine Int.ediv_le_ediv (by omega) ?_
  have := Int.mul_le_mul_of_nonneg_right (show 2 * a ≤ 2 * a' by omega) hp
  omega

theorem intr_nonneg {a p b : Int} (hb : 1 ≤ b) (hp : 0 ≤ p) (ha : 0 ≤ a) : 0 ≤ intr a p b := by
  unfold intr
  have := Int.mul_nonneg (show 0 ≤ 2 * a by omega) hp
  exact Int.ediv_nonneg (by omega) (by omega)

theorem intr_le {a p b : Int} (hb : 1 ≤ b) (hp : p ≤ b) (ha : 0 ≤ a) : intr a p b ≤ a := by
  have h1 := (intr_bounds (a := a) (p := p) hb).1
  have h2 := Int.mul_le_mul_of_nonneg_left hp (show 0 ≤ 2 * a by omega)
  have h3 : 2 * b * intr a p b < 2 * b * (a + 1) := by
    have e : 2 * b * (a + 1) = 2 * a * b + 2 * b := by rw [Int.mul_add, Int.mul_one, Int.mul_assoc, Int.mul_assoc, Int.mul_comm b a]
    omega
  have h4 := Int.lt_of_mul_lt_mul_left h3 (by omega)
  omega

theorem intr_zero {p b : Int} (hb : 1 ≤ b) : intr 0 p b = 0 := by
  unfold intr
  rw [Int.mul_zero, Int.zero_mul, Int.zero_add]
  exact Int.ediv_eq_zero_of_lt (by omega) (by omega)

theorem intr_free {a b : Int} (hb : 1 ≤ b) : intr a 0 b = 0 := by
  unfold intr
  rw [Int.mul_zero, Int.zero_add]
  exact Int.ediv_eq_zero_of_lt (by omega) (by omega)

section
variable {p b pay : Int} (hb : 1 ≤ b) (hp : 0 ≤ p) (hpb : p ≤ b)

include hb hp in
theorem due_facts {a : Int} (ha : 0 ≤ a) : a ≤ dueL p b a := by
  have := intr_nonneg hb hp ha
  unfold dueL; omega

include hb hpb in
theorem due_le {a : Int} (ha : 0 ≤ a) : dueL p b a ≤ 2 * a := by
  have := intr_le hb hpb ha
  unfold dueL; omega

include hb hp in
theorem step_nonneg {a : Int} (ha : 0 ≤ a) : 0 ≤ stepL p b pay a := by
  have := due_facts hb hp ha
  unfold stepL; omega

include hb hp hpb in
theorem step_le {a : Int} (ha : 0 ≤ a) (hpay : 0 ≤ pay) : stepL p b pay a ≤ 2 * a := by
  have := due_le hb hpb ha
  have := due_facts hb hp ha
  unfold stepL; omega

include hb hp in
theorem left_nonneg {a : Int} (ha : 0 ≤ a) : ∀ t, 0 ≤ leftN p b pay a t
  | 0 => ha
  | t + 1 => step_nonneg hb hp (left_nonneg ha t)

include hb hp hpb in
theorem left_le {a : Int} (ha : 0 ≤ a) (hpay : 0 ≤ pay) : ∀ t, leftN p b pay a t ≤ 2 ^ t * a
  | 0 => by simp [leftN]
  | t + 1 => by
    have h1 := left_le ha hpay t
    have h2 := step_le hb hp hpb (left_nonneg (pay := pay) hb hp ha t) hpay
    rw [leftN, Int.pow_succ, Int.mul_comm (2 ^ t) 2, Int.mul_assoc]
    omega

include hb hp in
theorem step_mono {a a' : Int} (h : a ≤ a') {pay' : Int} (hpp : pay' ≤ pay) : stepL p b pay a ≤ stepL p b pay' a' := by
  have := intr_mono hb hp h
  unfold stepL dueL; omega

include hb hp in
theorem left_mono {a : Int} {pay' : Int} (hpp : pay' ≤ pay) : ∀ t, leftN p b pay a t ≤ leftN p b pay' a t
  | 0 => Int.le_refl _
  | t + 1 => step_mono hb hp (left_mono hpp t) hpp

include hb in
theorem left_zero (hpay : 0 ≤ pay) : ∀ t, leftN p b pay 0 t = 0
  | 0 => rfl
  | t + 1 => by
    rw [leftN, left_zero hpay t]
    have := intr_zero (p := p) hb
    unfold stepL dueL; omega

/-- Paid by enough at once, nothing is left. -/
theorem left_paid {a : Int} (hb : 1 ≤ b) (h : dueL p b a ≤ pay) (hpay : 0 ≤ pay) : ∀ t, leftN p b pay a (t + 1) = 0
  | 0 => by
    rw [leftN, leftN]
    unfold stepL; omega
  | t + 1 => by
    rw [leftN, left_paid hb h hpay t]
    have := intr_zero (p := p) hb
    unfold stepL dueL; omega

include hb hp in
/-- Where nothing is paid no less is left. -/
theorem left_grow {a : Int} (ha : 0 ≤ a) : ∀ t, a ≤ leftN p b 0 a t
  | 0 => Int.le_refl _
  | t + 1 => by
    have h1 := left_grow ha t
    have h2 := due_facts hb hp (left_nonneg (pay := 0) hb hp ha t)
    rw [leftN]
    unfold stepL; omega

end

/-- What is paid in the time t. -/
def paidN (p b pay a : Int) (t : Nat) : Int := min (dueL p b (leftN p b pay a t)) pay

theorem paid_left (p b pay a : Int) (t : Nat) : paidN p b pay a t + leftN p b pay a (t + 1) = leftN p b pay a t + intr (leftN p b pay a t) p b := by
  rw [leftN]
  unfold paidN stepL dueL; omega

/-- The least pay from x on that pays back, f tried. -/
def leastF (p b a : Int) (T : Nat) : Nat → Int → Int
  | 0, x => x
  | f + 1, x => if 0 < leftN p b x a T then leastF p b a T f (x + 1) else x

theorem leastF_spec (p b a : Int) (T : Nat) : ∀ (f : Nat) (x : Int), (∃ y : Int, x ≤ y ∧ y < x + f ∧ ¬ 0 < leftN p b y a T) → ¬ 0 < leftN p b (leastF p b a T f x) a T ∧ x ≤ leastF p b a T f x ∧ ∀ y, x ≤ y → y < leastF p b a T f x → 0 < leftN p b y a T
  | 0, x, h => by obtain ⟨y, h1, h2, _⟩ := h; omega
  | f + 1, x, h => by
    rw [leastF]
    by_cases e : 0 < leftN p b x a T
    · rw [if_pos e]
      obtain ⟨y, h1, h2, h3⟩ := h
      have hne : y ≠ x := fun e2 => h3 (e2 ▸ e)
      obtain ⟨i1, i2, i3⟩ := leastF_spec p b a T f (x + 1) ⟨y, by omega, by omega, h3⟩
      refine ⟨i1, by omega, fun z hz1 hz2 => ?_⟩
      by_cases e2 : z = x
      · subst e2; exact e
      · exact i3 z (by omega) hz2
    · rw [if_neg e]
      exact ⟨e, Int.le_refl _, fun y h1 h2 => by omega⟩

end Go.Proofs.Ytfgafbjofkicdaa
