/- Taxes in steps: the plain mathematics. -/
import Derived.Test.YtmeejaafbbabaaaSteps
namespace Go.Proofs.Ytmeejaafbbabaaa

/-- Step i may stand where it stands. -/
def okAt (st : List (Int × Int)) (i : Nat) : Bool := okStep (frm st i) (rat st i) && (decide (i = 0) || decide (frm st (i - 1) < frm st i))
/-- The steps of a tax. -/
def vSteps (st : List (Int × Int)) : Bool := inR st.length 1 5 && decide (frm st 0 = 0) && (List.range st.length).all (okAt st)

structure Steps (st : List (Int × Int)) : Prop where
  len1 : 1 ≤ st.length
  len5 : st.length ≤ 5
  zero : frm st 0 = 0
  fr : ∀ i, i < st.length → 0 ≤ frm st i ∧ frm st i ≤ 2000
  rt : ∀ i, i < st.length → 0 ≤ rat st i ∧ rat st i ≤ 100
  up : ∀ i, i + 1 < st.length → frm st i < frm st (i + 1)

theorem vSteps_no {st : List (Int × Int)} {i : Nat} (hi : i < st.length) (h : okAt st i = false) : vSteps st = false := by
  unfold vSteps
  have : (List.range st.length).all (okAt st) = false := by
    rw [List.all_eq_false]
    exact ⟨i, List.mem_range.2 hi, by simp [h]⟩
  rw [this, Bool.and_false]

theorem vSteps_yes {st : List (Int × Int)} (h1 : inR st.length 1 5 = true) (h2 : frm st 0 = 0) (h : ∀ i, i < st.length → okAt st i = true) : vSteps st = true := by
  unfold vSteps
  rw [h1, decide_eq_true h2, Bool.true_and, Bool.true_and, List.all_eq_true]
  intro i hi
  exact h i (List.mem_range.1 hi)

theorem okAt_iff {st : List (Int × Int)} {i : Nat} : okAt st i = true ↔ ((0 ≤ frm st i ∧ frm st i ≤ 2000) ∧ (0 ≤ rat st i ∧ rat st i ≤ 100)) ∧ (i = 0 ∨ frm st (i - 1) < frm st i) := by
  simp [okAt, okStep, inR]

theorem vSteps_iff {st : List (Int × Int)} : vSteps st = true ↔ Steps st := by
  constructor
  · intro h
    have h' : (inR st.length 1 5 = true ∧ frm st 0 = 0) ∧ ∀ i, i < st.length → okAt st i = true := by simpa [vSteps] using h
    obtain ⟨⟨h1, h2⟩, h3⟩ := h'
    have h1 := inR_true h1
    refine ⟨by omega, by omega, h2, fun i hi => (okAt_iff.1 (h3 i hi)).1.1, fun i hi => (okAt_iff.1 (h3 i hi)).1.2, fun i hi => ?_⟩
    rcases (okAt_iff.1 (h3 (i + 1) hi)).2 with h | h
    · omega
    · exact h
  · intro h
    refine vSteps_yes (by unfold inR; have := h.len1; have := h.len5; rw [decide_eq_true_iff]; omega) h.zero (fun i hi => okAt_iff.2 ⟨⟨h.fr i hi, h.rt i hi⟩, ?_⟩)
    by_cases h0 : i = 0
    · exact .inl h0
    · refine .inr ?_
      have := h.up (i - 1) (by omega)
      rwa [show i - 1 + 1 = i by omega] at this

theorem Steps.lt {st : List (Int × Int)} (h : Steps st) {i j : Nat} (hij : i < j) (hj : j < st.length) : frm st i < frm st j := by
  induction j with
  | zero => omega
  | succ j ih =>
    have h1 := h.up j hj
    by_cases e : i = j
    · subst e; exact h1
    · have := ih (by omega) (by omega)
      omega

theorem Steps.le {st : List (Int × Int)} (h : Steps st) {i j : Nat} (hij : i ≤ j) (hj : j < st.length) : frm st i ≤ frm st j := by
  by_cases e : i = j
  · subst e; exact Int.le_refl _
  · have := h.lt (show i < j by omega) hj
    omega

/-- The last one of the first n steps of which From is at most x, 0 if there is none. -/
def atI (st : List (Int × Int)) (x : Int) : Nat → Nat
  | 0 => 0
  | n + 1 => if frm st n ≤ x then n else atI st x n
def atX (st : List (Int × Int)) (x : Int) : Nat := atI st x st.length

theorem atI_lt (st : List (Int × Int)) (x : Int) (n : Nat) (hn : 1 ≤ n) : atI st x n < n := by
  induction n with
  | zero => omega
  | succ n ih =>
    unfold atI
    split
    · omega
    · by_cases e : n = 0
      · subst e; simp [atI]
      · have := ih (by omega); omega

theorem atI_over {st : List (Int × Int)} {x : Int} {n j : Nat} (h1 : atI st x n < j) (h2 : j < n) : x < frm st j := by
  induction n with
  | zero => omega
  | succ n ih =>
    unfold atI at h1
    split at h1
    · omega
    · by_cases e : j = n
      · subst e; omega
      · exact ih h1 (by omega)

theorem atI_at {st : List (Int × Int)} {x : Int} (h0 : frm st 0 ≤ x) (n : Nat) : frm st (atI st x n) ≤ x := by
  induction n with
  | zero => exact h0
  | succ n ih =>
    unfold atI
    split
    · assumption
    · exact ih

theorem Steps.atX_lt {st : List (Int × Int)} (h : Steps st) (x : Int) : atX st x < st.length := atI_lt st x _ h.len1
theorem Steps.atX_at {st : List (Int × Int)} (h : Steps st) {x : Int} (hx : 0 ≤ x) : frm st (atX st x) ≤ x := atI_at (by rw [h.zero]; exact hx) _
theorem Steps.atX_over {st : List (Int × Int)} {x : Int} {j : Nat} (h1 : atX st x < j) (h2 : j < st.length) : x < frm st j := atI_over h1 h2
theorem Steps.atX_eq {st : List (Int × Int)} (h : Steps st) {x : Int} (hx : 0 ≤ x) {k : Nat} (hk : k < st.length) (h1 : frm st k ≤ x) (h2 : ∀ j, k < j → j < st.length → x < frm st j) : atX st x = k := by
  have a := h.atX_lt x
  have b := h.atX_at hx
  rcases Nat.lt_trichotomy (atX st x) k with e | e | e
  · have := Steps.atX_over e hk; omega
  · exact e
  · have := h2 _ e a; omega

/-- A hundred times the tax of all that is below the From of step k. -/
def full (st : List (Int × Int)) : Nat → Int
  | 0 => 0
  | k + 1 => full st k + (frm st (k + 1) - frm st k) * rat st k
def taxT (st : List (Int × Int)) (x : Int) : Int := full st (atX st x) + (x - frm st (atX st x)) * rat st (atX st x)
def rateT (st : List (Int × Int)) (x : Int) : Int := rat st (atX st x)
def netT (st : List (Int × Int)) (x : Int) : Int := x - taxT st x / 100

theorem mul_bounds {a r : Int} (ha : 0 ≤ a) (hr : 0 ≤ r ∧ r ≤ 100) : 0 ≤ a * r ∧ a * r ≤ 100 * a := by
  refine ⟨Int.mul_nonneg ha hr.1, ?_⟩
  have := Int.mul_le_mul_of_nonneg_left hr.2 ha
  omega

theorem Steps.full_bounds {st : List (Int × Int)} (h : Steps st) (k : Nat) (hk : k < st.length) : 0 ≤ full st k ∧ full st k ≤ 100 * frm st k := by
  induction k with
  | zero => simp [full, h.zero]
  | succ k ih =>
    have h1 := ih (by omega)
    have h2 := h.up k hk
    have h3 := mul_bounds (a := frm st (k + 1) - frm st k) (by omega) (h.rt k (by omega))
    unfold full
    omega

theorem Steps.tax_bounds {st : List (Int × Int)} (h : Steps st) {x : Int} (hx : 0 ≤ x) : 0 ≤ taxT st x ∧ taxT st x ≤ 100 * x := by
  have h1 := h.full_bounds _ (h.atX_lt x)
  have h2 := h.atX_at hx
  have h3 := mul_bounds (a := x - frm st (atX st x)) (by omega) (h.rt _ (h.atX_lt x))
  unfold taxT
  omega

theorem Steps.tax_succ {st : List (Int × Int)} (h : Steps st) {x : Int} (hx : 0 ≤ x) : taxT st (x + 1) = taxT st x + rateT st x := by
  have a1 := h.atX_lt x
  have a2 := h.atX_at hx
  have b1 := h.atX_lt (x + 1)
  have b2 := h.atX_at (show 0 ≤ x + 1 by omega)
  rcases Nat.lt_trichotomy (atX st (x + 1)) (atX st x) with e | e | e
  · have := Steps.atX_over e a1; omega
  · unfold taxT rateT
    rw [e, show x + 1 - frm st (atX st x) = (x - frm st (atX st x)) + 1 by omega, Int.add_mul, Int.one_mul]
    omega
  · have c1 := Steps.atX_over (show atX st x < atX st x + 1 by omega) (show atX st x + 1 < st.length by omega)
    have c2 := h.le (show atX st x + 1 ≤ atX st (x + 1) by omega) b1
    have c3 : atX st (x + 1) = atX st x + 1 := by
      by_cases e2 : atX st (x + 1) = atX st x + 1
      · exact e2
      · have := h.lt (show atX st x + 1 < atX st (x + 1) by omega) b1; omega
    rw [c3] at b2
    have c4 : frm st (atX st x + 1) = x + 1 := by omega
    unfold taxT rateT
    rw [c3, c4, full, c4, show x + 1 - frm st (atX st x) = (x - frm st (atX st x)) + 1 by omega, Int.add_mul, Int.one_mul]
    simp
    omega

theorem Steps.tax_zero {st : List (Int × Int)} (h : Steps st) : taxT st 0 = 0 := by
  have := h.tax_bounds (Int.le_refl 0); omega

/-- What the model adds up, behind the first i steps. -/
def part (st : List (Int × Int)) (x : Int) : Nat → Int
  | 0 => 0
  | i + 1 => part st x i + max ((if i + 1 < st.length then min x (frm st (i + 1)) else x) - frm st i) 0 * rat st i

theorem Steps.part_low {st : List (Int × Int)} (h : Steps st) {x : Int} (hx : 0 ≤ x) (i : Nat) (hi : i ≤ atX st x) : part st x i = full st i := by
  have a1 := h.atX_lt x
  have a2 := h.atX_at hx
  induction i with
  | zero => rfl
  | succ i ih =>
    have h1 := h.le hi a1
    have h2 := h.up i (by omega)
    unfold part full
    rw [ih (by omega), if_pos (by omega), show min x (frm st (i + 1)) = frm st (i + 1) by omega, show max (frm st (i + 1) - frm st i) 0 = frm st (i + 1) - frm st i by omega]

theorem Steps.part_high {st : List (Int × Int)} (h : Steps st) {x : Int} (hx : 0 ≤ x) (i : Nat) (hi : atX st x < i) (hl : i ≤ st.length) : part st x i = taxT st x := by
  have a1 := h.atX_lt x
  have a2 := h.atX_at hx
  induction i with
  | zero => omega
  | succ i ih =>
    by_cases e : i = atX st x
    · subst e
      unfold part taxT
      rw [h.part_low hx _ (Nat.le_refl _)]
      by_cases e2 : atX st x + 1 < st.length
      · have := Steps.atX_over (show atX st x < atX st x + 1 by omega) e2
        rw [if_pos e2, show min x (frm st (atX st x + 1)) = x by omega, show max (x - frm st (atX st x)) 0 = x - frm st (atX st x) by omega]
      · rw [if_neg e2, show max (x - frm st (atX st x)) 0 = x - frm st (atX st x) by omega]
    · have h1 := ih (by omega) (by omega)
      have h2 := Steps.atX_over (show atX st x < i by omega) (show i < st.length by omega)
      unfold part
      rw [h1]
      have : max ((if i + 1 < st.length then min x (frm st (i + 1)) else x) - frm st i) 0 = 0 := by split <;> omega
      rw [this]
      omega

theorem Steps.part_all {st : List (Int × Int)} (h : Steps st) {x : Int} (hx : 0 ≤ x) : part st x st.length = taxT st x := h.part_high hx _ (h.atX_lt x) (Nat.le_refl _)

/-- The model's rate, behind the first steps. -/
def rateI (st : List (Int × Int)) (x : Int) : Nat → Int
  | 0 => 0
  | n + 1 => if frm st n ≤ x then rat st n else rateI st x n

theorem Steps.rateI_eq {st : List (Int × Int)} (h : Steps st) {x : Int} (hx : 0 ≤ x) (n : Nat) (hn : 1 ≤ n) : rateI st x n = rat st (atI st x n) := by
  induction n with
  | zero => omega
  | succ n ih =>
    unfold rateI atI
    split
    · rfl
    · next hf =>
      by_cases e : n = 0
      · subst e; rw [h.zero] at hf; omega
      · exact ih (by omega)

theorem Steps.rateI_all {st : List (Int × Int)} (h : Steps st) {x : Int} (hx : 0 ≤ x) : rateI st x st.length = rateT st x := h.rateI_eq hx _ h.len1

theorem Steps.rate_bounds {st : List (Int × Int)} (h : Steps st) (x : Int) : 0 ≤ rateT st x ∧ rateT st x ≤ 100 := h.rt _ (h.atX_lt x)

theorem Steps.net_bounds {st : List (Int × Int)} (h : Steps st) {x : Int} (hx : 0 ≤ x) : 0 ≤ netT st x ∧ netT st x ≤ x := by
  have := h.tax_bounds hx
  unfold netT
  omega

theorem Steps.net_succ {st : List (Int × Int)} (h : Steps st) {x : Int} (hx : 0 ≤ x) : netT st (x + 1) = netT st x ∨ netT st (x + 1) = netT st x + 1 := by
  have h1 := h.tax_succ hx
  have h2 := h.rate_bounds x
  have h3 := h.tax_bounds hx
  unfold netT
  rw [h1]
  omega

end Go.Proofs.Ytmeejaafbbabaaa
