/- What the promises of taxes say, in plain mathematics. -/
import Derived.Test.YtmeejaafbbabaaaTaxJ
namespace Go.Proofs.Ytmeejaafbbabaaa
open Go.RowKit

theorem frm_take {st : List (Int × Int)} {n i : Nat} (hi : i < n) : frm (st.take n) i = frm st i := by
  unfold frm
  rw [List.getD_eq_getElem?_getD, List.getD_eq_getElem?_getD, List.getElem?_take, if_pos hi]
theorem rat_take {st : List (Int × Int)} {n i : Nat} (hi : i < n) : rat (st.take n) i = rat st i := by
  unfold rat
  rw [List.getD_eq_getElem?_getD, List.getD_eq_getElem?_getD, List.getElem?_take, if_pos hi]

theorem Steps.take {st : List (Int × Int)} (h : Steps st) (n : Nat) (h1 : 1 ≤ n) (hn : n ≤ st.length) : Steps (st.take n) := by
  have hl : (st.take n).length = n := by simp; omega
  have h5 := h.len5
  refine ⟨by omega, by omega, by rw [frm_take (by omega)]; exact h.zero, fun i hi => ?_, fun i hi => ?_, fun i hi => ?_⟩
  · rw [hl] at hi; rw [frm_take hi]; exact h.fr i (by omega)
  · rw [hl] at hi; rw [rat_take hi]; exact h.rt i (by omega)
  · rw [hl] at hi; rw [frm_take (by omega), frm_take hi]; exact h.up i (by omega)

theorem IsSteps.take {w : World} {a : Option Addr} {m cap : Nat} {st : List (Int × Int)} (h : IsSteps w (.slice a m cap) st) (n : Nat) (hn : n ≤ st.length) : IsSteps w (.slice a n cap) (st.take n) := by
  obtain ⟨a', cap', e, hc⟩ := h
  simp only [Value.slice.injEq] at e
  obtain ⟨rfl, _, rfl⟩ := e
  have hl : (st.take n).length = n := by simp; omega
  refine ⟨a, cap, by rw [hl], fun j hj => ?_⟩
  rw [hl] at hj
  rw [frm_take hj, rat_take hj]
  exact hc j (by omega)

theorem Steps.rates_le {st : List (Int × Int)} (h : Steps st) (hu : upB st = true) {x y : Int} (hx : 0 ≤ x) (hxy : x ≤ y) : rateT st x ≤ rateT st y := by
  have hup : ∀ i, i < st.length → 0 < i → rat st (i - 1) ≤ rat st i := by
    unfold upB at hu
    rw [List.all_eq_true] at hu
    intro i hi h0
    have := hu i (List.mem_range.2 hi)
    simp at this
    omega
  have hmono : ∀ j i, i ≤ j → j < st.length → rat st i ≤ rat st j := by
    intro j
    induction j with
    | zero => intro i hi _; rw [show i = 0 by omega]; exact Int.le_refl _
    | succ j ih =>
      intro i hi hj
      by_cases e : i = j + 1
      · rw [e]; exact Int.le_refl _
      · have h1 := ih i (by omega) (by omega)
        have h2 := hup (j + 1) hj (by omega)
        simp at h2
        omega
  have a1 := h.atX_lt x
  have b1 := h.atX_lt y
  have a2 := h.atX_at hx
  refine hmono _ _ ?_ b1
  rcases Nat.lt_or_ge (atX st y) (atX st x) with e | e
  · have := Steps.atX_over e a1; omega
  · exact e

/-- By rising rates the tax of n more is at least n times the rate. -/
theorem Steps.tax_above {st : List (Int × Int)} (h : Steps st) (hu : upB st = true) {m : Int} (hm : 0 ≤ m) (n : Nat) : taxT st m + n * rateT st m ≤ taxT st (m + n) := by
  induction n with
  | zero => simp
  | succ n ih =>
    have h1 := h.tax_succ (show 0 ≤ m + (n : Int) by omega)
    have h2 := h.rates_le hu hm (show m ≤ m + (n : Int) by omega)
    have e : m + ((n + 1 : Nat) : Int) = m + (n : Int) + 1 := by omega
    rw [e, h1, show ((n + 1 : Nat) : Int) * rateT st m = (n : Int) * rateT st m + rateT st m by rw [Int.natCast_add, Int.add_mul]; simp]
    omega

theorem Steps.tax_below {st : List (Int × Int)} (h : Steps st) (hu : upB st = true) {a : Int} (ha : 0 ≤ a) (n : Nat) : taxT st (a + n) ≤ taxT st a + n * rateT st (a + n) := by
  induction n with
  | zero => simp
  | succ n ih =>
    have h1 := h.tax_succ (show 0 ≤ a + (n : Int) by omega)
    have h2 := h.rates_le hu (show 0 ≤ a + (n : Int) by omega) (show a + (n : Int) ≤ a + ((n + 1 : Nat) : Int) by omega)
    have e : a + ((n + 1 : Nat) : Int) = a + (n : Int) + 1 := by omega
    rw [e] at h2 ⊢
    have h3 : (n : Int) * rateT st (a + n) ≤ n * rateT st (a + n + 1) := Int.mul_le_mul_of_nonneg_left h2 (by omega)
    rw [h1, show ((n + 1 : Nat) : Int) * rateT st (a + n + 1) = (n : Int) * rateT st (a + n + 1) + rateT st (a + n + 1) by rw [Int.natCast_add, Int.add_mul]; simp]
    omega

theorem Steps.pair_le {st : List (Int × Int)} (h : Steps st) (hu : upB st = true) {a b : Int} (ha : 0 ≤ a) (hab : a ≤ b) : 2 * taxT st ((a + b) / 2) ≤ taxT st a + taxT st b := by
  have h1 := h.tax_above hu (show 0 ≤ (a + b) / 2 by omega) (b - (a + b) / 2).toNat
  have h2 := h.tax_below hu ha ((a + b) / 2 - a).toNat
  rw [show (((b - (a + b) / 2).toNat : Nat) : Int) = b - (a + b) / 2 by omega, show (a + b) / 2 + (b - (a + b) / 2) = b by omega] at h1
  rw [show ((((a + b) / 2 - a).toNat : Nat) : Int) = (a + b) / 2 - a by omega, show a + ((a + b) / 2 - a) = (a + b) / 2 by omega] at h2
  have h3 : ((a + b) / 2 - a) * rateT st ((a + b) / 2) ≤ (b - (a + b) / 2) * rateT st ((a + b) / 2) := Int.mul_le_mul_of_nonneg_right (by omega) (h.rate_bounds _).1
  omega

theorem Steps.pair_le' {st : List (Int × Int)} (h : Steps st) (hu : upB st = true) {a b : Int} (ha : 0 ≤ a) (hb : 0 ≤ b) : 2 * taxT st ((a + b) / 2) ≤ taxT st a + taxT st b := by
  rcases Int.le_total a b with e | e
  · exact h.pair_le hu ha e
  · have := h.pair_le hu hb e
    rw [Int.add_comm b a] at this
    omega

theorem canT_iff {st : List (Int × Int)} {x : Int} : canT st x = true ↔ vSteps st = true ∧ 0 ≤ x ∧ x ≤ 2000 := by
  simp [canT, inR]

theorem rate_zero {st : List (Int × Int)} (h : Steps st) : rateT st 0 = rat st 0 := by
  have h1 := h.atX_lt 0
  have h2 := h.atX_at (Int.le_refl 0)
  have : atX st 0 = 0 := by
    rcases Nat.eq_zero_or_pos (atX st 0) with e | e
    · exact e
    · have := h.lt e h1; rw [h.zero] at this; omega
  unfold rateT
  rw [this]

end Go.Proofs.Ytmeejaafbbabaaa
