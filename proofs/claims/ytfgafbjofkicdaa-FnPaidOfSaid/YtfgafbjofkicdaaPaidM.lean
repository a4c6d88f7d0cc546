/- What is paid together: the mathematics of the law FnPaidOf. -/
import Derived.Test.YtfgafbjofkicdaaLoanT
import Derived.Test.YtfgafbjofkicdaaSumN
namespace Go.Proofs.Ytfgafbjofkicdaa
open Go.RowKit

theorem paid_sum {P B pay A : Int} (hB : 1 ≤ B) (hP : 0 ≤ P) (hA : 0 ≤ A) : ∀ t, A ≤ sumF (fun i => paidN P B pay A i) t + leftN P B pay A t ∧ (P = 0 → sumF (fun i => paidN P B pay A i) t + leftN P B pay A t = A)
  | 0 => by
    have e : sumF (fun i => paidN P B pay A i) 0 + leftN P B pay A 0 = 0 + A := rfl
    rw [e]
    exact ⟨by omega, fun _ => by omega⟩
  | t + 1 => by
    obtain ⟨h1, h2⟩ := paid_sum (pay := pay) hB hP hA t
    have h3 := paid_left P B pay A t
    have h4 := intr_nonneg (p := P) hB hP (left_nonneg (pay := pay) hB hP hA t)
    rw [sumF]
    refine ⟨by omega, fun hp => ?_⟩
    have h5 := h2 hp
    have h6 : intr (leftN P B pay A t) P B = 0 := by subst hp; exact intr_free hB
    rw [h6] at h3
    omega

theorem paidL_sumT (A P B pay : Int) (m : Nat) : ∀ t, t ≤ m → sumT (paidL A P B pay m) t = sumF (fun i => paidN P B pay A i) t
  | 0, _ => rfl
  | t + 1, h => by rw [sumT, sumF, paidL_sumT A P B pay m t (by omega), paidL_at A P B pay m t (by omega)]

theorem paidL_tot (A P B pay : Int) (m : Nat) : tot (paidL A P B pay m) = sumF (fun i => paidN P B pay A i) m := by
  have h1 := sumT_tot (paidL A P B pay m) m (by rw [paidL_len]; exact Nat.le_refl _)
  rw [List.take_of_length_le (by rw [paidL_len]; exact Nat.le_refl _), paidL_sumT A P B pay m m (Nat.le_refl _)] at h1
  exact h1

/-- The three facts of the law. -/
theorem paid_facts {A P B pay : Int} {m : Nat} (hA : 0 ≤ A ∧ A ≤ 1000) (hB : 1 ≤ B ∧ B ≤ 10) (hP : 0 ≤ P ∧ P ≤ B) (hpay : 0 ≤ pay ∧ pay ≤ 2000) (hm : 1 ≤ m ∧ m ≤ 8) :
    A ≤ tot (paidL A P B pay m) + leftN P B pay A m ∧ (P = 0 → tot (paidL A P B pay m) + leftN P B pay A m = A) ∧ (¬ pay < leastF P B A m 2001 0 → leftN P B pay A m = 0) := by
  obtain ⟨hp0, hp1⟩ := hpay
  obtain ⟨h1, h2⟩ := paid_sum (pay := pay) hB.1 hP.1 hA.1 m
  rw [paidL_tot]
  refine ⟨h1, h2, fun h => ?_⟩
  have he := left_end hB.1 hP hA hm.1
  obtain ⟨i1, i2, i3⟩ := leastF_spec P B A m 2001 0 ⟨2000, by omega, by omega, by omega⟩
  have h4 := left_mono (p := P) (b := B) (a := A) hB.1 hP.1 (show leastF P B A m 2001 0 ≤ pay by omega) m
  have h5 := left_nonneg (pay := pay) hB.1 hP.1 hA.1 m
  omega

end Go.Proofs.Ytfgafbjofkicdaa
