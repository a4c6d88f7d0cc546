/- Sums, in the model. -/
import Derived.Test.YtbedjebnllimpaaNum
namespace Go.Proofs.Ytbedjebnllimpaa
open Go.RowKit

theorem tot_abs (xs : List Int) (m : Int) (hm : ∀ x ∈ xs, -m ≤ x ∧ x ≤ m) : -(m * xs.length) ≤ tot xs ∧ tot xs ≤ m * xs.length := by
  induction xs with
  | nil => simp [tot]
  | cons x xs ih =>
    have h1 := hm x (by simp)
    have h2 := ih (fun y hy => hm y (by simp [hy]))
    have e : tot (x :: xs) = x + tot xs := by simp [tot]
    rw [e, List.length_cons, Int.natCast_add, Int.mul_add]
    omega

theorem sumFits_abs (xs : List Int) (m : Int) (hm : ∀ x ∈ xs, -m ≤ x ∧ x ≤ m) (h0 : 0 ≤ m) (h : m * xs.length ≤ 9223372036854775807) : SumFits xs := by
  intro k
  have h1 := tot_abs (xs.take k) m (fun x hx => hm x (List.mem_of_mem_take hx))
  have h2 : ((xs.take k).length : Int) ≤ xs.length := by rw [List.length_take]; omega
  have h3 := Int.mul_le_mul_of_nonneg_left h2 h0
  omega

end Go.Proofs.Ytbedjebnllimpaa
