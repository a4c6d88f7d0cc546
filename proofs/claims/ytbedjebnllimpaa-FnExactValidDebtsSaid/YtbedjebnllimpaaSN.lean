/- Sums of the first values of a function. -/
import Derived.Test.YtbedjebnllimpaaTK
namespace Go.Proofs.Ytbedjebnllimpaa
open Go.RowKit

def sumN (f : Nat → Int) : Nat → Int
  | 0 => 0
  | n + 1 => sumN f n + f n

theorem sumN_congr {f f' : Nat → Int} : ∀ n, (∀ i, i < n → f i = f' i) → sumN f n = sumN f' n
  | 0, _ => rfl
  | n + 1, h => by rw [sumN, sumN, sumN_congr n (fun i hi => h i (by omega)), h n (by omega)]

theorem sumN_add (f f' : Nat → Int) : ∀ n, sumN (fun i => f i + f' i) n = sumN f n + sumN f' n
  | 0 => rfl
  | n + 1 => by rw [sumN, sumN, sumN, sumN_add f f' n]; omega

theorem sumN_zero : ∀ n, sumN (fun _ => 0) n = 0
  | 0 => rfl
  | n + 1 => by rw [sumN, sumN_zero n]; rfl

theorem sumN_swap (f : Nat → Nat → Int) (m : Nat) : ∀ n, sumN (fun i => sumN (fun k => f i k) m) n = sumN (fun k => sumN (fun i => f i k) n) m
  | 0 => by
    simp only [sumN]
    exact (sumN_zero m).symm
  | n + 1 => by
    rw [sumN, sumN_swap f m n, ← sumN_add]
    rfl

theorem tot_take_sum (xs : List Int) : ∀ n, n ≤ xs.length → tot (xs.take n) = sumN (fun i => xs.getD i 0) n
  | 0, _ => by simp [tot, sumN]
  | n + 1, h => by
    rw [tot_take_succ xs n (by omega), tot_take_sum xs n (by omega), sumN]
    simp [List.getD, show n < xs.length by omega]

theorem tot_sum (xs : List Int) : tot xs = sumN (fun i => xs.getD i 0) xs.length := by
  have := tot_take_sum xs xs.length (Nat.le_refl _)
  rwa [List.take_length] at this

theorem tot_row (g : List (List Int)) (i : Nat) : tot (rowOf g i) = sumN (cellOf g i) (rowOf g i).length := tot_sum _

theorem sumN_bounds (f : Nat → Int) (m : Int) : ∀ n, (∀ i, i < n → 0 ≤ f i ∧ f i ≤ m) → 0 ≤ sumN f n ∧ sumN f n ≤ m * n
  | 0, _ => by simp [sumN]
  | n + 1, h => by
    have h1 := sumN_bounds f m n (fun i hi => h i (by omega))
    have h2 := h n (by omega)
    rw [sumN, Int.natCast_add, Int.mul_add]
    omega

theorem sumN_sub (f f' : Nat → Int) : ∀ n, sumN (fun i => f i - f' i) n = sumN f n - sumN f' n
  | 0 => rfl
  | n + 1 => by rw [sumN, sumN, sumN, sumN_sub f f' n]; omega

theorem tot_range (f : Nat → Int) : ∀ n, tot ((List.range n).map f) = sumN f n
  | 0 => rfl
  | n + 1 => by
    rw [List.range_succ, List.map_append, sumN, ← tot_range f n]
    simp [tot, List.sum_append]

end Go.Proofs.Ytbedjebnllimpaa
