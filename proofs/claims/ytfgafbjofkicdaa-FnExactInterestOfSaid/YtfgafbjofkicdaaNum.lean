/- Lists of ints in memory: what a slice value reads as, and small functions on numbers, contracts that every chapter uses. -/
import Derived.Test.YtfgafbjofkicdaaProg
import Derived.WalkKit
import Derived.Lib.Hide
namespace Go.Proofs.Ytfgafbjofkicdaa
open Go.RowKit

/-- The slice value v reads as the list xs of ints in the world w: its cells hold them, whatever its address where there is none. -/
def IsInts (w : World) (v : Value) (xs : List Int) : Prop :=
  ∃ a cap, v = .slice a xs.length cap ∧ ∀ j, j < xs.length → ∃ b off, a = some ⟨b, off, none⟩ ∧ w.cell? ⟨b, off + j, none⟩ = some (.int .i64 (xs.getD j 0))

/-- Every number fits an int. -/
def Fits (xs : List Int) : Prop := ∀ x ∈ xs, -9223372036854775808 ≤ x ∧ x ≤ 9223372036854775807

theorem IsInts.below {w w' : World} {v : Value} {xs : List Int} (h : IsInts w v xs) (hb : Below w.heap.size w w') : IsInts w' v xs := by
  obtain ⟨a, cap, rfl, hc⟩ := h
  refine ⟨a, cap, rfl, fun j hj => ?_⟩
  obtain ⟨b, off, ha, hcell⟩ := hc j hj
  exact ⟨b, off, ha, (hb.cell (p := ⟨b, off + j, none⟩) (World.block_lt_of_cell? w _ hcell)).trans hcell⟩

theorem Fits.getD {xs : List Int} (h : Fits xs) (j : Nat) : -9223372036854775808 ≤ xs.getD j 0 ∧ xs.getD j 0 ≤ 9223372036854775807 := by
  by_cases hj : j < xs.length
  · have := h (xs[j]) (List.getElem_mem hj)
    simpa [List.getD, hj] using this
  · simp [List.getD, Nat.not_lt.1 hj]

theorem ret_int {k : IntKind} {a b : Int} (h : a = b) : Ending.returned (.int k a) = .returned (.int k b) := by rw [h]
theorem ret_bool {a b : Bool} (h : a = b) : Ending.returned (.bool a) = .returned (.bool b) := by rw [h]

/-- low <= n && n <= high -/
def inR (n lo hi : Int) : Bool := decide (lo ≤ n ∧ n ≤ hi)

theorem inR_true {n lo hi : Int} (h : inR n lo hi = true) : lo ≤ n ∧ n ≤ hi := by simpa [inR] using h
theorem inR_false {n lo hi : Int} (h : inR n lo hi = false) : n < lo ∨ hi < n := by
  have : ¬ (lo ≤ n ∧ n ≤ hi) := by simpa [inR] using h
  omega

set_option maxHeartbeats 400000 in
theorem inRange_impl (n lo hi : Int) (w : World) :
    Calls Try.prog 53 #[.int .i64 n, .int .i64 lo, .int .i64 hi] w fun e w' => e = .returned (.bool (inR n lo hi)) ∧ w = w' := by
  by_cases h1 : lo ≤ n
  · have hd : decide (lo ≤ n) = true := by simpa using h1
    go_enter Try.func53, Try.ntmps53
    go_wp2
    go_ret
    exact ⟨by simp [inR, h1], rfl⟩
  · have hd : decide (lo ≤ n) = false := by simpa using h1
    go_enter Try.func53, Try.ntmps53
    go_wp2
    go_ret
    exact ⟨ret_bool (by unfold inR; symm; rw [decide_eq_false_iff_not]; omega), rfl⟩

set_option maxHeartbeats 400000 in
theorem inRange_spec (n lo hi : Int) (w : World) :
    Calls Try.prog 59 #[.int .i64 n, .int .i64 lo, .int .i64 hi] w fun e w' => e = .returned (.bool (inR n lo hi)) ∧ w = w' := by
  by_cases h1 : lo ≤ n
  · have hd : decide (lo ≤ n) = true := by simpa using h1
    go_enter Try.func59, Try.ntmps59
    go_wp2
    go_ret
    exact ⟨by simp [inR, h1], rfl⟩
  · have hd : decide (lo ≤ n) = false := by simpa using h1
    go_enter Try.func59, Try.ntmps59
    go_wp2
    go_ret
    exact ⟨ret_bool (by unfold inR; symm; rw [decide_eq_false_iff_not]; omega), rfl⟩

/-- The sum of numbers. -/
def tot (xs : List Int) : Int := xs.sum

theorem tot_take_succ (xs : List Int) (k : Nat) (h : k < xs.length) : tot (xs.take (k + 1)) = tot (xs.take k) + xs[k] := by
  unfold tot
  rw [List.take_succ_eq_append_getElem h, List.sum_append]
  simp

theorem tot_bounds (xs : List Int) (m : Int) (hm : ∀ x ∈ xs, 0 ≤ x ∧ x ≤ m) : 0 ≤ tot xs ∧ tot xs ≤ m * xs.length := by
  unfold tot
  induction xs with
  | nil => simp
  | cons a l ih =>
    have h1 := hm a (by simp)
    have h2 := ih (fun x hx => hm x (by simp [hx]))
    simp only [List.sum_cons, List.length_cons]
    rw [Int.natCast_add, Int.mul_add]
    omega

/-- Every sum of the first numbers fits an int. -/
def SumFits (xs : List Int) : Prop := ∀ k, -9223372036854775808 ≤ tot (xs.take k) ∧ tot (xs.take k) ≤ 9223372036854775807

theorem sumFits_of (xs : List Int) (m : Int) (hm : ∀ x ∈ xs, 0 ≤ x ∧ x ≤ m) (h0 : 0 ≤ m) (h : m * xs.length ≤ 9223372036854775807) : SumFits xs := by
  intro k
  have := tot_bounds (xs.take k) m (fun x hx => hm x (List.mem_of_mem_take hx))
  have hl : (xs.take k).length ≤ xs.length := by simp; omega
  have h2 : m * ((xs.take k).length : Int) ≤ m * (xs.length : Int) := Int.mul_le_mul_of_nonneg_left (by omega) h0
  omega

end Go.Proofs.Ytfgafbjofkicdaa
