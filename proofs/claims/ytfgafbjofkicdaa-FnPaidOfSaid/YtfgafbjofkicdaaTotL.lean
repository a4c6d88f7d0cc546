/- Numbers added, by the laws. -/
import Derived.Test.YtfgafbjofkicdaaNum
namespace Go.Proofs.Ytfgafbjofkicdaa
open Go.RowKit

set_option maxHeartbeats 400000 in
theorem total_any (v : Value) (xs : List Int) (w : World) (hv : IsInts w v xs) (hl : xs.length ≤ 9223372036854775807) (hs : SumFits xs) :
    Calls Try.prog 35 #[v] w fun e w' => e = .returned (.int .i64 (tot xs)) ∧ w = w' := by
  obtain ⟨a, cap, rfl, hc⟩ := hv
  go_enter Try.func35, Try.ntmps35
  go_wp2
  go_loop [3, 4] (fun t i => ∃ k : Nat, k ≤ xs.length ∧ i = .int .i64 k ∧ t = .int .i64 (tot (xs.take k))) (fun _ i => xs.length - (intOf i).toNat)
  case atStart => exact ⟨0, Nat.zero_le _, rfl, rfl⟩
  case round =>
    obtain ⟨k, hk, rfl, rfl⟩ := hrel
    by_cases hlt : k < xs.length
    · obtain ⟨b, off, rfl, hcell⟩ := hc k hlt
      have hsk := tot_take_succ xs k hlt
      have h1 := hs (k + 1)
      have h0 := hs k
      rw [hsk] at h1
      have HS := Lib.hid hsk
      clear hsk
      go_wp2
      go_round
      case rel => exact ⟨k + 1, by omega, by go_num, by rw [HS.out]⟩
      case measure => simp [intOf]; omega
    · go_wp2
      go_ret
      exact ⟨ret_int (by rw [List.take_of_length_le (by omega)]), rfl⟩

theorem tot_abs (xs : List Int) (m : Int) (hm : ∀ x ∈ xs, -m ≤ x ∧ x ≤ m) : -(m * xs.length) ≤ tot xs ∧ tot xs ≤ m * xs.length := by
  induction xs with
  | nil => simp [tot]
  | cons x xs ih =>
    have h1 := hm x (by simp)
    have h2 := ih (fun y hy => hm y (by simp [hy]))
    have e : tot (x :: xs) = x + tot xs := by simp [tot]
    rw [e, List.length_cons, Int.natCast_add, Int.mul_add]
    omega

theorem sumFits_abs (xs : List Int) (m : Int) (hm : ∀ x ∈ xs, -m ≤ x ∧ x ≤ m) (h0 : 0 ≤ m) (h : m * xs.length ≤ 9223372036854775807) : SumFits xs := by
  intro k
  have h1 := tot_abs (xs.take k) m (fun x hx => hm x (List.mem_of_mem_take hx))
  have h2 : ((xs.take k).length : Int) ≤ xs.length := by rw [List.length_take]; omega
  have h3 := Int.mul_le_mul_of_nonneg_left h2 h0
  omega

end Go.Proofs.Ytfgafbjofkicdaa
