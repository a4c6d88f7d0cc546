/- The sum of numbers, in the program. -/
import Derived.Test.YtbedjebnllimpaaNum
namespace Go.Proofs.Ytbedjebnllimpaa
open Go.RowKit

set_option maxHeartbeats 400000 in
theorem sum_impl (v : Value) (xs : List Int) (w : World) (hv : IsInts w v xs) (hl : xs.length ≤ 9223372036854775807) (hs : SumFits xs) :
    Calls Try.prog 90 #[v] w fun e w' => e = .returned (.int .i64 (tot xs)) ∧ w = w' := by
  obtain ⟨a, cap, rfl, hc⟩ := hv
  go_enter Try.func90, Try.ntmps90
  go_wp2
  go_loop [3, 8] (fun t i => ∃ k : Nat, k ≤ xs.length ∧ i = .int .i64 k ∧ t = .int .i64 (tot (xs.take k))) (fun _ i => xs.length - (intOf i).toNat)
  case atStart => exact ⟨0, Nat.zero_le _, rfl, rfl⟩
  case round =>
    obtain ⟨k, hk, rfl, rfl⟩ := hrel
    by_cases hlt : k < xs.length
    · obtain ⟨b, off, rfl, hcell⟩ := hc k hlt
      have hsk := tot_take_succ xs k hlt
      have h1 := hs (k + 1)
      have h0 := hs k
      rw [hsk] at h1
      have HS := Lib.hid hsk
      clear hsk
      go_wp2
      go_round
      case rel => exact ⟨k + 1, by omega, by go_num, by rw [HS.out]⟩
      case measure => simp [intOf]; omega
    · go_wp2
      go_ret
      exact ⟨ret_int (by rw [List.take_of_length_le (by omega)]), rfl⟩

end Go.Proofs.Ytbedjebnllimpaa
