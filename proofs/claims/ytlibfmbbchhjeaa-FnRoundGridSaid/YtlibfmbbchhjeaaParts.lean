/- The weights of parts: contracts of sums, ranges, ValidParts, in the program and in its model. -/
import Derived.Test.YtlibfmbbchhjeaaSMs
import Derived.Test.YtlibfmbbchhjeaaPI
import Derived.Test.YtlibfmbbchhjeaaInts
namespace Go.Proofs.Ytlibfmbbchhjeaa
open Go.RowKit

/-- The weights of parts. -/
def vParts (xs : List Int) : Bool := inR xs.length 1 8 && allR xs 0 50 && decide (0 < tot xs)

theorem vParts_sumFits {xs : List Int} (hl : inR xs.length 1 8 = true) (ha : allR xs 0 50 = true) : SumFits xs := by
  have h1 := inR_true hl
  exact sumFits_of xs 50 (allR_true ha) (by omega) (by omega)

set_option maxHeartbeats 400000 in
theorem ValidParts_impl (v : Value) (xs : List Int) (w : World) (hv : IsInts w v xs) (hl : xs.length ≤ 9223372036854775807) :
    Calls Try.prog 18 #[v] w fun e w' => e = .returned (.bool (vParts xs)) ∧ w = w' := by
  have hv' := hv
  obtain ⟨a, cap, rfl, hc⟩ := hv
  cases h1 : inR xs.length 1 8
  · go_enter Try.func18, Try.ntmps18
    go_wp2_with (go_at_call 53; refine (inRange_impl _ _ _ _).mono ?_; rintro e w' ⟨rfl, rfl⟩)
    go_ret
    exact ⟨ret_bool (by rw [vParts, h1]; rfl), rfl⟩
  · cases h2 : allR xs 0 50
    · go_enter Try.func18, Try.ntmps18
      go_wp2_with (first | (go_at_call 53; refine (inRange_impl _ _ _ _).mono ?_; rintro e w' ⟨rfl, rfl⟩) | (go_at_call 54; refine (allInRange_impl _ _ _ _ _ hv' hl).mono ?_; rintro e w' ⟨rfl, rfl⟩))
      go_ret
      exact ⟨ret_bool (by rw [vParts, h1, h2]; rfl), rfl⟩
    · have hsf := vParts_sumFits h1 h2
      go_enter Try.func18, Try.ntmps18
      go_wp2_with (first | (go_at_call 53; refine (inRange_impl _ _ _ _).mono ?_; rintro e w' ⟨rfl, rfl⟩) | (go_at_call 54; refine (allInRange_impl _ _ _ _ _ hv' hl).mono ?_; rintro e w' ⟨rfl, rfl⟩) | (go_at_call 55; refine (sum_impl _ _ _ hv' hl hsf).mono ?_; rintro e w' ⟨rfl, rfl⟩))
      go_ret
      exact ⟨ret_bool (by rw [vParts, h1, h2]; rfl), rfl⟩

set_option maxHeartbeats 400000 in
theorem validParts_spec (v : Value) (xs : List Int) (w : World) (hv : IsInts w v xs) (hl : xs.length ≤ 9223372036854775807) :
    Calls Try.prog 56 #[v] w fun e w' => e = .returned (.bool (vParts xs)) ∧ w = w' := by
  have hv' := hv
  obtain ⟨a, cap, rfl, hc⟩ := hv
  go_enter Try.func56, Try.ntmps56
  go_wp2
  go_loop [3] (fun i => ∃ k : Nat, k ≤ xs.length ∧ i = .int .i64 k ∧ allR (xs.take k) 0 50 = true) (fun i => xs.length - (intOf i).toNat)
  case atStart => exact ⟨0, Nat.zero_le _, rfl, rfl⟩
  case round =>
    obtain ⟨k, hk, rfl, hall⟩ := hrel
    have HA := Lib.hid hall
    clear hall
    by_cases hlt : k < xs.length
    · have hv2 := hv'
      clear hv'
      obtain ⟨b, off, rfl, hcell⟩ := hc k hlt
      have HK := Lib.hid (allR_take_succ xs 0 50 k hlt)
      cases hr : inR xs[k] 0 50
      · go_wp2_with (go_at_call 66; refine (inRange_spec _ _ _ _).mono ?_; rintro e w' ⟨rfl, rfl⟩)
        go_ret
        exact ⟨ret_bool (by rw [vParts, allR_false_of xs 0 50 k hlt hr]; simp), rfl⟩
      · go_wp2_with (go_at_call 66; refine (inRange_spec _ _ _ _).mono ?_; rintro e w' ⟨rfl, rfl⟩)
        go_round
        case rel => exact ⟨k + 1, by omega, by go_num, by rw [HK.out, HA.out, hr]; rfl⟩
        case measure => simp [intOf]; omega
    · have hall : allR xs 0 50 = true := by rw [← HA.out, List.take_of_length_le (by omega)]
      have HB := Lib.hid hall
      clear hall
      cases h1 : inR xs.length 1 8
      · go_wp2_with (go_at_call 66; refine (inRange_spec _ _ _ _).mono ?_; rintro e w' ⟨rfl, rfl⟩)
        go_ret
        exact ⟨ret_bool (by rw [vParts, h1]; rfl), rfl⟩
      · have hsf := vParts_sumFits h1 HB.out
        go_wp2_with (first | (go_at_call 66; refine (inRange_spec _ _ _ _).mono ?_; rintro e w' ⟨rfl, rfl⟩) | (go_at_call 68; refine (sum_spec _ _ _ hv' hl hsf).mono ?_; rintro e w' ⟨rfl, rfl⟩))
        go_ret
        exact ⟨ret_bool (by rw [vParts, h1, HB.out]; rfl), rfl⟩

end Go.Proofs.Ytlibfmbbchhjeaa
