/- The weights of parts: contracts of sums, ranges, ValidParts, in the program and in its model. -/
import Derived.Test.YtgkgkpfnkljplaaInts
namespace Go.Proofs.Ytgkgkpfnkljplaa
open Go.RowKit

set_option maxHeartbeats 400000 in
theorem sum_spec (v : Value) (xs : List Int) (w : World) (hv : IsInts w v xs) (hl : xs.length ≤ 9223372036854775807) (hs : SumFits xs) :
    Calls Try.prog 68 #[v] w fun e w' => e = .returned (.int .i64 (tot xs)) ∧ w = w' := by
  obtain ⟨a, cap, rfl, hc⟩ := hv
  go_enter Try.func68, Try.ntmps68
  go_wp2
  go_loop [3, 4] (fun t i => ∃ k : Nat, k ≤ xs.length ∧ i = .int .i64 k ∧ t = .int .i64 (tot (xs.take k))) (fun _ i => xs.length - (intOf i).toNat)
  case atStart => exact ⟨0, Nat.zero_le _, rfl, rfl⟩
  case round =>
    obtain ⟨k, hk, rfl, rfl⟩ := hrel
    by_cases hlt : k < xs.length
    · obtain ⟨b, off, rfl, hcell⟩ := hc k hlt
      have hsk := tot_take_succ xs k hlt
      have h1 := hs (k + 1)
      have h0 := hs k
      rw [hsk] at h1
      have HS := Lib.hid hsk
      clear hsk
      go_wp2
      go_round
      case rel => exact ⟨k + 1, by omega, by go_num, by rw [HS.out]⟩
      case measure => simp [intOf]; omega
    · go_wp2
      go_ret
      exact ⟨ret_int (by rw [List.take_of_length_le (by omega)]), rfl⟩

/-- All numbers are from lo up to hi. -/
def allR (xs : List Int) (lo hi : Int) : Bool := xs.all fun x => inR x lo hi

theorem allR_true {xs : List Int} {lo hi : Int} (h : allR xs lo hi = true) : ∀ x ∈ xs, lo ≤ x ∧ x ≤ hi := by
  intro x hx
  exact inR_true (List.all_eq_true.1 h x hx)

theorem allR_take_succ (xs : List Int) (lo hi : Int) (k : Nat) (h : k < xs.length) : allR (xs.take (k + 1)) lo hi = (allR (xs.take k) lo hi && inR xs[k] lo hi) := by
  unfold allR
  rw [List.take_succ_eq_append_getElem h, List.all_append]
  simp

theorem allR_false_of (xs : List Int) (lo hi : Int) (k : Nat) (h : k < xs.length) (hf : inR xs[k] lo hi = false) : allR xs lo hi = false := by
  unfold allR
  rw [List.all_eq_false]
  exact ⟨xs[k], List.getElem_mem h, by simp [hf]⟩

set_option maxHeartbeats 400000 in
theorem allInRange_impl (v : Value) (xs : List Int) (lo hi : Int) (w : World) (hv : IsInts w v xs) (hl : xs.length ≤ 9223372036854775807) :
    Calls Try.prog 54 #[v, .int .i64 lo, .int .i64 hi] w fun e w' => e = .returned (.bool (allR xs lo hi)) ∧ w = w' := by
  obtain ⟨a, cap, rfl, hc⟩ := hv
  go_enter Try.func54, Try.ntmps54
  go_wp2
  go_loop [11] (fun i => ∃ k : Nat, k ≤ xs.length ∧ i = .int .i64 k ∧ allR (xs.take k) lo hi = true) (fun i => xs.length - (intOf i).toNat)
  case atStart => exact ⟨0, Nat.zero_le _, rfl, rfl⟩
  case round =>
    obtain ⟨k, hk, rfl, hall⟩ := hrel
    have HA := Lib.hid hall
    clear hall
    by_cases hlt : k < xs.length
    · obtain ⟨b, off, rfl, hcell⟩ := hc k hlt
      have HK := Lib.hid (allR_take_succ xs lo hi k hlt)
      cases hr : inR xs[k] lo hi
      · go_wp2_with (go_at_call 53; refine (inRange_impl _ _ _ _).mono ?_; rintro e w' ⟨rfl, rfl⟩)
        go_ret
        exact ⟨ret_bool (allR_false_of xs lo hi k hlt hr).symm, rfl⟩
      · go_wp2_with (go_at_call 53; refine (inRange_impl _ _ _ _).mono ?_; rintro e w' ⟨rfl, rfl⟩)
        go_round
        case rel => exact ⟨k + 1, by omega, by go_num, by rw [HK.out, HA.out, hr]; rfl⟩
        case measure => simp [intOf]; omega
    · go_wp2
      go_ret
      exact ⟨ret_bool (by rw [← HA.out, List.take_of_length_le (by omega)]), rfl⟩

/-- The weights of parts. -/
def vParts (xs : List Int) : Bool := inR xs.length 1 8 && allR xs 0 50 && decide (0 < tot xs)

theorem vParts_sumFits {xs : List Int} (hl : inR xs.length 1 8 = true) (ha : allR xs 0 50 = true) : SumFits xs := by
  have h1 := inR_true hl
  exact sumFits_of xs 50 (allR_true ha) (by omega) (by omega)

set_option maxHeartbeats 400000 in
theorem ValidParts_impl (v : Value) (xs : List Int) (w : World) (hv : IsInts w v xs) (hl : xs.length ≤ 9223372036854775807) :
    Calls Try.prog 18 #[v] w fun e w' => e = .returned (.bool (vParts xs)) ∧ w = w' := by
  have hv' := hv
  obtain ⟨a, cap, rfl, hc⟩ := hv
  cases h1 : inR xs.length 1 8
  · go_enter Try.func18, Try.ntmps18
    go_wp2_with (go_at_call 53; refine (inRange_impl _ _ _ _).mono ?_; rintro e w' ⟨rfl, rfl⟩)
    go_ret
    exact ⟨ret_bool (by rw [vParts, h1]; rfl), rfl⟩
  · cases h2 : allR xs 0 50
    · go_enter Try.func18, Try.ntmps18
      go_wp2_with (first | (go_at_call 53; refine (inRange_impl _ _ _ _).mono ?_; rintro e w' ⟨rfl, rfl⟩) | (go_at_call 54; refine (allInRange_impl _ _ _ _ _ hv' hl).mono ?_; rintro e w' ⟨rfl, rfl⟩))
      go_ret
      exact ⟨ret_bool (by rw [vParts, h1, h2]; rfl), rfl⟩
    · have hsf := vParts_sumFits h1 h2
      go_enter Try.func18, Try.ntmps18
      go_wp2_with (first | (go_at_call 53; refine (inRange_impl _ _ _ _).mono ?_; rintro e w' ⟨rfl, rfl⟩) | (go_at_call 54; refine (allInRange_impl _ _ _ _ _ hv' hl).mono ?_; rintro e w' ⟨rfl, rfl⟩) | (go_at_call 55; refine (sum_impl _ _ _ hv' hl hsf).mono ?_; rintro e w' ⟨rfl, rfl⟩))
      go_ret
      exact ⟨ret_bool (by rw [vParts, h1, h2]; rfl), rfl⟩

set_option maxHeartbeats 400000 in
theorem validParts_spec (v : Value) (xs : List Int) (w : World) (hv : IsInts w v xs) (hl : xs.length ≤ 9223372036854775807) :
    Calls Try.prog 56 #[v] w fun e w' => e = .returned (.bool (vParts xs)) ∧ w = w' := by
  have hv' := hv
  obtain ⟨a, cap, rfl, hc⟩ := hv
  go_enter Try.func56, Try.ntmps56
  go_wp2
  go_loop [3] (fun i => ∃ k : Nat, k ≤ xs.length ∧ i = .int .i64 k ∧ allR (xs.take k) 0 50 = true) (fun i => xs.length - (intOf i).toNat)
  case atStart => exact ⟨0, Nat.zero_le _, rfl, rfl⟩
  case round =>
    obtain ⟨k, hk, rfl, hall⟩ := hrel
    have HA := Lib.hid hall
    clear hall
    by_cases hlt : k < xs.length
    · have hv2 := hv'
      clear hv'
      obtain ⟨b, off, rfl, hcell⟩ := hc k hlt
      have HK := Lib.hid (allR_take_succ xs 0 50 k hlt)
      cases hr : inR xs[k] 0 50
      · go_wp2_with (go_at_call 66; refine (inRange_spec _ _ _ _).mono ?_; rintro e w' ⟨rfl, rfl⟩)
        go_ret
        exact ⟨ret_bool (by rw [vParts, allR_false_of xs 0 50 k hlt hr]; simp), rfl⟩
      · go_wp2_with (go_at_call 66; refine (inRange_spec _ _ _ _).mono ?_; rintro e w' ⟨rfl, rfl⟩)
        go_round
        case rel => exact ⟨k + 1, by omega, by go_num, by rw [HK.out, HA.out, hr]; rfl⟩
        case measure => simp [intOf]; omega
    · have hall : allR xs 0 50 = true := by rw [← HA.out, List.take_of_length_le (by omega)]
      have HB := Lib.hid hall
      clear hall
      cases h1 : inR xs.length 1 8
      · go_wp2_with (go_at_call 66; refine (inRange_spec _ _ _ _).mono ?_; rintro e w' ⟨rfl, rfl⟩)
        go_ret
        exact ⟨ret_bool (by rw [vParts, h1]; rfl), rfl⟩
      · have hsf := vParts_sumFits h1 HB.out
        go_wp2_with (first | (go_at_call 66; refine (inRange_spec _ _ _ _).mono ?_; rintro e w' ⟨rfl, rfl⟩) | (go_at_call 68; refine (sum_spec _ _ _ hv' hl hsf).mono ?_; rintro e w' ⟨rfl, rfl⟩))
        go_ret
        exact ⟨ret_bool (by rw [vParts, h1, HB.out]; rfl), rfl⟩

set_option maxHeartbeats 400000 in
theorem ValidParts_spec (v : Value) (xs : List Int) (w : World) (hv : IsInts w v xs) (hl : xs.length ≤ 9223372036854775807) :
    Calls Try.prog 19 #[v] w fun e w' => e = .returned (.bool (vParts xs)) ∧ w = w' := by
  go_enter Try.func19, Try.ntmps19
  go_wp2_with (go_at_call 56; refine (validParts_spec _ _ _ hv hl).mono ?_; rintro e w' ⟨rfl, rfl⟩)
  go_ret
  exact ⟨rfl, rfl⟩

end Go.Proofs.Ytgkgkpfnkljplaa
