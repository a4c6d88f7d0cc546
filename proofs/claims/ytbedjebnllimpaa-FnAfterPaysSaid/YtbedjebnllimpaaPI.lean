/- Numbers in a range, in the program. -/
import Derived.Test.YtbedjebnllimpaaNum
namespace Go.Proofs.Ytbedjebnllimpaa
open Go.RowKit

/-- All numbers are from lo up to hi. -/
def allR (xs : List Int) (lo hi : Int) : Bool := xs.all fun x => inR x lo hi

theorem allR_true {xs : List Int} {lo hi : Int} (h : allR xs lo hi = true) : ∀ x ∈ xs, lo ≤ x ∧ x ≤ hi := by
  intro x hx
  exact inR_true (List.all_eq_true.1 h x hx)

theorem allR_take_succ (xs : List Int) (lo hi : Int) (k : Nat) (h : k < xs.length) : allR (xs.take (k + 1)) lo hi = (allR (xs.take k) lo hi && inR xs[k] lo hi) := by
  unfold allR
  rw [List.take_succ_eq_append_getElem h, List.all_append]
  simp

theorem allR_false_of (xs : List Int) (lo hi : Int) (k : Nat) (h : k < xs.length) (hf : inR xs[k] lo hi = false) : allR xs lo hi = false := by
  unfold allR
  rw [List.all_eq_false]
  exact ⟨xs[k], List.getElem_mem h, by simp [hf]⟩

set_option maxHeartbeats 400000 in
theorem allInRange_impl (v : Value) (xs : List Int) (lo hi : Int) (w : World) (hv : IsInts w v xs) (hl : xs.length ≤ 9223372036854775807) :
    Calls Try.prog 67 #[v, .int .i64 lo, .int .i64 hi] w fun e w' => e = .returned (.bool (allR xs lo hi)) ∧ w = w' := by
  obtain ⟨a, cap, rfl, hc⟩ := hv
  go_enter Try.func67, Try.ntmps67
  go_wp2
  go_loop [11] (fun i => ∃ k : Nat, k ≤ xs.length ∧ i = .int .i64 k ∧ allR (xs.take k) lo hi = true) (fun i => xs.length - (intOf i).toNat)
  case atStart => exact ⟨0, Nat.zero_le _, rfl, rfl⟩
  case round =>
    obtain ⟨k, hk, rfl, hall⟩ := hrel
    have HA := Lib.hid hall
    clear hall
    by_cases hlt : k < xs.length
    · obtain ⟨b, off, rfl, hcell⟩ := hc k hlt
      have HK := Lib.hid (allR_take_succ xs lo hi k hlt)
      cases hr : inR xs[k] lo hi
      · go_wp2_with (go_at_call 66; refine (inRange_impl _ _ _ _).mono ?_; rintro e w' ⟨rfl, rfl⟩)
        go_ret
        exact ⟨ret_bool (allR_false_of xs lo hi k hlt hr).symm, rfl⟩
      · go_wp2_with (go_at_call 66; refine (inRange_impl _ _ _ _).mono ?_; rintro e w' ⟨rfl, rfl⟩)
        go_round
        case rel => exact ⟨k + 1, by omega, by go_num, by rw [HK.out, HA.out, hr]; rfl⟩
        case measure => simp [intOf]; omega
    · go_wp2
      go_ret
      exact ⟨ret_bool (by rw [← HA.out, List.take_of_length_le (by omega)]), rfl⟩

end Go.Proofs.Ytbedjebnllimpaa
