/- Balances of friends: valid ones, in the program. -/
import Derived.Test.YtbedjebnllimpaaBalV
import Derived.Test.YtbedjebnllimpaaInts
import Derived.Test.YtbedjebnllimpaaPI
namespace Go.Proofs.Ytbedjebnllimpaa
open Go.RowKit

theorem vBal_of (xs : List Int) : vBal xs = (inR xs.length 1 6 && allR xs (-300) 300 && decide (tot xs = 0)) := by
  unfold vBal allR
  rw [Bool.and_comm (xs.all fun x => inR x (-300) 300)]

theorem sumFits_bal {xs : List Int} (h1 : inR xs.length 1 6 = true) (h2 : allR xs (-300) 300 = true) : SumFits xs := by
  have h1 := inR_true h1
  exact sumFits_abs xs 300 (allR_true h2) (by decide) (by omega)

set_option maxHeartbeats 800000 in
theorem areBalances_impl (v : Value) (xs : List Int) (w : World) (hv : IsInts w v xs) (hl : xs.length ≤ 9223372036854775807) :
    Calls Try.prog 78 #[v] w fun e w' => e = .returned (.bool (vBal xs)) ∧ w = w' := by
  have hv' := hv
  obtain ⟨a, cap, rfl, hc⟩ := hv
  cases h1 : inR xs.length 1 6
  · have E : Hid (vBal xs = false) := by show _ = _; rw [vBal_of, h1]; rfl
    go_enter Try.func78, Try.ntmps78
    go_wp2_with (go_at_call 66; refine (inRange_impl _ _ _ _).mono ?_; rintro e w' ⟨rfl, rfl⟩)
    go_ret
    exact ⟨ret_bool E.out.symm, rfl⟩
  · cases h2 : allR xs (-300) 300
    · have E : Hid (vBal xs = false) := by show _ = _; rw [vBal_of, h1, h2]; rfl
      go_enter Try.func78, Try.ntmps78
      go_wp2_with (first | (go_at_call 66; refine (inRange_impl _ _ _ _).mono ?_; rintro e w' ⟨rfl, rfl⟩) | (go_at_call 67; refine (allInRange_impl _ _ _ _ _ hv' hl).mono ?_; rintro e w' ⟨rfl, rfl⟩))
      go_ret
      exact ⟨ret_bool E.out.symm, rfl⟩
    · have E : Hid (vBal xs = decide (tot xs = 0)) := by show _ = _; rw [vBal_of, h1, h2]; rfl
      have hsf := sumFits_bal h1 h2
      go_enter Try.func78, Try.ntmps78
      go_wp2_with (first | (go_at_call 66; refine (inRange_impl _ _ _ _).mono ?_; rintro e w' ⟨rfl, rfl⟩) | (go_at_call 67; refine (allInRange_impl _ _ _ _ _ hv' hl).mono ?_; rintro e w' ⟨rfl, rfl⟩) | (go_at_call 90; refine (sum_impl _ _ _ hv' hl hsf).mono ?_; rintro e w' ⟨rfl, rfl⟩))
      go_ret
      exact ⟨ret_bool (by rw [E.out]; rfl), rfl⟩

end Go.Proofs.Ytbedjebnllimpaa
