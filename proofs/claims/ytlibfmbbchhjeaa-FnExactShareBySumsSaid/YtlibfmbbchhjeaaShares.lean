/- What may be shared, and shares by rounded sums, in the program and in its model. -/
import Derived.Test.YtlibfmbbchhjeaaShare
namespace Go.Proofs.Ytlibfmbbchhjeaa
open Go.RowKit

set_option maxHeartbeats 400000 in
theorem ShareBySums_spec (t : Int) (v : Value) (xs : List Int) (w : World) (hv : IsInts w v xs) (hl : xs.length ≤ 9223372036854775807) :
    Calls Try.prog 28 #[.int .i64 t, v] w fun e w' => ∃ v', e = .returned v' ∧ Own w' w.heap.size v' (sumsL t xs) ∧ Below w.heap.size w w' := by
  cases h1 : cShare t xs
  · go_enter Try.func28, Try.ntmps28
    go_wp2_with (go_at_call 60; refine (validTotal_spec _ _ _ _ hv hl).mono ?_; rintro e w' ⟨rfl, rfl⟩)
    go_ret
    exact ⟨_, rfl, by rw [sumsL, h1]; exact own_nil _ _, Below.refl _ _⟩
  · go_enter Try.func28, Try.ntmps28
    go_wp2_with (first | (go_at_call 60; refine (validTotal_spec _ _ _ _ hv hl).mono ?_; rintro e w' ⟨rfl, rfl⟩) | (go_at_call 64; refine (running_spec _ _ _ _ hv h1).mono ?_; rintro e w1 ⟨v1, rfl, ho1, hb1⟩))
    go_ret
    exact ⟨_, rfl, ho1, hb1⟩

end Go.Proofs.Ytlibfmbbchhjeaa
