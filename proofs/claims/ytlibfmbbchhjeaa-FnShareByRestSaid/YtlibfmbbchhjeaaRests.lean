/- Shares by the largest rests, in the model. -/
import Derived.Test.YtlibfmbbchhjeaaRest
namespace Go.Proofs.Ytlibfmbbchhjeaa
open Go.RowKit

set_option maxHeartbeats 400000 in
theorem ShareByRest_spec (t : Int) (v : Value) (xs : List Int) (w : World) (hv : IsInts w v xs) (hl : xs.length ≤ 9223372036854775807) :
    Calls Try.prog 23 #[.int .i64 t, v] w fun e w' => ∃ v', e = .returned v' ∧ Own w' w.heap.size v' (restL t xs) ∧ Below w.heap.size w w' := by
  cases h1 : cShare t xs
  · go_enter Try.func23, Try.ntmps23
    go_wp2_with (go_at_call 60; refine (validTotal_spec _ _ _ _ hv hl).mono ?_; rintro e w' ⟨rfl, rfl⟩)
    go_ret
    exact ⟨_, rfl, by rw [restL, h1]; exact own_nil _ _, Below.refl _ _⟩
  · go_enter Try.func23, Try.ntmps23
    go_wp2_with (first | (go_at_call 60; refine (validTotal_spec _ _ _ _ hv hl).mono ?_; rintro e w' ⟨rfl, rfl⟩) | (go_at_call 61; refine (largest_spec _ _ _ _ hv h1).mono ?_; rintro e w1 ⟨v1, rfl, ho1, hb1⟩))
    go_ret
    exact ⟨_, rfl, ho1, hb1⟩

end Go.Proofs.Ytlibfmbbchhjeaa
