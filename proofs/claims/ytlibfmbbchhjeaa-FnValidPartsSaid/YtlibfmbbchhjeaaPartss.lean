/- The weights of parts: contracts of sums, ranges, ValidParts, in the program and in its model. -/
import Derived.Test.YtlibfmbbchhjeaaParts
namespace Go.Proofs.Ytlibfmbbchhjeaa
open Go.RowKit

set_option maxHeartbeats 400000 in
theorem ValidParts_spec (v : Value) (xs : List Int) (w : World) (hv : IsInts w v xs) (hl : xs.length ≤ 9223372036854775807) :
    Calls Try.prog 19 #[v] w fun e w' => e = .returned (.bool (vParts xs)) ∧ w = w' := by
  go_enter Try.func19, Try.ntmps19
  go_wp2_with (go_at_call 56; refine (validParts_spec _ _ _ hv hl).mono ?_; rintro e w' ⟨rfl, rfl⟩)
  go_ret
  exact ⟨rfl, rfl⟩

end Go.Proofs.Ytlibfmbbchhjeaa
