/- spec.ValidCoins as a function of the coins. -/
import Derived.Test.YtbkndncdhombeaaCoinV
namespace Go.Proofs.Ytbkndncdhombeaa
open Go.RowKit


theorem ValidCoins_spec (v : Value) (cs : List Int) (w : World) (hv : IsInts w v cs) (hl : cs.length ≤ 9223372036854775807) :
    Calls Try.prog 17 #[v] w fun e w' => e = .returned (.bool (vCoins cs)) ∧ Drawn w w' := by
  have HV := Lib.hid (validCoins_spec v cs w hv hl)
  go_enter Try.func17, Try.ntmps17
  go_wp2_with (go_at_call 45; refine HV.out.mono ?_; rintro e w' ⟨rfl, hd⟩)
  go_ret
  exact ⟨rfl, hd⟩

end Go.Proofs.Ytbkndncdhombeaa
