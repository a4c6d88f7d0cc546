/- The exact law of LastUnpaid. -/
import Derived.Test.YtbkndncdhombeaaOwnI
import Derived.Test.YtbkndncdhombeaaLastI
import Derived.Test.YtbkndncdhombeaaOwn
namespace Go.Proofs.Ytbkndncdhombeaa
open Go.RowKit

set_option maxRecDepth 100000 in
set_option maxHeartbeats 3200000 in
theorem FnExactLastUnpaid_walk (v : Value) (cs : List Int) (w : World) (hv : IsInts w v cs) (hl : cs.length ≤ 9223372036854775807) (_hf : Fits cs) :
    Calls Try.prog 11 #[v] w fun e w' => e = .returned (.bool true) ∧ Below w.heap.size w w' := by
  have hv' := hv
  obtain ⟨av, cap, rfl, _⟩ := hv
  by_cases hbig : (1048576 : Int) < (cs.length : Int)
  · go_enter Try.func11, Try.ntmps11
    go_wp2
    go_ret
    exact ⟨rfl, Below.refl _ _⟩
  have hl2 : cs.length ≤ 1048576 := by omega
  go_enter Try.func11, Try.ntmps11
  go_wp2_with fail
  refine (toIntS_any _ cs _ hv' hl2).mono ?_
  rintro e w1 ⟨v1, rfl, ho1, b1⟩
  go_wp2_with fail
  refine (LastUnpaid_spec _ cs _ ho1.ints hl).mono ?_
  rintro e w2 ⟨rfl, hb2⟩
  have b2 : Below w.heap.size w w2 := b1.trans (hb2.mono b1.size)
  go_wp2_with fail
  refine (toIntS_any _ cs _ (hv'.below b2) hl2).mono ?_
  rintro e w3 ⟨v3, rfl, ho3, hb3⟩
  have b3 : Below w.heap.size w w3 := b2.trans (hb3.mono b2.size)
  go_wp2_with fail
  refine (LastUnpaid_impl _ cs _ ho3.ints hl).mono ?_
  rintro e w4 ⟨rfl, hb4⟩
  have b4 : Below w.heap.size w w4 := b3.trans (hb4.mono b3.size)
  have o3b := ho3.below hb4
  go_wp2_with fail
  refine (toIntS_any _ cs _ (hv'.below b4) hl2).mono ?_
  rintro e w5 ⟨v5, rfl, ho5, hb5⟩
  have b5 : Below w.heap.size w w5 := b4.trans (hb5.mono b4.size)
  have o3c := o3b.below hb5
  go_wp2_with fail
  refine (eqIntS_any _ _ _ _ _ o3c.ints ho5.ints hl).mono ?_
  rintro e w6 ⟨rfl, hb6⟩
  have b6 : Below w.heap.size w w6 := b5.trans (hb6.mono b5.size)
  go_wp2
  go_ret
  exact ⟨rfl, b6⟩

end Go.Proofs.Ytbkndncdhombeaa
