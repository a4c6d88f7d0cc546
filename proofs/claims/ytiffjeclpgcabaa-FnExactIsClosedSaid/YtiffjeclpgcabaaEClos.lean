/- The exact law of IsClosed. -/
import Derived.Test.YtiffjeclpgcabaaGanI
namespace Go.Proofs.Ytiffjeclpgcabaa
open Go.RowKit

set_option maxRecDepth 100000 in
set_option maxHeartbeats 3200000 in
theorem FnExactIsClosed_walk (v : Value) (g : List (List (Int × Int))) (w : World) (hv : IsGridR w v g) (hl : g.length ≤ 9223372036854775807) (hr : ∀ i, i < g.length → (rowR g i).length ≤ 9223372036854775807) (_hf : FitsGR g) :
    Calls Try.prog 14 #[v] w fun e w' => e = .returned (.bool true) ∧ Below w.heap.size w w' := by
  obtain ⟨a, cap, rfl, _⟩ := id hv
  have C := Lib.hid (szRatioSS_sum _ g 1048576 w hv hl hr (by omega))
  go_enter Try.func14, Try.ntmps14
  go_wp2_with fail
  refine C.out.mono ?_
  rintro e w' ⟨r, rfl, hrr, rfl⟩
  rcases hrr with rfl | ⟨r0, r1, hs, _⟩
  · go_wp2
    go_ret
    exact ⟨rfl, Below.refl _ _⟩
  have hr0 : ¬ r < 0 := by omega
  go_wp2_with fail
  refine (toRatioSS_own _ g _ hv hs).mono ?_
  rintro e w1 ⟨v1, rfl, ho1, b1⟩
  go_wp2_with fail
  refine (IsClosed_spec _ g _ ho1.grid hl hr).mono ?_
  rintro e w2 ⟨rfl, hb2⟩
  have b2 : Below w.heap.size w w2 := b1.trans (hb2.mono b1.size)
  clear ho1
  go_wp2_with fail
  refine (toRatioSS_own _ g _ (hv.below b2) hs).mono ?_
  rintro e w3 ⟨v3, rfl, ho3, hb3⟩
  have b3 : Below w.heap.size w w3 := b2.trans (hb3.mono b2.size)
  go_wp2_with fail
  refine (IsClosed_impl _ g _ ho3.grid hl hr).mono ?_
  rintro e w4 ⟨rfl, hb4⟩
  have b4 : Below w.heap.size w w4 := b3.trans (hb4.mono b3.size)
  have o3b := ho3.below hb4
  clear ho3 hb2 hb3 hb4
  go_wp2_with fail
  refine (toRatioSS_own _ g _ (hv.below b4) hs).mono ?_
  rintro e w5 ⟨v5, rfl, ho5, hb5⟩
  have b5 : Below w.heap.size w w5 := b4.trans (hb5.mono b4.size)
  have o3c := o3b.below hb5
  go_wp2_with fail
  refine (eqRatioSS_same _ _ g _ o3c.grid ho5.grid hl hr).mono ?_
  rintro e w6 ⟨rfl, hb6⟩
  have b6 : Below w.heap.size w w6 := b5.trans (hb6.mono b5.size)
  go_wp2
  go_ret
  exact ⟨rfl, b6⟩

end Go.Proofs.Ytiffjeclpgcabaa
