/- The exact law of GainOf. -/
import Derived.Test.YtiffjeclpgcabaaGanI
namespace Go.Proofs.Ytiffjeclpgcabaa
open Go.RowKit

set_option maxRecDepth 100000 in
set_option maxHeartbeats 3200000 in
theorem FnExactGainOf_walk (v : Value) (g : List (List (Int × Int))) (w : World) (hv : IsGridR w v g) (hl : g.length ≤ 9223372036854775807) (hr : ∀ i, i < g.length → (rowR g i).length ≤ 9223372036854775807) (_hf : FitsGR g) :
    Calls Try.prog 13 #[v] w fun e w' => e = .returned (.bool true) ∧ Below w.heap.size w w' := by
  obtain ⟨av, cap, rfl, _⟩ := id hv
  have C := Lib.hid (szRatioSS_sum _ g 1048576 w hv hl hr (by omega))
  have HSP := Lib.hid (fun vx wx hx => GainOf_spec vx g wx hx hl hr)
  have HIM := Lib.hid (fun vx wx hx => GainOf_impl vx g wx hx hl hr)
  go_enter Try.func13, Try.ntmps13
  go_wp2_with fail
  refine C.out.mono ?_
  rintro e w' ⟨r, rfl, hrr, rfl⟩
  rcases hrr with rfl | ⟨r0, r1, hs, _⟩
  · go_wp2
    go_ret
    exact ⟨rfl, Below.refl _ _⟩
  have hr0 : ¬ r < 0 := by omega
  generalize gainW g = BV at *
  obtain ⟨⟨bu, bd⟩, bo⟩ := BV
  simp only at HSP HIM
  have HEQ : Hid (∀ wx, Calls Try.prog 50 #[rv bu bd, rv bu bd] wx fun e w' => e = .returned (.bool true) ∧ Below wx.heap.size wx w') := fun wx => by
    have := eqRatio_any bu bd bu bd wx
    rwa [show eqR bu bd bu bd = true by simp [eqR]] at this
  go_wp2_with fail
  refine (toRatioSS_own _ g _ hv hs).mono ?_
  rintro e w1 ⟨v1, rfl, ho1, b1⟩
  go_wp2_with fail
  refine (HSP.out _ _ ho1.grid).mono ?_
  rintro e w2 ⟨rfl, hb2⟩
  have b2 : Below w.heap.size w w2 := b1.trans (hb2.mono b1.size)
  clear ho1 hb2 b1
  go_wp2_with fail
  have x8 := IsBoxR.new w2 bu bd
  have a2 := b2.alloc b2.size (.cells #[.int .i64 bu, .int .i64 bd] 31)
  generalize w2.alloc (.cells #[.int .i64 bu, .int .i64 bd] 31) = w2' at *
  generalize w2.heap.size = c8 at *
  refine (toRatioSS_own _ g _ (hv.below a2) hs).mono ?_
  rintro e w3 ⟨v3, rfl, ho3, hb3⟩
  have b3 : Below w.heap.size w w3 := a2.trans (hb3.mono a2.size)
  have x83 := x8.below hb3
  clear x8 b2 a2 hb3
  go_wp2_with fail
  refine (HIM.out _ _ ho3.grid).mono ?_
  rintro e w4 ⟨rfl, hb4⟩
  have b4 : Below w.heap.size w w4 := b3.trans (hb4.mono b3.size)
  have o4 := ho3.below hb4
  have x84 := x83.below hb4
  clear ho3 hb4 x83 b3
  have j0 : (w4.alloc (.cells #[.int .i64 bu, .int .i64 bd] 31)).cell? ⟨c8, 0, none⟩ = some (.int .i64 bu) := cell_alloc x84.cells.1.1
  have j1 : (w4.alloc (.cells #[.int .i64 bu, .int .i64 bd] 31)).cell? ⟨c8, 1, none⟩ = some (.int .i64 bd) := cell_alloc x84.cells.1.2
  go_wp2_with fail
  have da := (Below.refl w4.heap.size w4).alloc (Nat.le_refl _) (.cells #[.int .i64 bu, .int .i64 bd] 31)
  have x11 := IsBoxR.new w4 bu bd
  have o5 := o4.below da
  have x85 := x84.below da
  have b5 := b4.trans (da.mono b4.size)
  clear da o4 x84 b4 j0 j1
  generalize w4.alloc (.cells #[.int .i64 bu, .int .i64 bd] 31) = w5 at *
  generalize w4.heap.size = c11 at *
  refine (HEQ.out _).mono ?_
  rintro e w6 ⟨rfl, hb6⟩
  have b6 := b5.trans (hb6.mono b5.size)
  have o6 := o5.below hb6
  clear x11 x85 o5 b5 hb6
  go_wp2_with fail
  refine (toRatioSS_own _ g _ (hv.below b6) hs).mono ?_
  rintro e w7 ⟨v7, rfl, ho7, hb7⟩
  have b7 : Below w.heap.size w w7 := b6.trans (hb7.mono b6.size)
  have o7 := o6.below hb7
  go_wp2_with fail
  refine (eqRatioSS_same _ _ g _ o7.grid ho7.grid hl hr).mono ?_
  rintro e w8 ⟨rfl, hb8⟩
  have b8 : Below w.heap.size w w8 := b7.trans (hb8.mono b7.size)
  go_wp2
  go_ret
  exact ⟨rfl, b8⟩

end Go.Proofs.Ytiffjeclpgcabaa
