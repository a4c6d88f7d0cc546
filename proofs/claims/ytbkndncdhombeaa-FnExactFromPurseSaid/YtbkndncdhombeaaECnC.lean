/- The exact law of FromPurse. -/
import Derived.Test.YtbkndncdhombeaaOwnI
import Derived.Test.YtbkndncdhombeaaPurI
import Derived.Test.YtbkndncdhombeaaOwn
namespace Go.Proofs.Ytbkndncdhombeaa
open Go.RowKit

set_option maxRecDepth 100000 in
set_option maxHeartbeats 3200000 in
theorem FnExactFromPurse_walk (v : Value) (cs : List Int) (u : Value) (ps : List Int) (a : Int) (w : World) (hv : IsInts w v cs) (hl : cs.length ≤ 9223372036854775807) (_hf : Fits cs) (hu : IsInts w u ps) (hm : ps.length ≤ 9223372036854775807) (_hg : Fits ps) (_ha : -9223372036854775808 ≤ a ∧ a ≤ 9223372036854775807) :
    Calls Try.prog 14 #[v, u, .int .i64 a] w fun e w' => e = .returned (.bool true) ∧ Below w.heap.size w w' := by
  have hv' := hv
  obtain ⟨av, cap, rfl, _⟩ := hv
  have hu' := hu
  obtain ⟨au, capu, rfl, _⟩ := hu
  by_cases hbig : (1048576 : Int) < (cs.length : Int)
  · go_enter Try.func14, Try.ntmps14
    go_wp2
    go_ret
    exact ⟨rfl, Below.refl _ _⟩
  have hl2 : cs.length ≤ 1048576 := by omega
  by_cases hbig2 : (1048576 : Int) < (ps.length : Int)
  · go_enter Try.func14, Try.ntmps14
    go_wp2
    go_ret
    exact ⟨rfl, Below.refl _ _⟩
  have hm2 : ps.length ≤ 1048576 := by omega
  go_enter Try.func14, Try.ntmps14
  go_wp2_with fail
  refine (toIntS_any _ cs _ hv' hl2).mono ?_
  rintro e w1 ⟨v1, rfl, ho1, b1⟩
  go_wp2_with fail
  refine (toIntS_any _ ps _ (hu'.below b1) hm2).mono ?_
  rintro e w1b ⟨u1, rfl, hq1, b1b⟩
  have ho1' := ho1.below b1b
  have b1c : Below w.heap.size w w1b := b1.trans (b1b.mono b1.size)
  go_wp2_with fail
  refine (FromPurse_spec _ _ cs ps a _ ho1'.ints hl hq1.ints hm).mono ?_
  rintro e w2 ⟨rfl, hb2⟩
  have b2 : Below w.heap.size w w2 := b1c.trans (hb2.mono b1c.size)
  go_wp2_with fail
  refine (toIntS_any _ cs _ (hv'.below b2) hl2).mono ?_
  rintro e w3 ⟨v3, rfl, ho3, hb3⟩
  have b3 : Below w.heap.size w w3 := b2.trans (hb3.mono b2.size)
  go_wp2_with fail
  refine (toIntS_any _ ps _ (hu'.below b3) hm2).mono ?_
  rintro e w3b ⟨u3, rfl, hq3, hb3b⟩
  have ho3' := ho3.below hb3b
  have b3b : Below w.heap.size w w3b := b3.trans (hb3b.mono b3.size)
  go_wp2_with fail
  refine (FromPurse_impl _ _ cs ps a _ ho3'.ints hl hq3.ints hm).mono ?_
  rintro e w4 ⟨rfl, hb4⟩
  have b4 : Below w.heap.size w w4 := b3b.trans (hb4.mono b3b.size)
  have o3b := ho3'.below hb4
  have q3b := hq3.below hb4
  go_wp2_with fail
  refine (toIntS_any _ cs _ (hv'.below b4) hl2).mono ?_
  rintro e w5 ⟨v5, rfl, ho5, hb5⟩
  have b5 : Below w.heap.size w w5 := b4.trans (hb5.mono b4.size)
  have o3c := o3b.below hb5
  have q3c := q3b.below hb5
  go_wp2_with fail
  refine (eqIntS_any _ _ _ _ _ o3c.ints ho5.ints hl).mono ?_
  rintro e w6 ⟨rfl, hb6⟩
  have b6 : Below w.heap.size w w6 := b5.trans (hb6.mono b5.size)
  have q3d := q3c.below hb6
  go_wp2_with fail
  refine (toIntS_any _ ps _ (hu'.below b6) hm2).mono ?_
  rintro e w7 ⟨u7, rfl, hq7, hb7⟩
  have b7 : Below w.heap.size w w7 := b6.trans (hb7.mono b6.size)
  have q3e := q3d.below hb7
  go_wp2_with fail
  refine (eqIntS_any _ _ _ _ _ q3e.ints hq7.ints hm).mono ?_
  rintro e w8 ⟨rfl, hb8⟩
  have b8 : Below w.heap.size w w8 := b7.trans (hb8.mono b7.size)
  go_wp2
  go_ret
  exact ⟨rfl, b8⟩

end Go.Proofs.Ytbkndncdhombeaa
