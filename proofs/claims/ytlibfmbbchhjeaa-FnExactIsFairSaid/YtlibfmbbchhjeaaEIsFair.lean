/- The law FnExactIsFair: the walk. -/
import Derived.Test.YtlibfmbbchhjeaaOwnI
import Derived.Test.YtlibfmbbchhjeaaFair
namespace Go.Proofs.Ytlibfmbbchhjeaa
open Go.RowKit

set_option maxHeartbeats 1600000 in
theorem FnExactIsFair_walk (t : Int) (v : Value) (xs : List Int) (u : Value) (ys : List Int) (w : World) (_ht : -9223372036854775808 ≤ t ∧ t ≤ 9223372036854775807) (hv : IsInts w v xs) (hl : xs.length ≤ 9223372036854775807) (_hf : Fits xs) (hu : IsInts w u ys) (hlu : ys.length ≤ 9223372036854775807) (hfu : Fits ys) :
    Calls Try.prog 14 #[.int .i64 t, v, u] w fun e w' => e = .returned (.bool true) ∧ Below w.heap.size w w' := by
  have hv' := hv
  have hu' := hu
  obtain ⟨a, cap, rfl, hc⟩ := hv
  obtain ⟨a2, cap2, rfl, hc2⟩ := hu
  clear hc hc2
  by_cases hbig : (1048576 : Int) < (xs.length : Int)
  · go_enter Try.func14, Try.ntmps14
    go_wp2
    go_ret
    exact ⟨rfl, Below.refl _ _⟩
  · by_cases hbig2 : (1048576 : Int) < (ys.length : Int)
    · go_enter Try.func14, Try.ntmps14
      go_wp2
      go_ret
      exact ⟨rfl, Below.refl _ _⟩
    · have hl2 : xs.length ≤ 1048576 := by omega
      have hlu2 : ys.length ≤ 1048576 := by omega
      go_enter Try.func14, Try.ntmps14
      go_wp2_with fail
      refine (toIntS_any _ xs _ hv' hl2).mono ?_
      rintro e w1 ⟨v1, rfl, ho1, b1⟩
      go_wp2_with fail
      refine (toIntS_any _ ys _ (hu'.below b1) hlu2).mono ?_
      rintro e w2 ⟨v2, rfl, ho2, hb2⟩
      have b2 : Below w.heap.size w w2 := b1.trans (hb2.mono b1.size)
      go_wp2_with fail
      refine (IsFair_spec t _ _ xs ys _ (ho1.below hb2).ints hl ho2.ints hfu).mono ?_
      rintro e w' ⟨rfl, rfl⟩
      clear ho1 ho2 hb2
      go_wp2_with fail
      refine (toIntS_any _ xs _ (hv'.below b2) hl2).mono ?_
      rintro e w3 ⟨v3, rfl, ho3, hb3⟩
      have b3 : Below w.heap.size w w3 := b2.trans (hb3.mono b2.size)
      go_wp2_with fail
      refine (toIntS_any _ ys _ (hu'.below b3) hlu2).mono ?_
      rintro e w4 ⟨v4, rfl, ho4, hb4⟩
      have b4 : Below w.heap.size w w4 := b3.trans (hb4.mono b3.size)
      have o3 := ho3.below hb4
      clear ho3 hb3 hb4
      go_wp2_with fail
      refine (IsFair_impl t _ _ xs ys _ o3.ints hl ho4.ints hlu hfu).mono ?_
      rintro e w5 ⟨rfl, hb5⟩
      have b5 : Below w.heap.size w w5 := b4.trans (hb5.mono b4.size)
      have o3a := o3.below hb5
      have o4 := ho4.below hb5
      clear o3 ho4 hb5
      go_wp2_with fail
      refine (toIntS_any _ xs _ (hv'.below b5) hl2).mono ?_
      rintro e w6 ⟨v6, rfl, ho6, hb6⟩
      have b6 : Below w.heap.size w w6 := b5.trans (hb6.mono b5.size)
      have o3b := o3a.below hb6
      have o4a := o4.below hb6
      clear o3a o4 hb6
      go_wp2_with fail
      refine (eqIntS_any _ _ xs xs _ o3b.ints ho6.ints hl).mono ?_
      rintro e w7 ⟨rfl, hb7⟩
      have b7 : Below w.heap.size w w7 := b6.trans (hb7.mono b6.size)
      have o4b := o4a.below hb7
      clear o3b o4a ho6 hb7
      go_wp2_with fail
      refine (toIntS_any _ ys _ (hu'.below b7) hlu2).mono ?_
      rintro e w8 ⟨v8, rfl, ho8, hb8⟩
      have b8 : Below w.heap.size w w8 := b7.trans (hb8.mono b7.size)
      have o4c := o4b.below hb8
      clear o4b hb8
      go_wp2_with fail
      refine (eqIntS_any _ _ ys ys _ o4c.ints ho8.ints hlu).mono ?_
      rintro e w9 ⟨rfl, hb9⟩
      have b9 : Below w.heap.size w w9 := b8.trans (hb9.mono b8.size)
      go_wp2
      go_ret
      exact ⟨rfl, b9⟩

end Go.Proofs.Ytlibfmbbchhjeaa
