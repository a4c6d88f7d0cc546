/- The law FnExactBillShares: the walk. -/
import Derived.Test.YtbedjebnllimpaaOwnI
import Derived.Test.YtbedjebnllimpaaOwnH
import Derived.Test.YtbedjebnllimpaaBillI
import Derived.Test.YtbedjebnllimpaaAp
namespace Go.Proofs.Ytbedjebnllimpaa
open Go.RowKit

theorem billL_length (xs : List Int) : (billL xs).length ≤ xs.length := by
  unfold billL
  split
  · simp
  · simp

set_option maxHeartbeats 1600000 in
theorem FnExactBillShares_walk (v : Value) (xs : List Int) (w : World) (hv : IsInts w v xs) (hl : xs.length ≤ 9223372036854775807) (_hf : Fits xs) :
    Calls Try.prog 18 #[v] w fun e w' => e = .returned (.bool true) ∧ Below w.heap.size w w' := by
  have hL := billL_length xs
  have hv' := hv
  obtain ⟨a, cap, rfl, hc⟩ := hv
  clear hc
  by_cases hbig : (1048576 : Int) < (xs.length : Int)
  · go_enter Try.func18, Try.ntmps18
    go_wp2
    go_ret
    exact ⟨rfl, Below.refl _ _⟩
  · have hl2 : xs.length ≤ 1048576 := by omega
    go_enter Try.func18, Try.ntmps18
    go_wp2_with fail
    refine (toIntS_any _ xs _ hv' hl2).mono ?_
    rintro e w1 ⟨v1, rfl, ho1, hb1⟩
    go_wp2_with fail
    refine (BillShares_spec _ xs _ ho1.ints hl).mono ?_
    rintro e w2 ⟨v2, rfl, ho2, hb2⟩
    have b2 : Below w.heap.size w w2 := hb1.trans (hb2.mono hb1.size)
    clear ho1 hb2
    go_wp2_with fail
    refine (toIntS_any _ xs _ (hv'.below b2) hl2).mono ?_
    rintro e w3 ⟨v3, rfl, ho3, hb3⟩
    have ap23 : Apart v2 v3 := ho2.apart_of_base ho3
    have o2a := ho2.below hb3
    have b3 : Below w.heap.size w w3 := b2.trans (hb3.mono b2.size)
    go_wp2_with fail
    refine (BillShares_impl _ xs _ ho3.ints hl).mono ?_
    rintro e w4 ⟨v4, rfl, ho4, hb4⟩
    have ap24 : Apart v2 v4 := o2a.apart_of_base ho4
    have ap34 : Apart v3 v4 := ho3.apart_of_base ho4
    have o2b := o2a.below hb4
    have o3a := ho3.below hb4
    have b4 : Below w.heap.size w w4 := b3.trans (hb4.mono b3.size)
    clear ho2 o2a ho3 hb3
    go_wp2_with fail
    refine (eqIntS_any _ _ _ _ _ ho4.ints o2b.ints (by omega)).mono ?_
    rintro e w5 ⟨rfl, hb5⟩
    have o2c := o2b.below hb5
    have o3b := o3a.below hb5
    have o4a := ho4.below hb5
    have b5 : Below w.heap.size w w5 := b4.trans (hb5.mono b4.size)
    clear ho4 o2b o3a hb4 hb5
    go_wp2_with fail
    refine (toIntS_any _ xs _ (hv'.below b5) hl2).mono ?_
    rintro e w6 ⟨v6, rfl, ho6, hb6⟩
    have o2d := o2c.below hb6
    have o3c := o3b.below hb6
    have o4b := o4a.below hb6
    have b6 : Below w.heap.size w w6 := b5.trans (hb6.mono b5.size)
    clear o2c o3b o4a hb6
    go_wp2_with fail
    refine (eqIntS_any _ _ _ _ _ o3c.ints ho6.ints hl).mono ?_
    rintro e w7 ⟨rfl, hb7⟩
    have o2e := o2d.below hb7
    have o3d := (o3c.below hb7).base b2.size
    have o4c := (o4b.below hb7).base b3.size
    have b7 : Below w.heap.size w w7 := b6.trans (hb7.mono b6.size)
    clear o2d o3c o4b ho6 hb7
    go_wp2_with fail
    refine (markIntS_any _ _ 1 _ _ o3d hl2 (by omega) (by omega)).mono ?_
    rintro e w8 ⟨rfl, _, hg8⟩
    have o2f := o2e.kept hg8 ap23
    have o4d := o4c.kept hg8 ap34.symm
    have b8 : Below w.heap.size w w8 := b7.trans (o3d.pushed_below hg8 b7.size)
    have k0 : ¬ (1 + (xs.length : Int) < 0) := by omega
    have k0' : decide (1 + (xs.length : Int) < 0) = false := decide_eq_false k0
    clear o2e o3d o4c hg8
    go_wp2_with fail
    refine (eqIntS_any _ _ _ _ _ o4d.ints o2f.ints (by omega)).mono ?_
    rintro e w9 ⟨rfl, hb9⟩
    have o2g := o2f.below hb9
    have o4e := o4d.below hb9
    have b9 : Below w.heap.size w w9 := b8.trans (hb9.mono b8.size)
    clear o2f o4d hb9
    go_wp2_with fail
    refine (markIntS_any _ _ 1 _ _ o4e (by omega) (by omega) (by omega)).mono ?_
    rintro e w10 ⟨rfl, o4f, hg10⟩
    have o2h := o2g.kept hg10 ap24
    have b10 : Below w.heap.size w w10 := b9.trans (o4e.pushed_below hg10 b9.size)
    clear o2g o4e hg10
    go_wp2_with fail
    refine (heldIntS_any _ _ 1 _ o4f.ints (by omega) (by omega) (by omega)).mono ?_
    rintro e w' ⟨rfl, rfl⟩
    have hlt : ¬ (1 + ((billL xs).length : Int) < 0) := by omega
    have hne : ((1 + ((billL xs).length : Int)) != (1 + ((billL xs).length : Int))) = false := by simp
    go_wp2_with fail
    refine (toIntS_any _ xs _ (hv'.below b10) hl2).mono ?_
    rintro e w11 ⟨v11, rfl, ho11, hb11⟩
    have o2i := o2h.below hb11
    have o4g := o4f.below hb11
    have b11 : Below w.heap.size w w11 := b10.trans (hb11.mono b10.size)
    clear o2h o4f hb11
    go_wp2_with fail
    refine (BillShares_impl _ xs _ ho11.ints hl).mono ?_
    rintro e w12 ⟨v12, rfl, ho12, hb12⟩
    have o2j := o2i.below hb12
    have o4h := o4g.below hb12
    have b12 : Below w.heap.size w w12 := b11.trans (hb12.mono b11.size)
    clear o2i o4g hb12
    go_wp2_with fail
    refine (eqIntS_any _ _ _ _ _ ho12.ints o2j.ints (by omega)).mono ?_
    rintro e w13 ⟨rfl, hb13⟩
    have o4i := o4h.below hb13
    have b13 : Below w.heap.size w w13 := b12.trans (hb13.mono b12.size)
    go_wp2_with fail
    refine (heldIntS_any _ _ 1 _ o4i.ints (by omega) (by omega) (by omega)).mono ?_
    rintro e w' ⟨rfl, rfl⟩
    go_wp2
    go_ret
    exact ⟨rfl, b13⟩

end Go.Proofs.Ytbedjebnllimpaa
