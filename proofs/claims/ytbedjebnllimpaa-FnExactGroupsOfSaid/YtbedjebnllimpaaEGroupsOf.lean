/- The law FnExactGroupsOf: the walk: it answers true and leaves what was there, whatever the balances. -/
import Derived.Test.YtbedjebnllimpaaOwnI
import Derived.Test.YtbedjebnllimpaaGrpI
import Derived.Test.YtbedjebnllimpaaOwn
namespace Go.Proofs.Ytbedjebnllimpaa
open Go.RowKit

set_option maxHeartbeats 800000 in
theorem FnExactGroupsOf_walk (v : Value) (xs : List Int) (w : World) (hv : IsInts w v xs) (hl : xs.length ≤ 9223372036854775807) (_hf : Fits xs) :
    Calls Try.prog 14 #[v] w fun e w' => e = .returned (.bool true) ∧ Below w.heap.size w w' := by
  have hv' := hv
  obtain ⟨a, cap, rfl, hc⟩ := hv
  clear hc
  by_cases hbig : (1048576 : Int) < (xs.length : Int)
  · go_enter Try.func14, Try.ntmps14
    go_wp2
    go_ret
    exact ⟨rfl, Below.refl _ _⟩
  · have hl2 : xs.length ≤ 1048576 := by omega
    go_enter Try.func14, Try.ntmps14
    go_wp2_with fail
    refine (toIntS_any _ xs _ hv' hl2).mono ?_
    rintro e w1 ⟨v1, rfl, ho1, hb1⟩
    go_wp2_with fail
    refine (GroupsOf_spec _ xs _ ho1.ints hl).mono ?_
    rintro e w1' ⟨rfl, hb1'⟩
    have hbA : Below w.heap.size w w1' := hb1.trans (hb1'.mono hb1.size)
    have hne : (groupsV xs != groupsV xs) = false := by simp
    go_wp2_with fail
    refine (toIntS_any _ xs _ (hv'.below hbA) hl2).mono ?_
    rintro e w2' ⟨v2, rfl, ho2', hb2'⟩
    go_wp2_with fail
    refine (GroupsOf_impl _ xs _ ho2'.ints hl).mono ?_
    rintro e w2 ⟨rfl, hb2⟩
    have ho2 := ho2'.below hb2
    have hb02 : Below w.heap.size w w2 := (hbA.trans (hb2'.mono hbA.size)).trans (hb2.mono (hbA.trans (hb2'.mono hbA.size)).size)
    go_wp2_with fail
    refine (toIntS_any _ xs _ (hv'.below hb02) hl2).mono ?_
    rintro e w3 ⟨v3, rfl, ho3, hb3⟩
    have hb03 : Below w.heap.size w w3 := hb02.trans (hb3.mono hb02.size)
    go_wp2_with fail
    refine (eqIntS_any _ _ xs xs _ (ho2.below hb3).ints ho3.ints hl).mono ?_
    rintro e w4 ⟨rfl, hb4⟩
    have hb04 : Below w.heap.size w w4 := hb03.trans (hb4.mono hb03.size)
    go_wp2
    go_ret
    exact ⟨rfl, hb04⟩

end Go.Proofs.Ytbedjebnllimpaa
