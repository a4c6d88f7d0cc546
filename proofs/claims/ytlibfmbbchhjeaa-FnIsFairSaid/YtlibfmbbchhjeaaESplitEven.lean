/- The law FnExactSplitEven: the walk. -/
import Derived.Test.YtlibfmbbchhjeaaOwnI
import Derived.Test.YtlibfmbbchhjeaaOwnH
import Derived.Test.YtlibfmbbchhjeaaSplit
namespace Go.Proofs.Ytlibfmbbchhjeaa
open Go.RowKit

theorem Own.apart_of_base {w w' : World} {B : Nat} {u v : Value} {us vs : List Int} (hu : Own w B u us) (hv : Own w' w.heap.size v vs) : Apart u v := by
  by_cases h : u.ownBlock = none
  · exact .inl h
  · refine .inr fun e => ?_
    cases hb : u.ownBlock with
    | none => exact h hb
    | some k =>
      have h1 := (hu.lt k hb).2
      have h2 := (hv.lt k (by rw [← e]; exact hb)).1
      omega

set_option maxHeartbeats 1600000 in
theorem FnExactSplitEven_walk (t n : Int) (w : World) (_ht : -9223372036854775808 ≤ t ∧ t ≤ 9223372036854775807) (_hn : -9223372036854775808 ≤ n ∧ n ≤ 9223372036854775807) :
    Calls Try.prog 13 #[.int .i64 t, .int .i64 n] w fun e w' => e = .returned (.bool true) ∧ Below w.heap.size w w' := by
  have hL := splitL_length t n
  go_enter Try.func13, Try.ntmps13
  go_wp2_with fail
  refine (SplitEven_spec t n _).mono ?_
  rintro e w1 ⟨v1, rfl, ho1, hb1⟩
  go_wp2_with fail
  refine (SplitEven_impl t n _).mono ?_
  rintro e w2 ⟨v2, rfl, ho2, hb2⟩
  have ap : Apart v1 v2 := ho1.apart_of_base ho2
  have ho1b := ho1.below hb2
  have hb02 : Below w.heap.size w w2 := hb1.trans (hb2.mono hb1.size)
  go_wp2_with fail
  refine (eqIntS_any _ _ _ _ _ ho2.ints ho1b.ints (by omega)).mono ?_
  rintro e w3 ⟨rfl, hb3⟩
  have ho1c := ho1b.below hb3
  have ho2c := (ho2.base hb1.size).below hb3
  have hb03 : Below w.heap.size w w3 := hb02.trans (hb3.mono hb02.size)
  clear ho1 hb1 ho2 hb2 ho1b hb02 hb3
  go_wp2_with fail
  refine (markIntS_any _ _ 1 _ _ ho2c (by omega) (by omega) (by omega)).mono ?_
  rintro e w4 ⟨rfl, ho2d, hg4⟩
  have ho1d := ho1c.kept hg4 ap
  have hb04 : Below w.heap.size w w4 := hb03.trans (ho2c.pushed_below hg4 hb03.size)
  clear ho1c ho2c hb03 hg4
  go_wp2_with fail
  refine (heldIntS_any _ _ 1 _ ho2d.ints (by omega) (by omega) (by omega)).mono ?_
  rintro e w' ⟨rfl, rfl⟩
  have hlt : ¬ (1 + ((splitL t n).length : Int) < 0) := by omega
  have hne : ((1 + ((splitL t n).length : Int)) != (1 + ((splitL t n).length : Int))) = false := by simp
  go_wp2_with fail
  refine (SplitEven_impl t n _).mono ?_
  rintro e w5 ⟨v5, rfl, ho5, hb5⟩
  have ho1e := ho1d.below hb5
  have ho2e := ho2d.below hb5
  have hb05 : Below w.heap.size w w5 := hb04.trans (hb5.mono hb04.size)
  go_wp2_with fail
  refine (eqIntS_any _ _ _ _ _ ho5.ints ho1e.ints (by omega)).mono ?_
  rintro e w6 ⟨rfl, hb6⟩
  have ho2f := ho2e.below hb6
  have hb06 : Below w.heap.size w w6 := hb05.trans (hb6.mono hb05.size)
  go_wp2_with fail
  refine (heldIntS_any _ _ 1 _ ho2f.ints (by omega) (by omega) (by omega)).mono ?_
  rintro e w' ⟨rfl, rfl⟩
  go_wp2
  go_ret
  exact ⟨rfl, hb06⟩

end Go.Proofs.Ytlibfmbbchhjeaa
