/- The law FnExactIsRising: the walk. -/
import Derived.Test.YtmeejaafbbabaaaAnsS
import Derived.Test.YtmeejaafbbabaaaEqS
namespace Go.Proofs.Ytmeejaafbbabaaa
open Go.RowKit

set_option maxHeartbeats 1600000 in
theorem FnExactIsRising_walk (v : Value) (st : List (Int × Int)) (w : World) (hv : IsSteps w v st) (hl : st.length ≤ 9223372036854775807) :
    Calls Try.prog 16 #[v] w fun e w' => e = .returned (.bool true) ∧ Below w.heap.size w w' := by
  have hv' := hv
  obtain ⟨a, cap, rfl, hc⟩ := hv
  clear hc
  by_cases hbig : (1048576 : Int) < (st.length : Int)
  · go_enter Try.func16, Try.ntmps16
    go_wp2_with fail
    refine (szStepS_over _ _ _ _ _ (by omega) hl hbig).mono ?_
    rintro e w1 ⟨rfl, rfl⟩
    go_wp2
    go_ret
    exact ⟨rfl, Below.refl _ _⟩
  · have hl2 : st.length ≤ 1048576 := by omega
    go_enter Try.func16, Try.ntmps16
    go_wp2_with fail
    refine (szStepS_fit _ _ _ _ _ (by omega) (by omega)).mono ?_
    rintro e w1 ⟨rfl, rfl⟩
    have hsz : ¬ ((1048576 : Int) - (st.length : Int) < 0) := by omega
    go_wp2_with fail
    refine (toStepS_any _ st _ hv' hl2).mono ?_
    rintro e w1 ⟨v1, rfl, o1, b1⟩
    go_wp2_with fail
    refine (IsRising_spec _ st _ o1.steps hl).mono ?_
    rintro e w2 ⟨rfl, hd2⟩
    have b2 : Below w.heap.size w w2 := b1.trans (hd2.below.mono b1.size)
    clear o1 hd2
    go_wp2_with fail
    refine (toStepS_any _ st _ (hv'.below b2) hl2).mono ?_
    rintro e w3 ⟨v3, rfl, o3, hb3⟩
    have b3 : Below w.heap.size w w3 := b2.trans (hb3.mono b2.size)
    clear hb3
    go_wp2_with fail
    refine (IsRising_impl _ st _ o3.steps hl).mono ?_
    rintro e w4 ⟨rfl, hb4⟩
    have b4 : Below w.heap.size w w4 := b3.trans (hb4.mono b3.size)
    have o4 := o3.below hb4
    clear o3 hb4
    go_wp2_with fail
    refine (toStepS_any _ st _ (hv'.below b4) hl2).mono ?_
    rintro e w5 ⟨v5, rfl, o5, hb5⟩
    have b5 : Below w.heap.size w w5 := b4.trans (hb5.mono b4.size)
    have o4a := o4.below hb5
    clear o4 hb5
    go_wp2_with fail
    refine (eqStepS_any _ _ st st _ o4a.steps o5.steps hl).mono ?_
    rintro e w6 ⟨rfl, hb6⟩
    have b6 : Below w.heap.size w w6 := b5.trans (hb6.mono b5.size)
    go_wp2
    go_ret
    exact ⟨rfl, b6⟩

end Go.Proofs.Ytmeejaafbbabaaa
