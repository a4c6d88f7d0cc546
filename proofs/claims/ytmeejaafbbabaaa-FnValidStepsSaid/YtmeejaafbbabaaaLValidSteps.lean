/- The law FnValidSteps: the walk. -/
import Derived.Test.YtmeejaafbbabaaaDrawsS
import Derived.Test.YtmeejaafbbabaaaTaxL
import Derived.Test.YtmeejaafbbabaaaAnsS
namespace Go.Proofs.Ytmeejaafbbabaaa
open Go.RowKit

theorem OwnS.cap {w : World} {B n cap : Nat} {a : Option Addr} {st : List (Int × Int)} (h : OwnS w B (.slice a n cap) st) : st.length ≤ cap := by
  rcases h.2 with ⟨e, hn⟩ | ⟨g, c, cur, e, _, _, h1, _⟩
  · omega
  · simp only [Value.slice.injEq] at e
    omega

set_option maxHeartbeats 1600000 in
theorem FnValidSteps_walk (a : Option Addr) (n cap : Nat) (w : World) (h : IsBytes w a n) (hc : n ≤ cap) :
    Calls Try.prog 3 #[.slice a n cap] w fun e w' => e = .returned (.bool true) ∧ Below w.heap.size w w' := by
  by_cases hbig : (1048576 : Int) < (n : Int)
  · go_enter Try.func3, Try.ntmps3
    go_wp2
    go_ret
    exact ⟨rfl, Below.refl _ _⟩
  · go_enter Try.func3, Try.ntmps3
    go_wp2_with fail
    refine (DrawValidSteps_any a n cap _ h hc).mono ?_
    rintro e w1 ⟨v, st, rfl, o1, l6, b1⟩
    have s1 := o1.steps
    obtain ⟨av, cv, rfl, _⟩ := id s1
    have hcv := o1.cap
    clear o1 h
    go_wp2_with fail
    refine (ValidSteps_impl _ st _ s1 (by omega)).mono ?_
    rintro e w2 ⟨rfl, hb2⟩
    have b2 := b1.trans (hb2.mono b1.size)
    have s2 := s1.below hb2
    clear hb2 s1
    cases hv : vSteps st
    · have HV := Lib.hid hv
      clear hv
      go_wp2_with fail
      refine (ValidSteps_spec _ st _ s2 (by omega)).mono ?_
      rintro e w3 ⟨rfl, hd3⟩
      rw [HV.out]
      have b3 := b2.trans (hd3.below.mono b2.size)
      have s3 := s2.below hd3.below
      clear s2 hd3
      go_wp2_with fail
      refine (ValidSteps_spec _ st _ s3 (by omega)).mono ?_
      rintro e w4 ⟨rfl, hd4⟩
      rw [HV.out]
      have b4 := b3.trans (hd4.below.mono b3.size)
      go_wp2
      go_ret
      exact ⟨rfl, b4⟩
    · have HV := Lib.hid hv
      have hs := vSteps_iff.1 hv
      have hl1 := hs.len1
      clear hv
      go_wp2_with fail
      refine (ValidSteps_spec _ st _ s2 (by omega)).mono ?_
      rintro e w3 ⟨rfl, hd3⟩
      rw [HV.out]
      have b3 := b2.trans (hd3.below.mono b2.size)
      have s3 := s2.below hd3.below
      clear s2 hd3
      by_cases hn : st.length = 1
      · have hne : ((st.length : Int) == 1) = true := by simp [hn]
        have HN := Lib.hid hn
        clear hn
        go_wp2
        go_ret
        exact ⟨rfl, b3⟩
      · have hne : ((st.length : Int) == 1) = false := by simp; omega
        have m1 : 1 ≤ (st.length : Int) := by omega
        have m2 : ((st.length : Int) - 1).toNat = st.length - 1 := by omega
        have m3 : (st.length : Int) - 1 ≤ (cv : Int) := by omega
        have m0 : 0 ≤ (st.length : Int) - 1 := by omega
        go_wp2_with fail
        have ht : (st.take (st.length - 1)).length = st.length - 1 := by simp
        have s4 := s3.take (st.length - 1) (by omega)
        have hvt := vSteps_iff.2 (hs.take (st.length - 1) (by omega) (by omega))
        refine (ValidSteps_impl _ (st.take (st.length - 1)) _ s4 (by omega)).mono ?_
        rintro e w4 ⟨rfl, hb4⟩
        rw [hvt]
        go_wp2
        go_ret
        exact ⟨rfl, b3.trans (hb4.mono b3.size)⟩

end Go.Proofs.Ytmeejaafbbabaaa
