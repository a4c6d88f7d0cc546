/- The law FnGrossFor: the walk. -/
import Derived.Test.YtmeejaafbbabaaaDrawsS
import Derived.Test.YtmeejaafbbabaaaTaxL
import Derived.Test.YtmeejaafbbabaaaGrossS
namespace Go.Proofs.Ytmeejaafbbabaaa
open Go.RowKit

set_option maxHeartbeats 1600000 in
theorem FnGrossFor_walk (a : Option Addr) (n cap : Nat) (w : World) (h : IsBytes w a n) (hc : n ≤ cap) :
    Calls Try.prog 6 #[.slice a n cap] w fun e w' => e = .returned (.bool true) ∧ Below w.heap.size w w' := by
  by_cases hbig : (1048576 : Int) < (n : Int)
  · go_enter Try.func6, Try.ntmps6
    go_wp2
    go_ret
    exact ⟨rfl, Below.refl _ _⟩
  · go_enter Try.func6, Try.ntmps6
    go_wp2_with fail
    refine (DrawGrossFor_any a n cap _ h hc).mono ?_
    rintro e w1 ⟨v, st, x, rfl, o1, l6, hx, b1⟩
    have s1 := o1.steps
    clear o1 h
    obtain ⟨g, b, hE⟩ : ∃ g b, grossA st x = (g, b) := ⟨_, _, rfl⟩
    have E := Lib.hid hE
    cases b
    · clear hE
      go_wp2_with fail
      refine (GrossFor_impl _ st x _ s1 (by omega)).mono ?_
      rintro e w2 ⟨rfl, hb2⟩
      rw [E.out]
      have b2 := b1.trans (hb2.mono b1.size)
      have s2 := s1.below hb2
      clear hb2 s1
      go_wp2_with fail
      refine (GrossFor_spec _ st x _ s2 (by omega)).mono ?_
      rintro e w3 ⟨rfl, hb3⟩
      rw [E.out]
      have b3 := b2.trans (hb3.below.mono b2.size)
      have s3 := s2.below hb3.below
      clear hb3 s2
      go_wp2
      go_ret
      exact ⟨rfl, b3⟩
    · obtain ⟨hcan, hg, hnet, hlow⟩ := grossA_facts hE
      have hv := (canT_iff.1 hcan).1
      obtain ⟨hs, hx0⟩ := canT_true hcan
      have E2 : Hid (netA st g = x) := by
        show netA st g = x
        rw [netA, if_pos (canT_iff.2 ⟨hv, hg.1, hg.2⟩), hnet]
      have HL := Lib.hid hlow
      clear hE hnet hlow hcan
      go_wp2_with fail
      refine (GrossFor_impl _ st x _ s1 (by omega)).mono ?_
      rintro e w2 ⟨rfl, hb2⟩
      rw [E.out]
      have b2 := b1.trans (hb2.mono b1.size)
      have s2 := s1.below hb2
      clear hb2 s1
      go_wp2_with fail
      refine (GrossFor_spec _ st x _ s2 (by omega)).mono ?_
      rintro e w3 ⟨rfl, hb3⟩
      rw [E.out]
      have b3 := b2.trans (hb3.below.mono b2.size)
      have s3 := s2.below hb3.below
      clear hb3 s2
      go_wp2_with fail
      refine (NetOf_impl _ st g _ s3 (by omega)).mono ?_
      rintro e w4 ⟨rfl, hb4⟩
      rw [E2.out]
      have b4 := b3.trans (hb4.mono b3.size)
      have s4 := s3.below hb4
      clear hb4 s3
      by_cases hm : g = 0
      · have hme : (g == 0) = true := by simp [hm]
        have HM := Lib.hid hm
        clear hm
        go_wp2
        go_ret
        exact ⟨rfl, b4⟩
      · have hme : (g == 0) = false := by simp [hm]
        have g1 : 1 ≤ g := by omega
        have hlt := HL.out (by omega)
        have E3 : Hid (netA st (g - 1) = netT st (g - 1)) := by
          show netA st (g - 1) = _
          rw [netA, if_pos (canT_iff.2 ⟨hv, by omega, by omega⟩)]
        clear hm hv
        go_wp2_with fail
        refine (NetOf_impl _ st (g - 1) _ s4 (by omega)).mono ?_
        rintro e w5 ⟨rfl, hb5⟩
        rw [E3.out]
        have b5 := b4.trans (hb5.mono b4.size)
        have s5 := s4.below hb5
        clear hb5 s4
        go_wp2
        go_ret
        exact ⟨rfl, b5⟩

end Go.Proofs.Ytmeejaafbbabaaa
