/- The law FnNetOf: the walk. -/
import Derived.Test.YtmeejaafbbabaaaDrawsS
import Derived.Test.YtmeejaafbbabaaaTaxL
import Derived.Test.YtmeejaafbbabaaaAnsS
namespace Go.Proofs.Ytmeejaafbbabaaa
open Go.RowKit

set_option maxHeartbeats 1600000 in
theorem FnNetOf_walk (a : Option Addr) (n cap : Nat) (w : World) (h : IsBytes w a n) (hc : n ≤ cap) :
    Calls Try.prog 5 #[.slice a n cap] w fun e w' => e = .returned (.bool true) ∧ Below w.heap.size w w' := by
  by_cases hbig : (1048576 : Int) < (n : Int)
  · go_enter Try.func5, Try.ntmps5
    go_wp2
    go_ret
    exact ⟨rfl, Below.refl _ _⟩
  · go_enter Try.func5, Try.ntmps5
    go_wp2_with fail
    refine (DrawNetOf_any a n cap _ h hc).mono ?_
    rintro e w1 ⟨v, st, x, rfl, o1, l6, hx, b1⟩
    have s1 := o1.steps
    clear o1 h
    cases hcan : canT st x
    · have E : Hid (netA st x = -1) := by show netA st x = -1; rw [netA, hcan]; rfl
      clear hcan
      go_wp2_with fail
      refine (NetOf_impl _ st x _ s1 (by omega)).mono ?_
      rintro e w2 ⟨rfl, hb2⟩
      rw [E.out]
      have b2 := b1.trans (hb2.mono b1.size)
      have s2 := s1.below hb2
      clear hb2 s1
      go_wp2_with fail
      refine (NetOf_spec _ st x _ s2 (by omega)).mono ?_
      rintro e w3 ⟨rfl, hb3⟩
      rw [E.out]
      have b3 := b2.trans (hb3.below.mono b2.size)
      have s3 := s2.below hb3.below
      clear hb3 s2
      go_wp2_with fail
      refine (NetOf_spec _ st x _ s3 (by omega)).mono ?_
      rintro e w4 ⟨rfl, hb4⟩
      rw [E.out]
      have b4 := b3.trans (hb4.below.mono b3.size)
      have s4 := s3.below hb4.below
      clear hb4 s3
      go_wp2
      go_ret
      exact ⟨rfl, b4⟩
    · obtain ⟨hs, hx0⟩ := canT_true hcan
      have E : Hid (netA st x = netT st x) := by show netA st x = netT st x; rw [netA, hcan]; rfl
      have hv := (canT_iff.1 hcan).1
      have hb := hs.net_bounds hx0.1
      go_wp2_with fail
      refine (NetOf_impl _ st x _ s1 (by omega)).mono ?_
      rintro e w2 ⟨rfl, hb2⟩
      rw [E.out]
      have b2 := b1.trans (hb2.mono b1.size)
      have s2 := s1.below hb2
      clear hb2 s1
      go_wp2_with fail
      refine (NetOf_spec _ st x _ s2 (by omega)).mono ?_
      rintro e w3 ⟨rfl, hb3⟩
      rw [E.out]
      have b3 := b2.trans (hb3.below.mono b2.size)
      have s3 := s2.below hb3.below
      clear hb3 s2
      have hneg : ¬ netT st x < 0 := by omega
      have hle : netT st x ≤ x := hb.2
      by_cases hm : x = 2000
      · have hme : (x == 2000) = true := by simp [hm]
        have HM := Lib.hid hm
        clear hm
        go_wp2
        go_ret
        exact ⟨rfl, b3⟩
      · have hme : (x == 2000) = false := by simp [hm]
        have hsucc := hs.net_succ hx0.1
        have E2 : Hid (netA st (x + 1) = netT st (x + 1)) := by
          show netA st (x + 1) = _
          rw [netA, if_pos (canT_iff.2 ⟨hv, by omega, by omega⟩)]
        clear hm hcan hv
        go_wp2_with fail
        refine (NetOf_impl _ st (x + 1) _ s3 (by omega)).mono ?_
        rintro e w4 ⟨rfl, hb4⟩
        rw [E2.out]
        have b4 := b3.trans (hb4.mono b3.size)
        have s4 := s3.below hb4
        clear hb4 s3
        rcases hsucc with e | e
        · rw [e]
          have d0 : (netT st x - netT st x == 0) = true := by simp
          have d1 : netT st x - netT st x = 0 := by omega
          clear e
          go_wp2
          go_ret
          exact ⟨rfl, b4⟩
        · rw [e]
          have d1 : netT st x + 1 - netT st x = 1 := by omega
          clear e
          go_wp2
          go_ret
          exact ⟨rfl, b4⟩

end Go.Proofs.Ytmeejaafbbabaaa
