/- The law FnHundredTax: the walk. -/
import Derived.Test.YtmeejaafbbabaaaDrawsS
import Derived.Test.YtmeejaafbbabaaaTaxL
import Derived.Test.YtmeejaafbbabaaaAnsS
namespace Go.Proofs.Ytmeejaafbbabaaa
open Go.RowKit

set_option maxHeartbeats 1600000 in
theorem FnHundredTax_walk (a : Option Addr) (n cap : Nat) (w : World) (h : IsBytes w a n) (hc : n ≤ cap) :
    Calls Try.prog 4 #[.slice a n cap] w fun e w' => e = .returned (.bool true) ∧ Below w.heap.size w w' := by
  by_cases hbig : (1048576 : Int) < (n : Int)
  · go_enter Try.func4, Try.ntmps4
    go_wp2
    go_ret
    exact ⟨rfl, Below.refl _ _⟩
  · go_enter Try.func4, Try.ntmps4
    go_wp2_with fail
    refine (DrawHundredTax_any a n cap _ h hc).mono ?_
    rintro e w1 ⟨v, st, x, rfl, o1, l6, hx, b1⟩
    have s1 := o1.steps
    clear o1 h
    cases hcan : canT st x
    · have E : Hid (hundA st x = -1) := by show hundA st x = -1; rw [hundA, hcan]; rfl
      clear hcan
      go_wp2_with fail
      refine (HundredTax_impl _ st x _ s1 (by omega)).mono ?_
      rintro e w2 ⟨rfl, hb2⟩
      rw [E.out]
      have b2 := b1.trans (hb2.mono b1.size)
      have s2 := s1.below hb2
      clear hb2 s1
      go_wp2_with fail
      refine (HundredTax_spec _ st x _ s2 (by omega)).mono ?_
      rintro e w3 ⟨rfl, hb3⟩
      rw [E.out]
      have b3 := b2.trans (hb3.below.mono b2.size)
      have s3 := s2.below hb3.below
      clear hb3 s2
      go_wp2_with fail
      refine (HundredTax_spec _ st x _ s3 (by omega)).mono ?_
      rintro e w4 ⟨rfl, hb4⟩
      rw [E.out]
      have b4 := b3.trans (hb4.below.mono b3.size)
      have s4 := s3.below hb4.below
      clear hb4 s3
      go_wp2
      go_ret
      exact ⟨rfl, b4⟩
    · obtain ⟨hs, hx0⟩ := canT_true hcan
      have E : Hid (hundA st x = taxT st x) := by show hundA st x = taxT st x; rw [hundA, hcan]; rfl
      have hv := (canT_iff.1 hcan).1
      have hb := hs.tax_bounds hx0.1
      have hr := hs.rate_bounds x
      go_wp2_with fail
      refine (HundredTax_impl _ st x _ s1 (by omega)).mono ?_
      rintro e w2 ⟨rfl, hb2⟩
      rw [E.out]
      have b2 := b1.trans (hb2.mono b1.size)
      have s2 := s1.below hb2
      clear hb2 s1
      go_wp2_with fail
      refine (HundredTax_spec _ st x _ s2 (by omega)).mono ?_
      rintro e w3 ⟨rfl, hb3⟩
      rw [E.out]
      have b3 := b2.trans (hb3.below.mono b2.size)
      have s3 := s2.below hb3.below
      clear hb3 s2
      have hneg : ¬ taxT st x < 0 := by omega
      by_cases hm : x = 2000
      · have hme : (x == 2000) = true := by simp [hm]
        have HM := Lib.hid hm
        clear hm
        go_wp2
        go_ret
        exact ⟨rfl, b3⟩
      · have hme : (x == 2000) = false := by simp [hm]
        have E2 : Hid (hundA st (x + 1) = taxT st x + rateT st x) := by
          show hundA st (x + 1) = _
          rw [hundA, if_pos (canT_iff.2 ⟨hv, by omega, by omega⟩), hs.tax_succ hx0.1]
        have E3 : Hid (rateA st x = rateT st x) := by show rateA st x = rateT st x; rw [rateA, hcan]; rfl
        clear hm hcan hv
        go_wp2_with fail
        refine (HundredTax_impl _ st (x + 1) _ s3 (by omega)).mono ?_
        rintro e w4 ⟨rfl, hb4⟩
        rw [E2.out]
        have b4 := b3.trans (hb4.mono b3.size)
        have s4 := s3.below hb4
        clear hb4 s3
        go_wp2_with fail
        refine (RateAt_impl _ st x _ s4 (by omega)).mono ?_
        rintro e w5 ⟨rfl, hb5⟩
        rw [E3.out]
        have b5 := b4.trans (hb5.mono b4.size)
        have s5 := s4.below hb5
        clear hb5 s4
        go_wp2
        go_ret
        exact ⟨rfl, b5⟩

end Go.Proofs.Ytmeejaafbbabaaa
