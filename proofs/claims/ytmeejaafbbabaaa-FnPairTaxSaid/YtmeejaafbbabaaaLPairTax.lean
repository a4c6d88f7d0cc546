/- The law FnPairTax: the walk. -/
import Derived.Test.YtmeejaafbbabaaaDrawsS
import Derived.Test.YtmeejaafbbabaaaTaxL
import Derived.Test.YtmeejaafbbabaaaAnsS
namespace Go.Proofs.Ytmeejaafbbabaaa
open Go.RowKit

set_option maxHeartbeats 1600000 in
theorem FnPairTax_walk (a : Option Addr) (n cap : Nat) (w : World) (h : IsBytes w a n) (hc : n ≤ cap) :
    Calls Try.prog 9 #[.slice a n cap] w fun e w' => e = .returned (.bool true) ∧ Below w.heap.size w w' := by
  by_cases hbig : (1048576 : Int) < (n : Int)
  · go_enter Try.func9, Try.ntmps9
    go_wp2
    go_ret
    exact ⟨rfl, Below.refl _ _⟩
  · go_enter Try.func9, Try.ntmps9
    go_wp2_with fail
    refine (DrawPairTax_any a n cap _ h hc).mono ?_
    rintro e w1 ⟨v, st, x, y, rfl, o1, l6, hx, hy, b1⟩
    have s1 := o1.steps
    clear o1 h
    cases hcan : canP st x y
    · have E : Hid (pairA st x y = -1) := by show pairA st x y = -1; rw [pairA, hcan]; rfl
      clear hcan
      go_wp2_with fail
      refine (PairTax_impl _ st x y _ s1 (by omega)).mono ?_
      rintro e w2 ⟨rfl, hb2⟩
      rw [E.out]
      have b2 := b1.trans (hb2.mono b1.size)
      have s2 := s1.below hb2
      clear hb2 s1
      go_wp2_with fail
      refine (PairTax_spec _ st x y _ s2 (by omega)).mono ?_
      rintro e w3 ⟨rfl, hb3⟩
      rw [E.out]
      have b3 := b2.trans (hb3.below.mono b2.size)
      have s3 := s2.below hb3.below
      clear hb3 s2
      go_wp2_with fail
      refine (PairTax_spec _ st x y _ s3 (by omega)).mono ?_
      rintro e w4 ⟨rfl, hb4⟩
      rw [E.out]
      have b4 := b3.trans (hb4.below.mono b3.size)
      have s4 := s3.below hb4.below
      clear hb4 s3
      go_wp2
      go_ret
      exact ⟨rfl, b4⟩
    · have hcan' : (canT st x = true ∧ canT st y = true) ∧ x + y ≤ 2000 := by simpa [canP] using hcan
      obtain ⟨hs, hx0⟩ := canT_true hcan'.1.1
      obtain ⟨_, hy0⟩ := canT_true hcan'.1.2
      have hxy := hcan'.2
      have hb := hs.tax_bounds (show 0 ≤ (x + y) / 2 by omega)
      have E : Hid (pairA st x y = 2 * taxT st ((x + y) / 2)) := by show pairA st x y = _; rw [pairA, hcan]; rfl
      have E1 : Hid (pairA st y x = 2 * taxT st ((x + y) / 2)) := by
        show pairA st y x = _
        rw [pairA, canP, hcan'.1.1, hcan'.1.2, decide_eq_true (show y + x ≤ 2000 by omega), Int.add_comm y x]
        rfl
      have hEx : 2 * x ≤ 2000 → pairA st x x = 2 * taxT st x := fun hh => by
        rw [pairA, canP, hcan'.1.1, decide_eq_true (show x + x ≤ 2000 by omega), show (x + x) / 2 = x by omega]
        rfl
      have EX := Lib.hid hEx
      have E3 : Hid (hundA st x = taxT st x) := by show hundA st x = taxT st x; rw [hundA, hcan'.1.1]; rfl
      have hbx := hs.tax_bounds hx0.1
      clear hcan hcan' hEx
      go_wp2_with fail
      refine (PairTax_impl _ st x y _ s1 (by omega)).mono ?_
      rintro e w2 ⟨rfl, hb2⟩
      rw [E.out]
      have b2 := b1.trans (hb2.mono b1.size)
      have s2 := s1.below hb2
      clear hb2 s1
      go_wp2_with fail
      refine (PairTax_spec _ st x y _ s2 (by omega)).mono ?_
      rintro e w3 ⟨rfl, hb3⟩
      rw [E.out]
      have b3 := b2.trans (hb3.below.mono b2.size)
      have s3 := s2.below hb3.below
      clear hb3 s2
      have hneg : ¬ 2 * taxT st ((x + y) / 2) < 0 := by omega
      go_wp2_with fail
      refine (PairTax_impl _ st y x _ s3 (by omega)).mono ?_
      rintro e w4 ⟨rfl, hb4⟩
      rw [E1.out]
      have b4 := b3.trans (hb4.mono b3.size)
      have s4 := s3.below hb4
      clear hb4 s3
      by_cases hm : 2000 < 2 * x
      · go_wp2
        go_ret
        exact ⟨rfl, b4⟩
      · have E2 := Lib.hid (EX.out (by omega))
        go_wp2_with fail
        refine (PairTax_impl _ st x x _ s4 (by omega)).mono ?_
        rintro e w5 ⟨rfl, hb5⟩
        rw [E2.out]
        have b5 := b4.trans (hb5.mono b4.size)
        have s5 := s4.below hb5
        clear hb5 s4
        go_wp2_with fail
        refine (HundredTax_impl _ st x _ s5 (by omega)).mono ?_
        rintro e w6 ⟨rfl, hb6⟩
        rw [E3.out]
        have b6 := b5.trans (hb6.mono b5.size)
        have s6 := s5.below hb6
        clear hb6 s5
        go_wp2
        go_ret
        exact ⟨rfl, b6⟩

end Go.Proofs.Ytmeejaafbbabaaa
