/- The law FnIsRising: the walk. -/
import Derived.Test.YtmeejaafbbabaaaDrawsS
import Derived.Test.YtmeejaafbbabaaaTaxL
import Derived.Test.YtmeejaafbbabaaaAnsS
namespace Go.Proofs.Ytmeejaafbbabaaa
open Go.RowKit

set_option maxHeartbeats 1600000 in
theorem FnIsRising_walk (a : Option Addr) (n cap : Nat) (w : World) (h : IsBytes w a n) (hc : n ≤ cap) :
    Calls Try.prog 8 #[.slice a n cap] w fun e w' => e = .returned (.bool true) ∧ Below w.heap.size w w' := by
  by_cases hbig : (1048576 : Int) < (n : Int)
  · go_enter Try.func8, Try.ntmps8
    go_wp2
    go_ret
    exact ⟨rfl, Below.refl _ _⟩
  · go_enter Try.func8, Try.ntmps8
    go_wp2_with fail
    refine (DrawIsRising_any a n cap _ h hc).mono ?_
    rintro e w1 ⟨v, st, rfl, o1, l6, b1⟩
    have s1 := o1.steps
    clear o1 h
    cases hcan : riseA st
    · have E : Hid (riseA st = false) := hcan
      clear hcan
      go_wp2_with fail
      refine (IsRising_impl _ st _ s1 (by omega)).mono ?_
      rintro e w2 ⟨rfl, hb2⟩
      rw [E.out]
      have b2 := b1.trans (hb2.mono b1.size)
      have s2 := s1.below hb2
      clear hb2 s1
      go_wp2_with fail
      refine (IsRising_spec _ st _ s2 (by omega)).mono ?_
      rintro e w3 ⟨rfl, hb3⟩
      rw [E.out]
      have b3 := b2.trans (hb3.below.mono b2.size)
      have s3 := s2.below hb3.below
      clear hb3 s2
      go_wp2_with fail
      refine (IsRising_spec _ st _ s3 (by omega)).mono ?_
      rintro e w4 ⟨rfl, hb4⟩
      rw [E.out]
      have b4 := b3.trans (hb4.below.mono b3.size)
      have s4 := s3.below hb4.below
      clear hb4 s3
      go_wp2
      go_ret
      exact ⟨rfl, b4⟩
    · have hcan' : vSteps st = true ∧ upB st = true := by simpa [riseA] using hcan
      have hs := vSteps_iff.1 hcan'.1
      have HV := Lib.hid hcan'.1
      have HU := Lib.hid hcan'.2
      have E : Hid (riseA st = true) := hcan
      clear hcan hcan'
      go_wp2_with fail
      refine (IsRising_impl _ st _ s1 (by omega)).mono ?_
      rintro e w2 ⟨rfl, hb2⟩
      rw [E.out]
      have b2 := b1.trans (hb2.mono b1.size)
      have s2 := s1.below hb2
      clear hb2 s1
      go_wp2_with fail
      refine (IsRising_spec _ st _ s2 (by omega)).mono ?_
      rintro e w3 ⟨rfl, hb3⟩
      rw [E.out]
      have b3 := b2.trans (hb3.below.mono b2.size)
      have s3 := s2.below hb3.below
      clear hb3 s2
      go_wp2
      go_loopw [5] (fun s wr => ∃ p : Int, s = .int .i64 p ∧ (0 ≤ p ∧ p ≤ 1125) ∧ IsSteps wr v st ∧ Below w.heap.size w wr) (fun s _ => (2000 - intOf s).toNat)
      case atStart => exact ⟨0, rfl, by omega, s3, b3⟩
      case round =>
        clear s3 b3
        obtain ⟨p, rfl, hp, sp, bp⟩ := hrel
        by_cases hlt : p ≤ 1000
        · go_wp2
          go_loopw [6] (fun s wr => ∃ q : Int, s = .int .i64 q ∧ (0 ≤ q ∧ q ≤ 1250) ∧ IsSteps wr v st ∧ Below w.heap.size w wr) (fun s _ => (2000 - intOf s).toNat)
          case atStart => exact ⟨0, rfl, by omega, sp, bp⟩
          case round =>
            clear sp bp
            obtain ⟨q, rfl, hq, s0, b0⟩ := hrel
            by_cases hlq : q ≤ 1000
            · have hcp := canT_iff.2 ⟨HV.out, hp.1, show p ≤ 2000 by omega⟩
              have hcq := canT_iff.2 ⟨HV.out, hq.1, show q ≤ 2000 by omega⟩
              have E1 : Hid (pairA st p q = 2 * taxT st ((p + q) / 2)) := by
                show pairA st p q = _
                rw [pairA, canP, hcp, hcq, decide_eq_true (show p + q ≤ 2000 by omega)]
                rfl
              have E2 : Hid (hundA st p = taxT st p) := by show hundA st p = _; rw [hundA, hcp]; rfl
              have E3 : Hid (hundA st q = taxT st q) := by show hundA st q = _; rw [hundA, hcq]; rfl
              have hle := hs.pair_le' HU.out hp.1 hq.1
              have hbp := hs.tax_bounds hp.1
              have hbq := hs.tax_bounds hq.1
              clear hcp hcq
              go_wp2_with fail
              refine (PairTax_impl _ st p q _ s0 (by omega)).mono ?_
              rintro e w5 ⟨rfl, hb5⟩
              rw [E1.out]
              have b5 := b0.trans (hb5.mono b0.size)
              have s5 := s0.below hb5
              clear hb5 s0
              go_wp2_with fail
              refine (HundredTax_impl _ st p _ s5 (by omega)).mono ?_
              rintro e w6 ⟨rfl, hb6⟩
              rw [E2.out]
              have b6 := b5.trans (hb6.mono b5.size)
              have s6 := s5.below hb6
              clear hb6 s5
              go_wp2_with fail
              refine (HundredTax_impl _ st q _ s6 (by omega)).mono ?_
              rintro e w7 ⟨rfl, hb7⟩
              rw [E3.out]
              have b7 := b6.trans (hb7.mono b6.size)
              have s7 := s6.below hb7
              clear hb7 s6
              have hng : ¬ taxT st p + taxT st q < 2 * taxT st ((p + q) / 2) := by omega
              go_wp2
              go_roundw
              case rel => exact ⟨q + 250, rfl, by omega, s7, b7⟩
              case measure => simp [intOf]; omega
            · go_wp2
              go_roundw
              case rel => exact ⟨p + 125, rfl, by omega, s0, b0⟩
              case measure => simp [intOf]; omega
        · go_wp2_with fail
          refine (ValidSteps_impl _ st _ sp (by omega)).mono ?_
          rintro e w5 ⟨rfl, hb5⟩
          rw [HV.out]
          go_wp2
          go_ret
          exact ⟨rfl, bp.trans (hb5.mono bp.size)⟩

end Go.Proofs.Ytmeejaafbbabaaa
