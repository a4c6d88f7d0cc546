/- The law FnInterestOf, out of the program's contract. -/
import Derived.Test.YtfgafbjofkicdaaLoanS
import Derived.Test.YtfgafbjofkicdaaLoanD
namespace Go.Proofs.Ytfgafbjofkicdaa
open Go.RowKit

theorem intr_facts {a p b : Int} (h : ¬ interestV a p b < 0) : (0 ≤ a ∧ a ≤ 1000) ∧ (0 ≤ p ∧ p ≤ 10) ∧ (1 ≤ b ∧ b ≤ 10) ∧ (0 ≤ interestV a p b ∧ interestV a p b ≤ 10010) ∧ (0 ≤ 2 * a * p ∧ 2 * a * p ≤ 20000) ∧ (0 ≤ 2 * interestV a p b * b ∧ 2 * interestV a p b * b ≤ 20010) ∧ -b < 2 * interestV a p b * b - 2 * a * p ∧ 2 * interestV a p b * b - 2 * a * p ≤ b := by
  by_cases hc : inR a 0 1000 = true ∧ inR p 0 10 = true ∧ inR b 1 10 = true
  · have ha := inR_true hc.1
    have hp := inR_true hc.2.1
    have hb := inR_true hc.2.2
    have hd : interestV a p b = intr a p b := by rw [interestV, if_pos hc]
    have hI := intr_bounds (a := a) (p := p) hb.1
    have h0 := intr_nonneg (p := p) hb.1 hp.1 ha.1
    rw [hd]
    generalize intr a p b = I at *
    have e1 : 2 * I * b = 2 * b * I := by rw [Int.mul_assoc, Int.mul_assoc, Int.mul_comm I b]
    have p0 := Int.mul_nonneg (show 0 ≤ 2 * a by omega) hp.1
    have p1 := Int.mul_le_mul (show 2 * a ≤ 2000 by omega) hp.2 hp.1 (by omega)
    have p2 := Int.mul_le_mul (show 2 ≤ 2 * b by omega) (Int.le_refl I) h0 (by omega)
    have p3 := Int.mul_nonneg (show 0 ≤ 2 * b by omega) h0
    rw [e1]
    refine ⟨ha, hp, hb, ⟨h0, by omega⟩, ⟨p0, by omega⟩, ⟨p3, by omega⟩, by omega, by omega⟩
  · exact absurd (show interestV a p b < 0 by rw [interestV, if_neg hc]; decide) h

set_option maxHeartbeats 3200000 in
theorem FnInterestOf_of (himp : ∀ (x p b : Int) (wx : World), Calls Try.prog 23 #[.int .i64 x, .int .i64 p, .int .i64 b] wx fun e w' => e = .returned (.int .i64 (interestV x p b)) ∧ Below wx.heap.size wx w')
    (a : Option Addr) (n cap : Nat) (w : World) (h : IsBytes w a n) (hc : n ≤ cap) :
    Calls Try.prog 4 #[.slice a n cap] w fun e w' => e = .returned (.bool true) ∧ Below w.heap.size w w' := by
  by_cases hbig : (1048576 : Int) < (n : Int)
  · go_enter Try.func4, Try.ntmps4
    go_wp2
    go_ret
    exact ⟨rfl, Below.refl _ _⟩
  · have HI := Lib.hid himp
    go_enter Try.func4, Try.ntmps4
    go_wp2_with fail
    refine (DrawInterestOf_any a n cap _ h hc).mono ?_
    rintro e w1 ⟨x, p, b, rfl, b1⟩
    clear h
    by_cases hneg : interestV x p b < 0
    · generalize hd : interestV x p b = d at *
      go_wp2_with fail
      refine (HI.out x p b _).mono ?_
      rintro e w2 ⟨rfl, hb2⟩
      rw [hd]
      have b2 := b1.trans (hb2.mono b1.size)
      clear hb2
      go_wp2_with (go_at_call 24; refine (InterestOf_spec x p b _).mono ?_; rintro e w' ⟨rfl, rfl⟩; rw [hd])
      go_ret
      exact ⟨rfl, b2⟩
    · obtain ⟨ha, hp, hb, hI, hv, hu, g1, g2⟩ := intr_facts hneg
      generalize hd : interestV x p b = d at *
      have w1' : IntKind.i64.wrap (2 * d * b) = 2 * d * b := IntWalk.i64_in _ (by omega)
      have w2' : IntKind.i64.wrap (2 * x * p) = 2 * x * p := IntWalk.i64_in _ (by omega)
      have w3' : IntKind.i64.wrap (2 * d * b - 2 * x * p) = 2 * d * b - 2 * x * p := IntWalk.i64_in _ (by omega)
      have dn : 0 ≤ d := hI.1
      go_wp2_with fail
      refine (HI.out x p b _).mono ?_
      rintro e w2 ⟨rfl, hb2⟩
      rw [hd]
      have b2 := b1.trans (hb2.mono b1.size)
      clear hb2
      go_wp2_with (go_at_call 24; refine (InterestOf_spec x p b _).mono ?_; rintro e w' ⟨rfl, rfl⟩; rw [hd])
      go_ret
      exact ⟨rfl, b2⟩

end Go.Proofs.Ytfgafbjofkicdaa
