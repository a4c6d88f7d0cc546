/- Chapter 4, the program: the small contracts. -/
import Derived.Test.YtfgafbjofkicdaaLoanU
namespace Go.Proofs.Ytfgafbjofkicdaa
open Go.RowKit

theorem inRangeI_at (x lo hi : Int) (r : Bool) (w : World) (h : inR x lo hi = r) : Calls Try.prog 53 #[.int .i64 x, .int .i64 lo, .int .i64 hi] w fun e w' => e = .returned (.bool r) ∧ w = w' := by
  subst h; exact inRange_impl _ _ _ _

set_option maxHeartbeats 1600000 in
theorem ValidLoan_impl (A P B T : Int) (w : World) :
    Calls Try.prog 20 #[lv A P B T] w fun e w' => e = .returned (.bool (vLoan A P B T)) ∧ Below w.heap.size w w' := by
  have hb : Below w.heap.size w (w.alloc (.cells #[.int .i64 A, .int .i64 P, .int .i64 B, .int .i64 T] 24)) := (Below.refl _ _).alloc (Nat.le_refl _) _
  have HCC := Lib.hid inRangeI_at
  cases h1 : inR A 0 1000
  · have E : Hid (vLoan A P B T = false) := by show _ = _; unfold vLoan; rw [h1]; rfl
    go_enter Try.func20, Try.ntmps20
    go_wp2_with (go_at_call 53; refine (HCC.out _ _ _ _ _ h1).mono ?_; rintro e w' ⟨rfl, rfl⟩)
    go_ret
    exact ⟨ret_bool E.out.symm, hb⟩
  cases h2 : inR B 1 10
  · have E : Hid (vLoan A P B T = false) := by show _ = _; unfold vLoan; rw [h1, h2]; rfl
    go_enter Try.func20, Try.ntmps20
    go_wp2_with (go_at_call 53; (first | (with_reducible refine (HCC.out A _ _ _ _ h1).mono ?_) | (with_reducible refine (HCC.out B _ _ _ _ h2).mono ?_)); rintro e w' ⟨rfl, rfl⟩)
    go_ret
    exact ⟨ret_bool E.out.symm, hb⟩
  cases h3 : inR P 0 B
  · have E : Hid (vLoan A P B T = false) := by show _ = _; unfold vLoan; rw [h1, h2, h3]; rfl
    go_enter Try.func20, Try.ntmps20
    go_wp2_with (go_at_call 53; (first | (with_reducible refine (HCC.out A _ _ _ _ h1).mono ?_) | (with_reducible refine (HCC.out B _ _ _ _ h2).mono ?_) | (with_reducible refine (HCC.out P _ _ _ _ h3).mono ?_)); rintro e w' ⟨rfl, rfl⟩)
    go_ret
    exact ⟨ret_bool E.out.symm, hb⟩
  · have E : Hid (vLoan A P B T = inR T 1 8) := by show _ = _; unfold vLoan; rw [h1, h2, h3]; rfl
    go_enter Try.func20, Try.ntmps20
    go_wp2_with (go_at_call 53; (first | (with_reducible refine (HCC.out A _ _ _ _ h1).mono ?_) | (with_reducible refine (HCC.out B _ _ _ _ h2).mono ?_) | (with_reducible refine (HCC.out P _ _ _ _ h3).mono ?_) | (with_reducible refine (HCC.out T _ _ _ _ rfl).mono ?_)); rintro e w' ⟨rfl, rfl⟩)
    go_ret
    exact ⟨ret_bool E.out.symm, hb⟩

set_option maxHeartbeats 800000 in
theorem canPayBack_impl (A P B T pay : Int) (w : World) :
    Calls Try.prog 61 #[lv A P B T, .int .i64 pay] w fun e w' => e = .returned (.bool (vPay A P B T pay)) ∧ Below w.heap.size w w' := by
  have hb : Below w.heap.size w (w.alloc (.cells #[.int .i64 A, .int .i64 P, .int .i64 B, .int .i64 T] 24)) := (Below.refl _ _).alloc (Nat.le_refl _) _
  have hv := ValidLoan_impl A P B T (w.alloc (.cells #[.int .i64 A, .int .i64 P, .int .i64 B, .int .i64 T] 24))
  cases h1 : vLoan A P B T
  · have E : Hid (vPay A P B T pay = false) := by show _ = _; unfold vPay; rw [h1]; rfl
    rw [h1] at hv
    have HV := Lib.hid hv
    clear hv h1
    go_enter Try.func61, Try.ntmps61
    go_wp2_with fail
    refine HV.out.mono ?_
    rintro e w2 ⟨rfl, hb2⟩
    have hb3 : Below w.heap.size w w2 := hb.trans (hb2.mono hb.size)
    go_wp2
    go_ret
    exact ⟨ret_bool E.out.symm, hb3⟩
  · have E : Hid (vPay A P B T pay = inR pay 0 2000) := by show _ = _; unfold vPay; rw [h1]; rfl
    rw [h1] at hv
    have HV := Lib.hid hv
    clear hv h1
    go_enter Try.func61, Try.ntmps61
    go_wp2_with fail
    refine HV.out.mono ?_
    rintro e w2 ⟨rfl, hb2⟩
    have hb3 : Below w.heap.size w w2 := hb.trans (hb2.mono hb.size)
    go_wp2_with (go_at_call 53; refine (inRange_impl _ _ _ _).mono ?_; rintro e w' ⟨rfl, rfl⟩)
    go_ret
    exact ⟨ret_bool E.out.symm, hb3⟩


/-- May interest be p of b? -/
def canB (p b : Int) : Bool := inR p 0 10 && inR b 1 10

set_option maxHeartbeats 800000 in
theorem canBear_impl (p b : Int) (w : World) :
    Calls Try.prog 57 #[.int .i64 p, .int .i64 b] w fun e w' => e = .returned (.bool (canB p b)) ∧ w = w' := by
  have HCC := Lib.hid inRangeI_at
  cases h1 : inR p 0 10
  · have E : Hid (canB p b = false) := by show _ = _; unfold canB; rw [h1]; rfl
    go_enter Try.func57, Try.ntmps57
    go_wp2_with (go_at_call 53; (with_reducible refine (HCC.out p _ _ _ _ h1).mono ?_); rintro e w' ⟨rfl, rfl⟩)
    go_ret
    exact ⟨ret_bool E.out.symm, rfl⟩
  · have E : Hid (canB p b = inR b 1 10) := by show _ = _; unfold canB; rw [h1]; rfl
    go_enter Try.func57, Try.ntmps57
    go_wp2_with (go_at_call 53; (first | (with_reducible refine (HCC.out p _ _ _ _ h1).mono ?_) | (with_reducible refine (HCC.out b _ _ _ _ rfl).mono ?_)); rintro e w' ⟨rfl, rfl⟩)
    go_ret
    exact ⟨ret_bool E.out.symm, rfl⟩

theorem canB_true {p b : Int} (h : canB p b = true) : inR p 0 10 = true ∧ inR b 1 10 = true := by
  unfold canB at h; simpa using h

theorem mul_small {a p : Int} (ha : 0 ≤ a ∧ a ≤ 1000000) (hp : 0 ≤ p ∧ p ≤ 10) : 0 ≤ a * p ∧ a * p ≤ 10000000 := by
  have h1 := Int.mul_nonneg ha.1 hp.1
  have h2 := Int.mul_le_mul ha.2 hp.2 hp.1 (by omega)
  omega

set_option maxHeartbeats 800000 in
theorem halvesUp_impl (a b : Int) (w : World) (ha : 0 ≤ a ∧ a ≤ 10000000) (hb : 1 ≤ b ∧ b ≤ 10) :
    Calls Try.prog 58 #[.int .i64 a, .int .i64 b] w fun e w' => e = .returned (.int .i64 ((2 * a + b) / (2 * b))) ∧ w = w' := by
  have hd0 := Int.ediv_nonneg (show 0 ≤ 2 * a + b by omega) (show 0 ≤ 2 * b by omega)
  have hd1 := Int.ediv_le_self (2 * b) (show 0 ≤ 2 * a + b by omega)
  have hb0 : 2 * b ≠ 0 := by omega
  generalize hq : (2 * a + b) / (2 * b) = q at *
  have HI : Hid (q = (2 * a + b) / (2 * b)) := hq.symm
  clear hq
  go_enter Try.func58, Try.ntmps58
  go_wp2
  go_ret
  exact ⟨ret_int HI.out.symm, rfl⟩

/-- The interest as the program reckons it. -/
theorem halves_at (a p b : Int) (w : World) (ha : 0 ≤ a ∧ a ≤ 1000000) (hp : 0 ≤ p ∧ p ≤ 10) (hb : 1 ≤ b ∧ b ≤ 10) :
    Calls Try.prog 58 #[.int .i64 (a * p), .int .i64 b] w fun e w' => e = .returned (.int .i64 (intr a p b)) ∧ w = w' := by
  have h := halvesUp_impl (a * p) b w (mul_small ha hp) hb
  have e : (2 * (a * p) + b) / (2 * b) = intr a p b := by rw [← Int.mul_assoc]; rfl
  rw [e] at h
  exact h

set_option maxHeartbeats 800000 in
theorem InterestOf_impl (a p b : Int) (w : World) :
    Calls Try.prog 23 #[.int .i64 a, .int .i64 p, .int .i64 b] w fun e w' => e = .returned (.int .i64 (interestV a p b)) ∧ w = w' := by
  have HCC := Lib.hid inRangeI_at
  have hcb := canBear_impl p b w
  cases h1 : inR a 0 1000
  · have E : Hid (interestV a p b = -1) := by show _ = _; rw [interestV, if_neg (by rw [h1]; simp)]
    clear hcb
    go_enter Try.func23, Try.ntmps23
    go_wp2_with (go_at_call 53; (with_reducible refine (HCC.out a _ _ _ _ h1).mono ?_); rintro e w' ⟨rfl, rfl⟩)
    go_ret
    exact ⟨ret_int E.out.symm, rfl⟩
  cases h2 : canB p b
  · have E : Hid (interestV a p b = -1) := by
      show _ = _
      rw [interestV, if_neg]
      rintro ⟨_, i2, i3⟩
      rw [canB, i2, i3] at h2
      cases h2
    rw [h2] at hcb
    have HB := Lib.hid hcb
    clear hcb h2
    go_enter Try.func23, Try.ntmps23
    go_wp2_with (first | (go_at_call 53; (with_reducible refine (HCC.out a _ _ _ _ h1).mono ?_); rintro e w' ⟨rfl, rfl⟩) | (go_at_call 57; refine HB.out.mono ?_; rintro e w' ⟨rfl, rfl⟩))
    go_ret
    exact ⟨ret_int E.out.symm, rfl⟩
  · obtain ⟨i2, i3⟩ := canB_true h2
    have E : Hid (interestV a p b = intr a p b) := by show _ = _; rw [interestV, if_pos ⟨h1, i2, i3⟩]
    have b1 := inR_true h1
    have b2 := inR_true i2
    have b3 := inR_true i3
    have hm := mul_small (a := a) (p := p) (by omega) b2
    have HI := Lib.hid (halves_at a p b w (by omega) b2 b3)
    rw [h2] at hcb
    have HB := Lib.hid hcb
    clear hcb h2 i2 i3
    have hw : IntKind.i64.wrap (a * p) = a * p := IntWalk.i64_in _ (by omega)
    go_enter Try.func23, Try.ntmps23
    go_wp2_with (first | (go_at_call 53; (with_reducible refine (HCC.out a _ _ _ _ h1).mono ?_); rintro e w' ⟨rfl, rfl⟩) | (go_at_call 57; refine HB.out.mono ?_; rintro e w' ⟨rfl, rfl⟩) | (go_at_call 58; refine HI.out.mono ?_; rintro e w' ⟨rfl, rfl⟩))
    go_ret
    exact ⟨ret_int E.out.symm, rfl⟩


end Go.Proofs.Ytfgafbjofkicdaa
