/- The law FnDoublesAfter, out of the program's contract. -/
import Derived.Test.YtfgafbjofkicdaaLoanU
import Derived.Test.YtfgafbjofkicdaaLoanD
namespace Go.Proofs.Ytfgafbjofkicdaa
open Go.RowKit

set_option maxHeartbeats 800000 in
theorem times_law (x : Int) (n : Nat) (w : World) (hx : 0 ≤ x ∧ x ≤ 20) (hn : n ≤ 12) :
    Calls Try.prog 42 #[.int .i64 x, .int .i64 n] w fun e w' => e = .returned (.int .i64 (x ^ n)) ∧ w = w' := by
  have HP := Lib.hid (fun (k : Nat) (hk : k ≤ 12) => pow_small hx hk)
  go_enter Try.func42, Try.ntmps42
  go_wp2
  go_loopw [1, 5] (fun nv ov wr => ∃ k : Nat, k ≤ n ∧ nv = .int .i64 k ∧ ov = .int .i64 (x ^ (n - k)) ∧ w = wr) (fun nv _ _ => (intOf nv).toNat)
  case atStart => exact ⟨n, Nat.le_refl _, rfl, by rw [Nat.sub_self, Int.pow_zero], rfl⟩
  case round =>
    obtain ⟨k, hk, rfl, rfl, rfl⟩ := hrel
    by_cases h0 : 0 < k
    · have hk0 : (0 : Int) < (k : Int) := by omega
      have hb := HP.out (n - k + 1) (by omega)
      have he : x ^ (n - k) * x = x ^ (n - k + 1) := (Int.pow_succ x (n - k)).symm
      have hw : IntKind.i64.wrap (x ^ (n - k) * x) = x ^ (n - (k - 1)) := by
        rw [he, IntWalk.i64_in _ (by omega)]
        congr 1
        omega
      have HW := Lib.hid hw
      clear hw he hb
      generalize x ^ (n - k) = z at *
      have hw2 : IntKind.i64.wrap (z * x) = x ^ (n - (k - 1)) := HW.out
      go_wp2
      go_roundw
      case rel => exact ⟨k - 1, by omega, by go_num, rfl, trivial⟩
      case measure => simp [intOf]; omega
    · have hk0 : k = 0 := by omega
      subst hk0
      go_wp2
      go_ret
      exact ⟨rfl, rfl⟩

/-- times for a number of times that is no natural number by its form. -/
theorem times_lawI (x m : Int) (n : Nat) (w : World) (hx : 0 ≤ x ∧ x ≤ 20) (hn : n ≤ 12) (hm : m = n) :
    Calls Try.prog 42 #[.int .i64 x, .int .i64 m] w fun e w' => e = .returned (.int .i64 (x ^ n)) ∧ w = w' := by
  subst hm; exact times_law x n w hx hn

theorem dbl_facts {p b : Int} (h : ¬ dblV p b < 0) : (1 ≤ b ∧ b ≤ 10) ∧ (1 ≤ p ∧ p ≤ 10) ∧ ∃ d : Nat, dblV p b = d ∧ 1 ≤ d ∧ d ≤ 10 ∧ ¬ (b + p) ^ d < 2 * b ^ d ∧ (b + p) ^ (d - 1) < 2 * b ^ (d - 1) := by
  by_cases hc : inR b 1 10 = true ∧ inR p 1 10 = true
  · have hb := inR_true hc.1
    have hp := inR_true hc.2
    obtain ⟨i1, i2, i3, i4⟩ := dblF_spec b (b + p) 11 1 ⟨10, by omega, by omega, dbl_ten hb hp⟩
    have hd : dblV p b = dblF b (b + p) 11 1 := by rw [dblV, if_pos hc]
    have h10 : dblF b (b + p) 11 1 ≤ 10 := by
      rcases Nat.lt_or_ge 10 (dblF b (b + p) 11 1) with hlt | hge
      · exact absurd (i4 10 (by omega) hlt) (dbl_ten hb hp)
      · exact hge
    refine ⟨hb, hp, _, hd, i2, h10, i1, ?_⟩
    generalize dblF b (b + p) 11 1 = d at *
    by_cases h1 : d = 1
    · subst h1; simp
    · exact i4 (d - 1) (by omega) (by omega)
  · exact absurd (show dblV p b < 0 by rw [dblV, if_neg hc]; decide) h

set_option maxHeartbeats 3200000 in
theorem FnDoublesAfter_of (himp : ∀ (p b : Int) (wx : World), Calls Try.prog 44 #[.int .i64 p, .int .i64 b] wx fun e w' => e = .returned (.int .i64 (dblV p b)) ∧ Below wx.heap.size wx w')
    (a : Option Addr) (n cap : Nat) (w : World) (h : IsBytes w a n) (hc : n ≤ cap) :
    Calls Try.prog 10 #[.slice a n cap] w fun e w' => e = .returned (.bool true) ∧ Below w.heap.size w w' := by
  by_cases hbig : (1048576 : Int) < (n : Int)
  · go_enter Try.func10, Try.ntmps10
    go_wp2
    go_ret
    exact ⟨rfl, Below.refl _ _⟩
  · have HI := Lib.hid himp
    go_enter Try.func10, Try.ntmps10
    go_wp2_with fail
    refine (DrawDoublesAfter_any a n cap _ h hc).mono ?_
    rintro e w1 ⟨p, b, rfl, b1⟩
    clear h
    by_cases hneg : dblV p b < 0
    · generalize hd : dblV p b = d at *
      go_wp2_with fail
      refine (HI.out p b _).mono ?_
      rintro e w2 ⟨rfl, hb2⟩
      rw [hd]
      have b2 := b1.trans (hb2.mono b1.size)
      clear hb2
      go_wp2_with (go_at_call 45; refine (DoublesAfter_spec p b _).mono ?_; rintro e w' ⟨rfl, rfl⟩; rw [hd])
      go_ret
      exact ⟨rfl, b2⟩
    · obtain ⟨hb, hp, d, hd, d1, d10, hx, hy⟩ := dbl_facts hneg
      have T1 := Lib.hid (fun wx => times_lawI (b + p) (d : Int) d wx (by omega) (by omega) rfl)
      have T2 := Lib.hid (fun wx => times_lawI b (d : Int) d wx (by omega) (by omega) rfl)
      have T3 := Lib.hid (fun wx => times_lawI (b + p) ((d : Int) - 1) (d - 1) wx (by omega) (by omega) (by omega))
      have T4 := Lib.hid (fun wx => times_lawI b ((d : Int) - 1) (d - 1) wx (by omega) (by omega) (by omega))
      have q1 := pow_small (show 0 ≤ b + p ∧ b + p ≤ 20 by omega) (show d ≤ 12 by omega)
      have q2 := pow_small (show 0 ≤ b ∧ b ≤ 20 by omega) (show d ≤ 12 by omega)
      have q3 := pow_small (show 0 ≤ b + p ∧ b + p ≤ 20 by omega) (show d - 1 ≤ 12 by omega)
      have q4 := pow_small (show 0 ≤ b ∧ b ≤ 20 by omega) (show d - 1 ≤ 12 by omega)
      generalize (b + p) ^ d = X at *
      generalize b ^ d = Y at *
      generalize (b + p) ^ (d - 1) = X1 at *
      generalize b ^ (d - 1) = Y1 at *
      have hx' : 2 * Y ≤ X := by omega
      clear hx
      have dn : (0 : Int) ≤ (d : Int) := by omega
      go_wp2_with fail
      refine (HI.out p b _).mono ?_
      rintro e w2 ⟨rfl, hb2⟩
      rw [hd]
      have b2 := b1.trans (hb2.mono b1.size)
      clear hb2
      go_wp2_with (first | (go_at_call 45; refine (DoublesAfter_spec p b _).mono ?_; rintro e w' ⟨rfl, rfl⟩; rw [hd]) | (go_at_call 42; (first | (with_reducible refine (T1.out _).mono ?_) | (with_reducible refine (T2.out _).mono ?_) | (with_reducible refine (T3.out _).mono ?_) | (with_reducible refine (T4.out _).mono ?_)); rintro e w' ⟨rfl, rfl⟩))
      go_ret
      exact ⟨rfl, b2⟩

end Go.Proofs.Ytfgafbjofkicdaa
