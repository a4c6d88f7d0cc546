/- The exact laws of chapter 4: lists. -/
import Derived.Test.YtfgafbjofkicdaaOwnI
import Derived.Test.YtfgafbjofkicdaaOwnH
import Derived.Test.YtfgafbjofkicdaaELoanA
import Derived.Test.YtfgafbjofkicdaaBkS
import Derived.Test.YtfgafbjofkicdaaBkD
import Derived.Test.YtfgafbjofkicdaaLoanL
import Derived.Test.YtfgafbjofkicdaaLoanV
import Derived.Test.YtfgafbjofkicdaaOwn
import Derived.Test.YtfgafbjofkicdaaAp
namespace Go.Proofs.Ytfgafbjofkicdaa
open Go.RowKit

theorem leftV_short (A P B T pay : Int) : (leftV A P B T pay).length ≤ 8 := by
  unfold leftV
  split
  · rename_i h
    obtain ⟨p1, _⟩ := vPay_parts h
    have := (vLoan_iff.1 p1)
    rw [rowsL_len]
    omega
  · simp
theorem paidV_short (A P B T pay : Int) : (paidV A P B T pay).length ≤ 8 := by
  unfold paidV
  split
  · rename_i h
    obtain ⟨p1, _⟩ := vPay_parts h
    have := (vLoan_iff.1 p1)
    rw [paidL_len]
    omega
  · simp
theorem lastV_short (a m : Int) : (lastV a m).length ≤ 8 := by
  unfold lastV
  split
  · rename_i h
    have := inR_true h.2
    rw [lastL_len]
    omega
  · simp

set_option maxHeartbeats 3200000 in
theorem FnExactLastPaid_walk (a m : Int) (w : World) (_ha : -9223372036854775808 ≤ a ∧ a ≤ 9223372036854775807) (_hm : -9223372036854775808 ≤ m ∧ m ≤ 9223372036854775807) :
    Calls Try.prog 16 #[.int .i64 a, .int .i64 m] w fun e w' => e = .returned (.bool true) ∧ Below w.heap.size w w' := by
  have hL := lastV_short a m
  go_enter Try.func16, Try.ntmps16
  go_wp2_with fail
  have b1 : Below w.heap.size w w := Below.refl _ _
  refine (LastPaid_spec a m _).mono ?_
  rintro e w2 ⟨v1, rfl, ho1, hb2⟩
  have b2 : Below w.heap.size w w2 := b1.trans (hb2.mono b1.size)
  have b3 := b2
  have o1 := ho1
  clear hb2
  go_wp2_with fail
  refine (LastPaid_impl a m _).mono ?_
  rintro e w4 ⟨v4, rfl, ho4, hb4⟩
  have b4 : Below w.heap.size w w4 := b3.trans (hb4.mono b3.size)
  have ap : Apart v1 v4 := o1.apart_of_base ho4
  have o1b := o1.below hb4
  have o4 := ho4.base b3.size
  clear ho1 ho4 o1 hb4
  go_wp2_with fail
  refine (eqIntS_any _ _ _ _ _ o4.ints o1b.ints (by omega)).mono ?_
  rintro e w5 ⟨rfl, hb5⟩
  have b5 : Below w.heap.size w w5 := b4.trans (hb5.mono b4.size)
  have o1c := o1b.below hb5
  have o4b := o4.below hb5
  clear o1b o4 hb5 b4
  go_wp2_with fail
  refine (markIntS_any _ _ 1 _ _ o4b (by omega) (by omega) (by omega)).mono ?_
  rintro e w6 ⟨rfl, o4c, hg6⟩
  have o1d := o1c.kept hg6 ap
  have b6 : Below w.heap.size w w6 := b5.trans (o4b.pushed_below hg6 b5.size)
  clear o1c o4b hg6 b5
  go_wp2_with fail
  refine (heldIntS_any _ _ 1 _ o4c.ints (by omega) (by omega) (by omega)).mono ?_
  rintro e w' ⟨rfl, rfl⟩
  have hlt : ¬ (1 + ((lastV a m).length : Int) < 0) := by omega
  have hne : ((1 + ((lastV a m).length : Int)) != (1 + ((lastV a m).length : Int))) = false := by simp
  have b7 := b6
  have o1e := o1d
  have o4d := o4c
  clear b6 o1d o4c
  go_wp2_with fail
  refine (LastPaid_impl a m _).mono ?_
  rintro e w8 ⟨v8, rfl, ho8, hb8⟩
  have b8 : Below w.heap.size w w8 := b7.trans (hb8.mono b7.size)
  have o1f := o1e.below hb8
  have o4e := o4d.below hb8
  clear hb8 o1e o4d b7
  go_wp2_with fail
  refine (eqIntS_any _ _ _ _ _ ho8.ints o1f.ints (by omega)).mono ?_
  rintro e w9 ⟨rfl, hb9⟩
  have b9 : Below w.heap.size w w9 := b8.trans (hb9.mono b8.size)
  have o4f := o4e.below hb9
  go_wp2_with fail
  refine (heldIntS_any _ _ 1 _ o4f.ints (by omega) (by omega) (by omega)).mono ?_
  rintro e w' ⟨rfl, rfl⟩
  go_wp2
  go_ret
  exact ⟨rfl, b9⟩

set_option maxHeartbeats 3200000 in
theorem FnExactLeftAfter_walk (A P B T pay : Int) (w : World) (_hpay : -9223372036854775808 ≤ pay ∧ pay ≤ 9223372036854775807) :
    Calls Try.prog 13 #[.agg #[.int .i64 A, .int .i64 P, .int .i64 B, .int .i64 T], .int .i64 pay] w fun e w' => e = .returned (.bool true) ∧ Below w.heap.size w w' := by
  have hL := leftV_short A P B T pay
  have b0 : Below w.heap.size w (w.alloc (.cells #[.int .i64 A, .int .i64 P, .int .i64 B, .int .i64 T] 45)) := (Below.refl _ _).alloc (Nat.le_refl _) _
  have l0 := HasL.new w A P B T 45
  obtain ⟨c0, c1, c2, c3⟩ := id l0
  go_enter Try.func13, Try.ntmps13
  go_wp2_with fail
  have hz0 : (w.alloc (.cells #[.int .i64 A, .int .i64 P, .int .i64 B, .int .i64 T] 45)).heap.size = w.heap.size + 1 := by simp
  generalize w.alloc (.cells #[.int .i64 A, .int .i64 P, .int .i64 B, .int .i64 T] 45) = w0 at *
  refine (toLoan_any A P B T _).mono ?_
  rintro e w1 ⟨rfl, hb1⟩
  have b1 : Below w.heap.size w w1 := b0.trans (hb1.mono b0.size)
  have l1 := l0.below hb1
  have z1 := hb1.size
  clear b0 c0 c1 c2 c3 l0 hb1
  go_wp2_with fail
  refine (LeftAfter_spec A P B T pay _).mono ?_
  rintro e w2 ⟨v1, rfl, ho1, _, hb2⟩
  have b2 : Below w.heap.size w w2 := b1.trans (hb2.mono b1.size)
  have l2 := l1.below hb2
  have z2 := hb2.size
  clear l1
  obtain ⟨c0, c1, c2, c3⟩ := id l2
  go_wp2_with fail
  refine (toLoan_any A P B T _).mono ?_
  rintro e w3 ⟨rfl, hb3⟩
  have b3 : Below w.heap.size w w3 := b2.trans (hb3.mono b2.size)
  have l3 := l2.below hb3
  have o1 := ho1.below hb3
  have z3 := hb3.size
  clear l2 c0 c1 c2 c3 hb3 hb2
  go_wp2_with fail
  refine (LeftAfter_impl A P B T pay _).mono ?_
  rintro e w4 ⟨v4, rfl, ho4, hb4⟩
  have b4 : Below w.heap.size w w4 := b3.trans (hb4.mono b3.size)
  have ap : Apart v1 v4 := o1.apart_of_base ho4
  have o1b := o1.below hb4
  have l4 := l3.below hb4
  have o4 := ho4.base (show w.heap.size + 1 ≤ w3.heap.size by omega)
  clear l3
  clear ho1 ho4 o1 hb4
  go_wp2_with fail
  refine (eqIntS_any _ _ _ _ _ o4.ints o1b.ints (by omega)).mono ?_
  rintro e w5 ⟨rfl, hb5⟩
  have b5 : Below w.heap.size w w5 := b4.trans (hb5.mono b4.size)
  have o1c := o1b.below hb5
  have o4b := o4.below hb5
  have l5 := l4.below hb5
  clear l4
  clear o1b o4 hb5 b4
  go_wp2_with fail
  refine (markIntS_any _ _ 1 _ _ o4b (by omega) (by omega) (by omega)).mono ?_
  rintro e w6 ⟨rfl, o4c, hg6⟩
  have o1d := o1c.kept hg6 ap
  have b6 : Below w.heap.size w w6 := b5.trans ((o4b.base (Nat.le_succ _)).pushed_below hg6 b5.size)
  have l6 := l5.kept hg6 (fun e => by have := (o4b.lt _ e).1; omega)
  clear l5
  clear o1c o4b hg6 b5
  go_wp2_with fail
  refine (heldIntS_any _ _ 1 _ o4c.ints (by omega) (by omega) (by omega)).mono ?_
  rintro e w' ⟨rfl, rfl⟩
  have hlt : ¬ (1 + ((leftV A P B T pay).length : Int) < 0) := by omega
  have hne : ((1 + ((leftV A P B T pay).length : Int)) != (1 + ((leftV A P B T pay).length : Int))) = false := by simp
  obtain ⟨c0, c1, c2, c3⟩ := id l6
  go_wp2_with fail
  refine (toLoan_any A P B T _).mono ?_
  rintro e w7 ⟨rfl, hb7⟩
  have b7 : Below w.heap.size w w7 := b6.trans (hb7.mono b6.size)
  have o1e := o1d.below hb7
  have o4d := o4c.below hb7
  clear c0 c1 c2 c3 hb7 l6 o1d o4c b6
  go_wp2_with fail
  refine (LeftAfter_impl A P B T pay _).mono ?_
  rintro e w8 ⟨v8, rfl, ho8, hb8⟩
  have b8 : Below w.heap.size w w8 := b7.trans (hb8.mono b7.size)
  have o1f := o1e.below hb8
  have o4e := o4d.below hb8
  clear hb8 o1e o4d b7
  go_wp2_with fail
  refine (eqIntS_any _ _ _ _ _ ho8.ints o1f.ints (by omega)).mono ?_
  rintro e w9 ⟨rfl, hb9⟩
  have b9 : Below w.heap.size w w9 := b8.trans (hb9.mono b8.size)
  have o4f := o4e.below hb9
  go_wp2_with fail
  refine (heldIntS_any _ _ 1 _ o4f.ints (by omega) (by omega) (by omega)).mono ?_
  rintro e w' ⟨rfl, rfl⟩
  go_wp2
  go_ret
  exact ⟨rfl, b9⟩

set_option maxHeartbeats 3200000 in
theorem FnExactPaidOf_walk (A P B T pay : Int) (w : World) (_hpay : -9223372036854775808 ≤ pay ∧ pay ≤ 9223372036854775807) :
    Calls Try.prog 15 #[.agg #[.int .i64 A, .int .i64 P, .int .i64 B, .int .i64 T], .int .i64 pay] w fun e w' => e = .returned (.bool true) ∧ Below w.heap.size w w' := by
  have hL := paidV_short A P B T pay
  have b0 : Below w.heap.size w (w.alloc (.cells #[.int .i64 A, .int .i64 P, .int .i64 B, .int .i64 T] 45)) := (Below.refl _ _).alloc (Nat.le_refl _) _
  have l0 := HasL.new w A P B T 45
  obtain ⟨c0, c1, c2, c3⟩ := id l0
  go_enter Try.func15, Try.ntmps15
  go_wp2_with fail
  have hz0 : (w.alloc (.cells #[.int .i64 A, .int .i64 P, .int .i64 B, .int .i64 T] 45)).heap.size = w.heap.size + 1 := by simp
  generalize w.alloc (.cells #[.int .i64 A, .int .i64 P, .int .i64 B, .int .i64 T] 45) = w0 at *
  refine (toLoan_any A P B T _).mono ?_
  rintro e w1 ⟨rfl, hb1⟩
  have b1 : Below w.heap.size w w1 := b0.trans (hb1.mono b0.size)
  have l1 := l0.below hb1
  have z1 := hb1.size
  clear b0 c0 c1 c2 c3 l0 hb1
  go_wp2_with fail
  refine (PaidOf_spec A P B T pay _).mono ?_
  rintro e w2 ⟨v1, rfl, ho1, _, hb2⟩
  have b2 : Below w.heap.size w w2 := b1.trans (hb2.mono b1.size)
  have l2 := l1.below hb2
  have z2 := hb2.size
  clear l1
  obtain ⟨c0, c1, c2, c3⟩ := id l2
  go_wp2_with fail
  refine (toLoan_any A P B T _).mono ?_
  rintro e w3 ⟨rfl, hb3⟩
  have b3 : Below w.heap.size w w3 := b2.trans (hb3.mono b2.size)
  have l3 := l2.below hb3
  have o1 := ho1.below hb3
  have z3 := hb3.size
  clear l2 c0 c1 c2 c3 hb3 hb2
  go_wp2_with fail
  refine (PaidOf_impl A P B T pay _).mono ?_
  rintro e w4 ⟨v4, rfl, ho4, hb4⟩
  have b4 : Below w.heap.size w w4 := b3.trans (hb4.mono b3.size)
  have ap : Apart v1 v4 := o1.apart_of_base ho4
  have o1b := o1.below hb4
  have l4 := l3.below hb4
  have o4 := ho4.base (show w.heap.size + 1 ≤ w3.heap.size by omega)
  clear l3
  clear ho1 ho4 o1 hb4
  go_wp2_with fail
  refine (eqIntS_any _ _ _ _ _ o4.ints o1b.ints (by omega)).mono ?_
  rintro e w5 ⟨rfl, hb5⟩
  have b5 : Below w.heap.size w w5 := b4.trans (hb5.mono b4.size)
  have o1c := o1b.below hb5
  have o4b := o4.below hb5
  have l5 := l4.below hb5
  clear l4
  clear o1b o4 hb5 b4
  go_wp2_with fail
  refine (markIntS_any _ _ 1 _ _ o4b (by omega) (by omega) (by omega)).mono ?_
  rintro e w6 ⟨rfl, o4c, hg6⟩
  have o1d := o1c.kept hg6 ap
  have b6 : Below w.heap.size w w6 := b5.trans ((o4b.base (Nat.le_succ _)).pushed_below hg6 b5.size)
  have l6 := l5.kept hg6 (fun e => by have := (o4b.lt _ e).1; omega)
  clear l5
  clear o1c o4b hg6 b5
  go_wp2_with fail
  refine (heldIntS_any _ _ 1 _ o4c.ints (by omega) (by omega) (by omega)).mono ?_
  rintro e w' ⟨rfl, rfl⟩
  have hlt : ¬ (1 + ((paidV A P B T pay).length : Int) < 0) := by omega
  have hne : ((1 + ((paidV A P B T pay).length : Int)) != (1 + ((paidV A P B T pay).length : Int))) = false := by simp
  obtain ⟨c0, c1, c2, c3⟩ := id l6
  go_wp2_with fail
  refine (toLoan_any A P B T _).mono ?_
  rintro e w7 ⟨rfl, hb7⟩
  have b7 : Below w.heap.size w w7 := b6.trans (hb7.mono b6.size)
  have o1e := o1d.below hb7
  have o4d := o4c.below hb7
  clear c0 c1 c2 c3 hb7 l6 o1d o4c b6
  go_wp2_with fail
  refine (PaidOf_impl A P B T pay _).mono ?_
  rintro e w8 ⟨v8, rfl, ho8, hb8⟩
  have b8 : Below w.heap.size w w8 := b7.trans (hb8.mono b7.size)
  have o1f := o1e.below hb8
  have o4e := o4d.below hb8
  clear hb8 o1e o4d b7
  go_wp2_with fail
  refine (eqIntS_any _ _ _ _ _ ho8.ints o1f.ints (by omega)).mono ?_
  rintro e w9 ⟨rfl, hb9⟩
  have b9 : Below w.heap.size w w9 := b8.trans (hb9.mono b8.size)
  have o4f := o4e.below hb9
  go_wp2_with fail
  refine (heldIntS_any _ _ 1 _ o4f.ints (by omega) (by omega) (by omega)).mono ?_
  rintro e w' ⟨rfl, rfl⟩
  go_wp2
  go_ret
  exact ⟨rfl, b9⟩

set_option maxHeartbeats 1600000 in
theorem FnExactWorthOf_walk (v : Value) (xs : List Int) (p b : Int) (w : World) (hv : IsInts w v xs) (hl : xs.length ≤ 9223372036854775807) (_hf : Fits xs) (_hp : -9223372036854775808 ≤ p ∧ p ≤ 9223372036854775807) (_hb : -9223372036854775808 ≤ b ∧ b ≤ 9223372036854775807) :
    Calls Try.prog 17 #[v, .int .i64 p, .int .i64 b] w fun e w' => e = .returned (.bool true) ∧ Below w.heap.size w w' := by
  have hv' := hv
  obtain ⟨a, cap, rfl, hc⟩ := hv
  clear hc
  by_cases hbig : (1048576 : Int) < (xs.length : Int)
  · go_enter Try.func17, Try.ntmps17
    go_wp2
    go_ret
    exact ⟨rfl, Below.refl _ _⟩
  · have hl2 : xs.length ≤ 1048576 := by omega
    go_enter Try.func17, Try.ntmps17
    go_wp2_with fail
    refine (toIntS_any _ xs _ hv' hl2).mono ?_
    rintro e w1 ⟨v1, rfl, ho1, hb1⟩
    go_wp2_with fail
    refine (WorthOf_spec _ xs p b _ ho1.ints hl2).mono ?_
    rintro e w2 ⟨rfl, q, rfl⟩
    have b2 := below_drewN hb1 q
    generalize w1.drewN q = w2 at *
    clear hb1 ho1
    go_wp2_with fail
    refine (toIntS_any _ xs _ (hv'.below b2) hl2).mono ?_
    rintro e w3 ⟨v3, rfl, ho3, hb3⟩
    have b3 : Below w.heap.size w w3 := b2.trans (hb3.mono b2.size)
    go_wp2_with fail
    refine (WorthOf_impl _ xs p b _ ho3.ints hl).mono ?_
    rintro e w4 ⟨rfl, hb4⟩
    have b4 : Below w.heap.size w w4 := b3.trans (hb4.mono b3.size)
    have o3 := ho3.below hb4
    clear b2 b3 hb3 hb4 ho3
    generalize worthU xs p b = U at *
    generalize worthL xs p b = L at *
    go_wp2_with fail
    refine (toIntS_any _ xs _ (hv'.below b4) hl2).mono ?_
    rintro e w5 ⟨v5, rfl, ho5, hb5⟩
    have b5 : Below w.heap.size w w5 := b4.trans (hb5.mono b4.size)
    have o3b := o3.below hb5
    go_wp2_with fail
    refine (eqIntS_any _ _ xs xs _ o3b.ints ho5.ints hl).mono ?_
    rintro e w6 ⟨rfl, hb6⟩
    have b6 : Below w.heap.size w w6 := b5.trans (hb6.mono b5.size)
    go_wp2
    go_ret
    exact ⟨rfl, b6⟩

end Go.Proofs.Ytfgafbjofkicdaa
