/- The law FnExactPayPlan: the walk. -/
import Derived.Test.YtbedjebnllimpaaOwnI
import Derived.Test.YtbedjebnllimpaaOwnH
import Derived.Test.YtbedjebnllimpaaPlanI
import Derived.Test.YtbedjebnllimpaaPayL
import Derived.Test.YtbedjebnllimpaaPayE
namespace Go.Proofs.Ytbedjebnllimpaa
open Go.RowKit

theorem planF_len (f : Nat) : ∀ xs : List Int, (planF f xs).length ≤ f := by
  induction f with
  | zero => intro xs; simp [planF]
  | succ f ih =>
    intro xs
    rw [planF]
    split
    · simp
    · have := ih (stepP xs); simp; omega

theorem planL_length (xs : List Int) : (planL xs).length ≤ 6 := by
  unfold planL
  split
  · rename_i h
    have h1 := planF_len xs.length xs
    have h2 := ((vBal_iff xs).1 h).2.1
    omega
  · exact Nat.zero_le _

theorem apart_lt {m : Nat} {u v : Value} (hu : ∀ k, u.ownBlock = some k → m ≤ k) (hv : ∀ k, v.ownBlock = some k → k < m) : u.ownBlock = none ∨ u.ownBlock ≠ v.ownBlock := by
  cases hb : u.ownBlock with
  | none => exact .inl rfl
  | some k =>
    refine .inr fun e => ?_
    have h1 := hu k hb
    have h2 := hv k e.symm
    omega

theorem OwnP.pushed_below {w w' : World} {B : Nat} {v : Value} {xs : List (Int × Int × Int)} (h : OwnP w B v xs) (hg : w.grownBy w' v.ownBlock) (hB : B ≤ w.heap.size) : Below B w w' :=
  below_grown hg hB (fun k hk => (h.lt k hk).1)

/-- Payments keep while the blocks from m on are written. -/
theorem IsPays.belowAt {m : Nat} {w w' : World} {v : Value} {st : List (Int × Int × Int)} (h : IsPays w v st) (hm : w.heap.size = m) (hb : Below m w w') : IsPays w' v st := by subst hm; exact h.below hb

set_option maxRecDepth 100000 in
set_option maxHeartbeats 3200000 in
theorem FnExactPayPlan_walk (v : Value) (xs : List Int) (w : World) (hv : IsInts w v xs) (hl : xs.length ≤ 9223372036854775807) (_hf : Fits xs) :
    Calls Try.prog 16 #[v] w fun e w' => e = .returned (.bool true) ∧ Below w.heap.size w w' := by
  have hL := planL_length xs
  have hv' := hv
  obtain ⟨a, cap, rfl, hc⟩ := hv
  clear hc
  by_cases hbig : (1048576 : Int) < (xs.length : Int)
  · go_enter Try.func16, Try.ntmps16
    go_wp2
    go_ret
    exact ⟨rfl, Below.refl _ _⟩
  · have hl2 : xs.length ≤ 1048576 := by omega
    go_enter Try.func16, Try.ntmps16
    go_wp2_with fail
    refine (toIntS_any _ xs _ hv' hl2).mono ?_
    rintro e w1 ⟨v1, rfl, ho1, hb1⟩
    go_wp2_with fail
    refine (PayPlan_spec _ xs _ ho1.ints hl).mono ?_
    rintro e w2 ⟨v2, rfl, ho2, hb2⟩
    have i2 := ho2.pays
    have b2 : Below w.heap.size w w2 := hb1.trans (hb2.mono hb1.size)
    generalize hT : planL xs = t at *
    clear ho1 hb2 ho2
    go_wp2_with fail
    refine (toIntS_any _ xs _ (hv'.below b2) hl2).mono ?_
    rintro e w3 ⟨v3, rfl, x3, d3⟩
    have lt3 := x3.lt
    have b3 : Below w.heap.size w w3 := b2.trans (d3.mono b2.size)
    go_wp2_with fail
    refine (PayPlan_impl _ xs _ x3.ints hl).mono ?_
    rintro e w4 ⟨v4, rfl, y4, hb4⟩
    rw [hT] at y4
    have ap : v4.ownBlock = none ∨ v4.ownBlock ≠ v3.ownBlock := apart_lt (fun k hk => (y4.lt k hk).1) (fun k hk => (lt3 k hk).2)
    have x4 := x3.below hb4
    have d4 : Below w2.heap.size w2 w4 := d3.trans (hb4.mono d3.size)
    have b4 : Below w.heap.size w w4 := b3.trans (hb4.mono b3.size)
    have c4 : w3.heap.size ≤ w4.heap.size := hb4.size
    clear x3 hb4 b3
    go_wp2_with fail
    refine (eqPayS_same _ _ t _ y4.pays (i2.below d4) (by omega)).mono ?_
    rintro e w5 ⟨rfl, hb5⟩
    have x5 := x4.below hb5
    have y5 := y4.below hb5
    have d5 := d4.trans (hb5.mono d4.size)
    have b5 := b4.trans (hb5.mono b4.size)
    have c5 : w3.heap.size ≤ w5.heap.size := Nat.le_trans c4 hb5.size
    clear hb5 x4 y4 d4 b4 c4
    go_wp2_with fail
    refine (toIntS_any _ xs _ (hv'.below b5) hl2).mono ?_
    rintro e w6 ⟨v6, rfl, g6, hb6⟩
    have x6 := x5.below hb6
    have y6 := y5.below hb6
    have d6 := d5.trans (hb6.mono d5.size)
    have b6 := b5.trans (hb6.mono b5.size)
    have c6 : w3.heap.size ≤ w6.heap.size := Nat.le_trans c5 hb6.size
    clear hb6 x5 y5 d5 b5 c5
    go_wp2_with fail
    refine (eqIntS_any _ _ xs xs _ x6.ints g6.ints hl).mono ?_
    rintro e w7 ⟨rfl, hb7⟩
    have x7 := x6.below hb7
    have y7 := y6.below hb7
    have d7 := d6.trans (hb7.mono d6.size)
    have b7 := b6.trans (hb7.mono b6.size)
    have c7 : w3.heap.size ≤ w7.heap.size := Nat.le_trans c6 hb7.size
    clear hb7 x6 y6 d6 b6 g6 c6
    go_wp2_with fail
    refine (markIntS_any _ _ 1 _ _ x7 hl2 (by omega) (by omega)).mono ?_
    rintro e w8 ⟨rfl, _, hg8⟩
    have e8 := x7.pushed_below hg8 d7.size
    have d8 := d7.trans e8
    have b8 := b7.trans (e8.mono b2.size)
    have y8 := y7.kept hg8 ap
    have c8 : w3.heap.size ≤ w8.heap.size := Nat.le_trans c7 e8.size
    have k0 : ¬ (1 + (xs.length : Int) < 0) := by omega
    have k0' : decide (1 + (xs.length : Int) < 0) = false := decide_eq_false k0
    clear e8 hg8 x7 y7 d7 b7 lt3 c7
    go_wp2_with fail
    refine (eqPayS_same _ _ t _ y8.pays (i2.below d8) (by omega)).mono ?_
    rintro e w9 ⟨rfl, hb9⟩
    have y9 := y8.below hb9
    have d9 := d8.trans (hb9.mono d8.size)
    have b9 := b8.trans (hb9.mono b8.size)
    have c9 : w3.heap.size ≤ w9.heap.size := Nat.le_trans c8 hb9.size
    clear hb9 y8 d8 b8 c8
    go_wp2_with fail
    refine (markPayS_any _ t 1 _ _ y9 (by omega) (by omega) (by omega)).mono ?_
    rintro e w10 ⟨rfl, y10, hg10⟩
    have e10 := y9.pushed_below hg10 c9
    have d10 := d9.trans (e10.mono d3.size)
    have b10 := b9.trans (e10.mono (Nat.le_trans b2.size d3.size))
    clear y9 d9 b9 c9 e10 hg10
    go_wp2_with fail
    refine (heldPayS_any _ t.length 1 _ y10.pays (by omega) (by omega) (by omega)).mono ?_
    rintro e w' ⟨rfl, rfl⟩
    have q0 : ¬ (1 + 3 * (t.length : Int) < 0) := by omega
    have hne : ((1 + 3 * (t.length : Int)) != (1 + 3 * (t.length : Int))) = false := by simp
    go_wp2_with fail
    refine (toIntS_any _ xs _ (hv'.below b10) hl2).mono ?_
    rintro e w11 ⟨v11, rfl, g11, hb11⟩
    have y11 := y10.below hb11
    have d11 := d10.trans (hb11.mono d10.size)
    have b11 := b10.trans (hb11.mono b10.size)
    clear hb11 y10 d10 b10
    go_wp2_with fail
    refine (PayPlan_impl _ xs _ g11.ints hl).mono ?_
    rintro e w12 ⟨v12, rfl, z12, hb12⟩
    rw [hT] at z12
    have y12 := y11.below hb12
    have d12 := d11.trans (hb12.mono d11.size)
    have b12 := b11.trans (hb12.mono b11.size)
    clear hb12 y11 d11 b11 g11
    go_wp2_with fail
    refine (eqPayS_same _ _ t _ z12.pays (i2.below d12) (by omega)).mono ?_
    rintro e w13 ⟨rfl, hb13⟩
    have y13 := y12.below hb13
    have b13 := b12.trans (hb13.mono b12.size)
    clear hb13 y12 d12 b12 z12
    go_wp2_with fail
    refine (heldPayS_any _ t.length 1 _ y13.pays (by omega) (by omega) (by omega)).mono ?_
    rintro e w' ⟨rfl, rfl⟩
    go_wp2
    go_ret
    exact ⟨rfl, b13⟩

end Go.Proofs.Ytbedjebnllimpaa
