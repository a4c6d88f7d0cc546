/- The law FnExactAfterPays: the walk. -/
import Derived.Test.YtbedjebnllimpaaOwnI
import Derived.Test.YtbedjebnllimpaaOwnH
import Derived.Test.YtbedjebnllimpaaAftI
import Derived.Test.YtbedjebnllimpaaEPlan
namespace Go.Proofs.Ytbedjebnllimpaa
open Go.RowKit

theorem afterL_length (xs : List Int) (st : List (Int × Int × Int)) : ((afterL xs st).getD []).length ≤ 6 := by
  cases h : afterL xs st with
  | none => exact Nat.zero_le _
  | some ys =>
    have h1 := (vBal_iff xs)
    unfold afterL at h
    split at h
    · rename_i hc
      cases ha : afterF st st.length 0 xs with
      | none => rw [ha] at h; cases h
      | some zs =>
        rw [ha] at h
        unfold okBal at h
        simp only at h
        split at h
        · rename_i hz
          simp only [Option.some.injEq] at h
          subst h
          exact ((vBal_iff zs).1 hz).2.1.2
        · cases h
    · cases h

set_option maxRecDepth 100000 in
set_option maxHeartbeats 6400000 in
theorem FnExactAfterPays_walk (v : Value) (xs : List Int) (u : Value) (st : List (Int × Int × Int)) (w : World) (hv : IsInts w v xs) (hl : xs.length ≤ 9223372036854775807) (_hf : Fits xs) (hu : IsPays w u st) (hlu : st.length ≤ 9223372036854775807) :
    Calls Try.prog 17 #[v, u] w fun e w' => e = .returned (.bool true) ∧ Below w.heap.size w w' := by
  have hL := afterL_length xs st
  have hv' := hv
  have hu' := hu
  obtain ⟨a, cap, rfl, hc⟩ := hv
  obtain ⟨au, cu, rfl, hcu⟩ := hu
  clear hc hcu
  by_cases hbig : (1048576 : Int) < (xs.length : Int)
  · go_enter Try.func17, Try.ntmps17
    go_wp2
    go_ret
    exact ⟨rfl, Below.refl _ _⟩
  · have hl2 : xs.length ≤ 1048576 := by omega
    go_enter Try.func17, Try.ntmps17
    go_wp2_with fail
    refine (szPayS_any _ _ _ _ _ (by omega) hlu).mono ?_
    rintro e w' ⟨r, rfl, hr, rfl⟩
    rcases hr with rfl | ⟨hr0, hr1⟩
    · go_wp2
      go_ret
      exact ⟨rfl, Below.refl _ _⟩
    have hst : st.length ≤ 1048576 := by omega
    have hn : ¬ (r < 0) := by omega
    clear hr1
    go_wp2_with fail
    refine (toIntS_any _ xs _ hv' hl2).mono ?_
    rintro e w1 ⟨v1, rfl, ho1, hb1⟩
    go_wp2_with fail
    refine (toPayS_any _ st _ (hu'.below hb1) hst).mono ?_
    rintro e w1b ⟨u1, rfl, hp1, hb1b⟩
    have b1b : Below w.heap.size w w1b := hb1.trans (hb1b.mono hb1.size)
    go_wp2_with fail
    refine (AfterPays_spec _ _ xs st _ (ho1.below hb1b).ints hl hp1.pays hlu).mono ?_
    rintro e w2 ⟨v2, rfl, ho2, hb2⟩
    have i2 := ho2.ints
    have b2 : Below w.heap.size w w2 := b1b.trans (hb2.mono b1b.size)
    generalize hT : (afterL xs st).getD [] = t at *
    generalize hO : (afterL xs st).isSome = ok at *
    clear ho1 hb2 ho2 hp1 hb1b
    have hok : (ok != ok) = false := by simp
    go_wp2_with fail
    refine (toIntS_any _ xs _ (hv'.below b2) hl2).mono ?_
    rintro e w3 ⟨v3, rfl, x3, d3⟩
    have b3 : Below w.heap.size w w3 := b2.trans (d3.mono b2.size)
    go_wp2_with fail
    refine (toPayS_any _ st _ (hu'.below b3) hst).mono ?_
    rintro e w3b ⟨u3, rfl, p3, e3⟩
    have x3b := x3.below e3
    have d3b : Below w2.heap.size w2 w3b := d3.trans (e3.mono d3.size)
    have b3b : Below w.heap.size w w3b := b2.trans (d3b.mono b2.size)
    have lt3 := x3b.lt
    have ltp := p3.lt
    have ap3 : u3.ownBlock = none ∨ u3.ownBlock ≠ v3.ownBlock := apart_lt (fun k hk => (p3.lt k hk).1) (fun k hk => (x3.lt k hk).2)
    have cc : w2.heap.size ≤ w3.heap.size := d3.size
    clear x3 d3 e3
    go_wp2_with fail
    refine (AfterPays_impl _ _ xs st _ x3b.ints hl p3.pays hlu).mono ?_
    rintro e w4 ⟨v4, rfl, y4, hb4⟩
    rw [hT] at y4
    rw [hO]
    have ap4 : v4.ownBlock = none ∨ v4.ownBlock ≠ v3.ownBlock := apart_lt (fun k hk => (y4.lt k hk).1) (fun k hk => (lt3 k hk).2)
    have ap5 : v4.ownBlock = none ∨ v4.ownBlock ≠ u3.ownBlock := apart_lt (fun k hk => (y4.lt k hk).1) (fun k hk => (ltp k hk).2)
    have x4 := x3b.below hb4
    have q4 := (p3.below hb4).base cc
    have d4 : Below w2.heap.size w2 w4 := d3b.trans (hb4.mono d3b.size)
    have b4 : Below w.heap.size w w4 := b3b.trans (hb4.mono b3b.size)
    have c4 : w3b.heap.size ≤ w4.heap.size := hb4.size
    have c3 : w2.heap.size ≤ w3b.heap.size := d3b.size
    clear x3b hb4 b3b p3
    go_wp2_with fail
    refine (eqIntS_any _ _ t t _ y4.ints (i2.below d4) (by omega)).mono ?_
    rintro e w5 ⟨rfl, hb5⟩
    have x5 := x4.below hb5
    have q5 := q4.below hb5
    have y5 := y4.below hb5
    have d5 := d4.trans (hb5.mono d4.size)
    have b5 := b4.trans (hb5.mono b4.size)
    have c5 : w3b.heap.size ≤ w5.heap.size := Nat.le_trans c4 hb5.size
    clear hb5 x4 y4 d4 b4 c4 q4
    go_wp2_with fail
    refine (toIntS_any _ xs _ (hv'.below b5) hl2).mono ?_
    rintro e w6 ⟨v6, rfl, g6, hb6⟩
    have x6 := x5.below hb6
    have q6 := q5.below hb6
    have y6 := y5.below hb6
    have d6 := d5.trans (hb6.mono d5.size)
    have b6 := b5.trans (hb6.mono b5.size)
    have c6 : w3b.heap.size ≤ w6.heap.size := Nat.le_trans c5 hb6.size
    clear hb6 x5 y5 d5 b5 c5 q5
    go_wp2_with fail
    refine (eqIntS_any _ _ xs xs _ x6.ints g6.ints hl).mono ?_
    rintro e w7 ⟨rfl, hb7⟩
    have x7 := x6.below hb7
    have q7 := q6.below hb7
    have y7 := y6.below hb7
    have d7 := d6.trans (hb7.mono d6.size)
    have b7 := b6.trans (hb7.mono b6.size)
    have c7 : w3b.heap.size ≤ w7.heap.size := Nat.le_trans c6 hb7.size
    clear hb7 x6 y6 d6 b6 g6 c6 q6
    go_wp2_with fail
    refine (toPayS_any _ st _ (hu'.below b7) hst).mono ?_
    rintro e w8 ⟨u8, rfl, g8, hb8⟩
    have x8 := x7.below hb8
    have q8 := q7.below hb8
    have y8 := y7.below hb8
    have d8 := d7.trans (hb8.mono d7.size)
    have b8 := b7.trans (hb8.mono b7.size)
    have c8 : w3b.heap.size ≤ w8.heap.size := Nat.le_trans c7 hb8.size
    clear hb8 x7 y7 d7 b7 c7 q7
    go_wp2_with fail
    refine (eqPayS_same _ _ st _ q8.pays g8.pays hlu).mono ?_
    rintro e w9 ⟨rfl, hb9⟩
    have x9 := x8.below hb9
    have q9 := q8.below hb9
    have y9 := y8.below hb9
    have d9 := d8.trans (hb9.mono d8.size)
    have b9 := b8.trans (hb9.mono b8.size)
    have c9 : w3b.heap.size ≤ w9.heap.size := Nat.le_trans c8 hb9.size
    clear hb9 x8 y8 d8 b8 c8 q8 g8
    go_wp2_with fail
    refine (markIntS_any _ _ 1 _ _ x9 hl2 (by omega) (by omega)).mono ?_
    rintro e w10 ⟨rfl, _, hg10⟩
    have e10 := x9.pushed_below hg10 d9.size
    have d10 := d9.trans e10
    have b10 := b9.trans (e10.mono b2.size)
    have y10 := y9.kept hg10 ap4
    have q10 := q9.kept hg10 ap3
    have c10 : w3b.heap.size ≤ w10.heap.size := Nat.le_trans c9 e10.size
    clear e10 hg10 x9 y9 d9 b9 lt3 c9 q9
    go_wp2_with fail
    refine (markPayS_any _ st (1 + (xs.length : Int)) _ _ q10 (by omega) (by omega) (by omega)).mono ?_
    rintro e w11 ⟨rfl, _, hg11⟩
    have e11 := q10.pushed_below hg11 d10.size
    have d11 := d10.trans e11
    have b11 := b10.trans (e11.mono b2.size)
    have y11 := y10.kept hg11 ap5
    have c11 : w3b.heap.size ≤ w11.heap.size := Nat.le_trans c10 e11.size
    have k0 : ¬ (1 + (xs.length : Int) + 3 * (st.length : Int) < 0) := by omega
    have k0' : decide (1 + (xs.length : Int) + 3 * (st.length : Int) < 0) = false := decide_eq_false k0
    clear e11 hg11 y10 d10 b10 c10 q10
    go_wp2_with fail
    refine (eqIntS_any _ _ t t _ y11.ints (i2.below d11) (by omega)).mono ?_
    rintro e w12 ⟨rfl, hb12⟩
    have y12 := y11.below hb12
    have d12 := d11.trans (hb12.mono d11.size)
    have b12 := b11.trans (hb12.mono b11.size)
    have c12 : w3b.heap.size ≤ w12.heap.size := Nat.le_trans c11 hb12.size
    clear hb12 y11 d11 b11 c11
    go_wp2_with fail
    refine (markIntS_any _ _ 1 _ _ y12 (by omega) (by omega) (by omega)).mono ?_
    rintro e w13 ⟨rfl, y13, hg13⟩
    have e13 := y12.pushed_below hg13 c12
    have d13 := d12.trans (e13.mono c3)
    have b13 := b12.trans (e13.mono (Nat.le_trans b2.size c3))
    clear y12 d12 b12 c12 e13 hg13
    go_wp2_with fail
    refine (heldIntS_any _ _ 1 _ y13.ints (by omega) (by omega) (by omega)).mono ?_
    rintro e w' ⟨rfl, rfl⟩
    have q0 : ¬ (1 + (t.length : Int) < 0) := by omega
    have hne : ((1 + (t.length : Int)) != (1 + (t.length : Int))) = false := by simp
    go_wp2_with fail
    refine (toIntS_any _ xs _ (hv'.below b13) hl2).mono ?_
    rintro e w14 ⟨v14, rfl, g14, hb14⟩
    have y14 := y13.below hb14
    have d14 := d13.trans (hb14.mono d13.size)
    have b14 := b13.trans (hb14.mono b13.size)
    clear hb14 y13 d13 b13
    go_wp2_with fail
    refine (toPayS_any _ st _ (hu'.below b14) hst).mono ?_
    rintro e w15 ⟨u15, rfl, g15, hb15⟩
    have y15 := y14.below hb15
    have h14 := g14.below hb15
    have d15 := d14.trans (hb15.mono d14.size)
    have b15 := b14.trans (hb15.mono b14.size)
    clear hb15 y14 d14 b14 g14
    go_wp2_with fail
    refine (AfterPays_impl _ _ xs st _ h14.ints hl g15.pays hlu).mono ?_
    rintro e w16 ⟨v16, rfl, z16, hb16⟩
    rw [hT] at z16
    rw [hO]
    have y16 := y15.below hb16
    have d16 := d15.trans (hb16.mono d15.size)
    have b16 := b15.trans (hb16.mono b15.size)
    clear hb16 y15 d15 b15 h14 g15
    go_wp2_with fail
    refine (eqIntS_any _ _ t t _ z16.ints (i2.below d16) (by omega)).mono ?_
    rintro e w17 ⟨rfl, hb17⟩
    have y17 := y16.below hb17
    have b17 := b16.trans (hb17.mono b16.size)
    clear hb17 y16 d16 b16 z16
    go_wp2_with fail
    refine (heldIntS_any _ _ 1 _ y17.ints (by omega) (by omega) (by omega)).mono ?_
    rintro e w' ⟨rfl, rfl⟩
    go_wp2
    go_ret
    exact ⟨rfl, b17⟩

end Go.Proofs.Ytbedjebnllimpaa
