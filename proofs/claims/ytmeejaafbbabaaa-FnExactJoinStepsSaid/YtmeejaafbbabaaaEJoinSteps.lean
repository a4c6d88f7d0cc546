/- The law FnExactJoinSteps: the walk. -/
import Derived.Test.YtmeejaafbbabaaaJoinS
import Derived.Test.YtmeejaafbbabaaaMarkS
namespace Go.Proofs.Ytmeejaafbbabaaa
open Go.RowKit

theorem OwnS.apart {w w' : World} {B : Nat} {u v : Value} {us vs : List (Int × Int)} (hu : OwnS w B u us) (hv : OwnS w' w.heap.size v vs) : Apart u v := by
  cases hk : u.ownBlock with
  | none => exact .inl hk
  | some k =>
      refine .inr fun e => ?_
      have h1 := (hu.lt k hk).2
      have h2 := (hv.lt k (e.symm.trans hk)).1
      omega

theorem joinA_len2 {a b J : List (Int × Int)} {ok : Bool} (h : joinA a b = (J, ok)) : J.length ≤ 2001 := by
  unfold joinA at h
  split at h
  · simp only [Prod.mk.injEq] at h
    rw [← h.1]
    exact js_len a b 2001
  · simp only [Prod.mk.injEq] at h
    rw [← h.1]
    simp

set_option maxRecDepth 100000 in
set_option maxHeartbeats 3200000 in
theorem FnExactJoinSteps_walk (va : Value) (a : List (Int × Int)) (vb : Value) (b : List (Int × Int)) (w : World) (ha : IsSteps w va a) (hla : a.length ≤ 9223372036854775807) (hb : IsSteps w vb b) (hlb : b.length ≤ 9223372036854775807) :
    Calls Try.prog 18 #[va, vb] w fun e w' => e = .returned (.bool true) ∧ Below w.heap.size w w' := by
  have ha0 := ha
  have hb0 := hb
  obtain ⟨aa, ca, rfl, hca⟩ := ha
  obtain ⟨ab, cb, rfl, hcb⟩ := hb
  clear hca hcb
  by_cases hbig : (1048576 : Int) < (a.length : Int)
  · go_enter Try.func18, Try.ntmps18
    go_wp2_with fail
    refine (szStepS_over _ _ _ _ _ (by omega) hla hbig).mono ?_
    rintro e w1 ⟨rfl, rfl⟩
    go_wp2
    go_ret
    exact ⟨rfl, Below.refl _ _⟩
  · by_cases hbig2 : (1048576 : Int) - (a.length : Int) < (b.length : Int)
    · have hsz : ¬ ((1048576 : Int) - (a.length : Int) < 0) := by omega
      go_enter Try.func18, Try.ntmps18
      go_wp2_with fail
      refine (szStepS_fit _ _ _ _ _ (by omega) (by omega)).mono ?_
      rintro e w1 ⟨rfl, rfl⟩
      go_wp2_with fail
      refine (szStepS_over _ _ _ _ _ (by omega) hlb hbig2).mono ?_
      rintro e w1 ⟨rfl, rfl⟩
      go_wp2
      go_ret
      exact ⟨rfl, Below.refl _ _⟩
    · have hsz : ¬ ((1048576 : Int) - (a.length : Int) < 0) := by omega
      have hsz2 : ¬ ((1048576 : Int) - (a.length : Int) - (b.length : Int) < 0) := by omega
      have la : a.length ≤ 1048576 := by omega
      have lb : b.length ≤ 1048576 := by omega
      obtain ⟨J, ok, hE⟩ : ∃ J ok, joinA a b = (J, ok) := ⟨_, _, rfl⟩
      have hJl := joinA_len2 hE
      have HE := Lib.hid hE
      clear hE
      go_enter Try.func18, Try.ntmps18
      go_wp2_with fail
      refine (szStepS_fit _ _ _ _ _ (by omega) (by omega)).mono ?_
      rintro e w0 ⟨rfl, rfl⟩
      go_wp2_with fail
      refine (szStepS_fit _ _ _ _ _ (by omega) (by omega)).mono ?_
      rintro e w0 ⟨rfl, rfl⟩
      have b0 : Below w.heap.size w w := Below.refl _ _
      go_wp2_with fail
      refine (toStepS_any _ a w (ha0.below b0) la).mono ?_
      rintro e w1 ⟨v1, rfl, v1o_1, hb1⟩
      have b1 : Below w.heap.size w w1 := b0.trans (hb1.mono b0.size)
      clear hb1
      go_wp2_with fail
      refine (toStepS_any _ b w1 (hb0.below b1) lb).mono ?_
      rintro e w2 ⟨v2, rfl, v2o_2, hb2⟩
      have b2 : Below w.heap.size w w2 := b1.trans (hb2.mono b1.size)
      have v1o_2 := v1o_1.below hb2
      clear v1o_1 hb2
      go_wp2_with fail
      refine (JoinSteps_spec v1 v2 a b w2 v1o_2.steps v2o_2.steps hla hlb).mono ?_
      rintro e w3 ⟨vw, rfl, vwo_3, hb3⟩
      rw [HE.out] at vwo_3 ⊢
      have b3 : Below w.heap.size w w3 := b2.trans (hb3.mono b2.size)
      have v1o_3 := v1o_2.below hb3
      have v2o_3 := v2o_2.below hb3
      clear v1o_2 v2o_2 hb3
      clear v1o_3
      clear v2o_3
      go_wp2_with fail
      refine (toStepS_any _ a w3 (ha0.below b3) la).mono ?_
      rintro e w4 ⟨x0, rfl, x0o_4, hb4⟩
      have apw0 := vwo_3.apart x0o_4
      have sx0 : w.heap.size ≤ w3.heap.size := b3.size
      have b4 : Below w.heap.size w w4 := b3.trans (hb4.mono b3.size)
      have vwo_4 := vwo_3.below hb4
      clear vwo_3 hb4
      go_wp2_with fail
      refine (toStepS_any _ b w4 (hb0.below b4) lb).mono ?_
      rintro e w5 ⟨x1, rfl, x1o_5, hb5⟩
      have apw1 := vwo_4.apart x1o_5
      have ap01 := x0o_4.apart x1o_5
      have sx1 : w.heap.size ≤ w4.heap.size := b4.size
      have b5 : Below w.heap.size w w5 := b4.trans (hb5.mono b4.size)
      have vwo_5 := vwo_4.below hb5
      have x0o_5 := x0o_4.below hb5
      clear vwo_4 x0o_4 hb5
      go_wp2_with fail
      refine (JoinSteps_impl x0 x1 a b w5 x0o_5.steps x1o_5.steps hla hlb).mono ?_
      rintro e w6 ⟨vg, rfl, vgo_6, hb6⟩
      have apwg := vwo_5.apart vgo_6
      have ap0g := x0o_5.apart vgo_6
      have ap1g := x1o_5.apart vgo_6
      have svg : w.heap.size ≤ w5.heap.size := b5.size
      rw [HE.out] at vgo_6 ⊢
      have b6 : Below w.heap.size w w6 := b5.trans (hb6.mono b5.size)
      have vwo_6 := vwo_5.below hb6
      have x0o_6 := x0o_5.below hb6
      have x1o_6 := x1o_5.below hb6
      clear vwo_5 x0o_5 x1o_5 hb6
      go_wp2_with fail
      refine (eqStepS_any vg vw J J w6 vgo_6.steps vwo_6.steps (by omega)).mono ?_
      rintro e w7 ⟨rfl, hb7⟩
      rw [decide_eq_true rfl]
      have b7 : Below w.heap.size w w7 := b6.trans (hb7.mono b6.size)
      have vwo_7 := vwo_6.below hb7
      have x0o_7 := x0o_6.below hb7
      have x1o_7 := x1o_6.below hb7
      have vgo_7 := vgo_6.below hb7
      clear vwo_6 x0o_6 x1o_6 vgo_6 hb7
      go_wp2_with fail
      refine (toStepS_any _ a w7 (ha0.below b7) la).mono ?_
      rintro e w8 ⟨y0, rfl, y0o_8, hb8⟩
      have b8 : Below w.heap.size w w8 := b7.trans (hb8.mono b7.size)
      have vwo_8 := vwo_7.below hb8
      have x0o_8 := x0o_7.below hb8
      have x1o_8 := x1o_7.below hb8
      have vgo_8 := vgo_7.below hb8
      clear vwo_7 x0o_7 x1o_7 vgo_7 hb8
      go_wp2_with fail
      refine (eqStepS_any x0 y0 a a w8 x0o_8.steps y0o_8.steps (by omega)).mono ?_
      rintro e w9 ⟨rfl, hb9⟩
      rw [decide_eq_true rfl]
      have b9 : Below w.heap.size w w9 := b8.trans (hb9.mono b8.size)
      have vwo_9 := vwo_8.below hb9
      have x0o_9 := x0o_8.below hb9
      have x1o_9 := x1o_8.below hb9
      have vgo_9 := vgo_8.below hb9
      have y0o_9 := y0o_8.below hb9
      clear vwo_8 x0o_8 x1o_8 vgo_8 y0o_8 hb9
      clear y0o_9
      go_wp2_with fail
      refine (toStepS_any _ b w9 (hb0.below b9) lb).mono ?_
      rintro e w10 ⟨y1, rfl, y1o_10, hb10⟩
      have b10 : Below w.heap.size w w10 := b9.trans (hb10.mono b9.size)
      have vwo_10 := vwo_9.below hb10
      have x0o_10 := x0o_9.below hb10
      have x1o_10 := x1o_9.below hb10
      have vgo_10 := vgo_9.below hb10
      clear vwo_9 x0o_9 x1o_9 vgo_9 hb10
      go_wp2_with fail
      refine (eqStepS_any x1 y1 b b w10 x1o_10.steps y1o_10.steps (by omega)).mono ?_
      rintro e w11 ⟨rfl, hb11⟩
      rw [decide_eq_true rfl]
      have b11 : Below w.heap.size w w11 := b10.trans (hb11.mono b10.size)
      have vwo_11 := vwo_10.below hb11
      have x0o_11 := x0o_10.below hb11
      have x1o_11 := x1o_10.below hb11
      have vgo_11 := vgo_10.below hb11
      have y1o_11 := y1o_10.below hb11
      clear vwo_10 x0o_10 x1o_10 vgo_10 y1o_10 hb11
      clear y1o_11
      go_wp2_with fail
      refine (markStepS_any x0 a (1) _ w11 x0o_11 (by omega) (by omega) (by omega)).mono ?_
      rintro e w12 ⟨rfl, x0o_12, g12⟩
      have b12 : Below w.heap.size w w12 := b11.trans (below_grownS g12 b11.size (fun q hq => by have := (x0o_11.lt q hq).1; have := sx0; omega))
      have vwo_12 := vwo_11.kept g12 apw0
      have vgo_12 := vgo_11.kept g12 (ap0g.symm)
      have x1o_12 := x1o_11.kept g12 (ap01.symm)
      clear vwo_11 x0o_11 x1o_11 vgo_11 g12
      clear x0o_12
      go_wp2_with fail
      refine (markStepS_any x1 b (1 + 2 * (a.length : Int)) _ w12 x1o_12 (by omega) (by omega) (by omega)).mono ?_
      rintro e w13 ⟨rfl, x1o_13, g13⟩
      have b13 : Below w.heap.size w w13 := b12.trans (below_grownS g13 b12.size (fun q hq => by have := (x1o_12.lt q hq).1; have := sx1; omega))
      have vwo_13 := vwo_12.kept g13 apw1
      have vgo_13 := vgo_12.kept g13 (ap1g.symm)
      clear vwo_12 x1o_12 vgo_12 g13
      clear x1o_13
      have hq1 : ¬ (1 + 2 * (a.length : Int) + 2 * (b.length : Int) < 0) := by omega
      go_wp2_with fail
      refine (eqStepS_any vg vw J J w13 vgo_13.steps vwo_13.steps (by omega)).mono ?_
      rintro e w14 ⟨rfl, hb14⟩
      rw [decide_eq_true rfl]
      have b14 : Below w.heap.size w w14 := b13.trans (hb14.mono b13.size)
      have vwo_14 := vwo_13.below hb14
      have vgo_14 := vgo_13.below hb14
      clear vwo_13 vgo_13 hb14
      go_wp2_with fail
      refine (markStepS_any vg J (1) _ w14 vgo_14 (by omega) (by omega) (by omega)).mono ?_
      rintro e w15 ⟨rfl, vgo_15, g15⟩
      have b15 : Below w.heap.size w w15 := b14.trans (below_grownS g15 b14.size (fun q hq => by have := (vgo_14.lt q hq).1; have := svg; omega))
      have vwo_15 := vwo_14.kept g15 apwg
      clear vwo_14 vgo_14 g15
      go_wp2_with fail
      refine (heldStepS_any vg J.length 1 w15 vgo_15.steps (by omega) (by omega) (by omega)).mono ?_
      rintro e w99 ⟨rfl, rfl⟩
      have hq2 : ¬ (1 + 2 * (J.length : Int) < 0) := by omega
      go_wp2_with fail
      refine (toStepS_any _ a w15 (ha0.below b15) la).mono ?_
      rintro e w16 ⟨z0, rfl, z0o_16, hb16⟩
      have b16 : Below w.heap.size w w16 := b15.trans (hb16.mono b15.size)
      have vwo_16 := vwo_15.below hb16
      have vgo_16 := vgo_15.below hb16
      clear vwo_15 vgo_15 hb16
      go_wp2_with fail
      refine (toStepS_any _ b w16 (hb0.below b16) lb).mono ?_
      rintro e w17 ⟨z1, rfl, z1o_17, hb17⟩
      have b17 : Below w.heap.size w w17 := b16.trans (hb17.mono b16.size)
      have vwo_17 := vwo_16.below hb17
      have vgo_17 := vgo_16.below hb17
      have z0o_17 := z0o_16.below hb17
      clear vwo_16 vgo_16 z0o_16 hb17
      go_wp2_with fail
      refine (JoinSteps_impl z0 z1 a b w17 z0o_17.steps z1o_17.steps hla hlb).mono ?_
      rintro e w18 ⟨vh, rfl, vho_18, hb18⟩
      rw [HE.out] at vho_18 ⊢
      have b18 : Below w.heap.size w w18 := b17.trans (hb18.mono b17.size)
      have vwo_18 := vwo_17.below hb18
      have vgo_18 := vgo_17.below hb18
      have z0o_18 := z0o_17.below hb18
      have z1o_18 := z1o_17.below hb18
      clear vwo_17 vgo_17 z0o_17 z1o_17 hb18
      clear z0o_18
      clear z1o_18
      go_wp2_with fail
      refine (eqStepS_any vh vw J J w18 vho_18.steps vwo_18.steps (by omega)).mono ?_
      rintro e w19 ⟨rfl, hb19⟩
      rw [decide_eq_true rfl]
      have b19 : Below w.heap.size w w19 := b18.trans (hb19.mono b18.size)
      have vwo_19 := vwo_18.below hb19
      have vgo_19 := vgo_18.below hb19
      have vho_19 := vho_18.below hb19
      clear vwo_18 vgo_18 vho_18 hb19
      go_wp2_with fail
      refine (heldStepS_any vg J.length 1 w19 vgo_19.steps (by omega) (by omega) (by omega)).mono ?_
      rintro e w99 ⟨rfl, rfl⟩
      have hq2 : ¬ (1 + 2 * (J.length : Int) < 0) := by omega
      go_wp2
      go_ret
      exact ⟨rfl, b19⟩

end Go.Proofs.Ytmeejaafbbabaaa
