/- Plans of payments, in the program. -/
import Derived.Test.YtbedjebnllimpaaPlanS
import Derived.Test.YtbedjebnllimpaaMostI
import Derived.Test.YtbedjebnllimpaaBalI
import Derived.Test.YtbedjebnllimpaaSettle
import Derived.StillTailTactics
import Derived.Deep.LoopGhost
namespace Go.Proofs.Ytbedjebnllimpaa
open Go.RowKit Go.Maps

theorem stl_step {ys : List Int} (hv : vBal ys = true) (h : loV ys ≠ hiV ys) : stl ys (loN ys ys.length) (hiN ys ys.length) (payX ys) = stepP ys := by
  obtain ⟨p1, p2, p3⟩ := plan_bounds hv
  obtain ⟨_, _, o3⟩ := plan_open hv h
  unfold stl stepP
  rw [getD_setI _ _ _ _ p2, if_neg (fun e => o3 e.symm)]
  rfl

/-- Nobody must pay exactly if the least balance is the greatest. -/
theorem owF_ex {ys : List Int} (hv : vBal ys = true) : (∃ j, owF ys ys.length j = true) ↔ loV ys ≠ hiV ys := by
  constructor
  · rintro ⟨j, hj⟩ he
    have hj := owF_iff.1 hj
    have := plan_settled hv he j hj.1
    omega
  · intro h
    have h1 := (plan_open hv h).1
    exact ⟨loN ys ys.length, owF_iff.2 ⟨(plan_bounds hv).1, h1⟩⟩

theorem payX_le {ys : List Int} : payX ys ≤ hiV ys ∧ payX ys ≤ -loV ys := by unfold payX; split <;> omega

theorem owF_eq {a b : Bool} (h : a = true ↔ b = true) : a = b := by cases a <;> cases b <;> simp_all

/-- Who must pay behind a payment. -/
theorem owF_step {ys : List Int} (hv : vBal ys = true) (h : loV ys ≠ hiV ys) (j : Nat) : owF (stepP ys) ys.length j = (owF ys ys.length j && !(decide (loV ys + payX ys = 0) && j == loN ys ys.length)) := by
  obtain ⟨o1, o2, o3⟩ := plan_open hv h
  have hx := payX_le (ys := ys)
  apply owF_eq
  rw [owF_iff, Bool.and_eq_true, owF_iff]
  simp only [Bool.not_eq_true', Bool.and_eq_false_imp, decide_eq_true_eq, beq_eq_false_iff_ne]
  constructor
  · rintro ⟨hj, hs⟩
    rw [step_at hj] at hs
    by_cases e1 : j = hiN ys ys.length
    · rw [if_pos e1] at hs; omega
    · rw [if_neg e1] at hs
      by_cases e2 : j = loN ys ys.length
      · rw [if_pos e2] at hs
        subst e2
        exact ⟨⟨hj, o1⟩, fun hz => by omega⟩
      · rw [if_neg e2] at hs
        exact ⟨⟨hj, hs⟩, fun _ => e2⟩
  · rintro ⟨⟨hj, hs⟩, hn⟩
    refine ⟨hj, ?_⟩
    rw [step_at hj]
    by_cases e1 : j = hiN ys ys.length
    · exfalso
      subst e1
      change hiV ys < 0 at hs
      omega
    · rw [if_neg e1]
      by_cases e2 : j = loN ys ys.length
      · rw [if_pos e2]
        have : loV ys + payX ys ≠ 0 := fun hz => hn hz e2
        omega
      · rw [if_neg e2]; exact hs

set_option maxRecDepth 100000 in
set_option maxHeartbeats 6400000 in
theorem PayPlan_impl (v : Value) (xs : List Int) (w : World) (hv : IsInts w v xs) (hl : xs.length ≤ 9223372036854775807) :
    Calls Try.prog 40 #[v] w fun e w' => ∃ v', e = .returned v' ∧ OwnP w' w.heap.size v' (planL xs) ∧ Below w.heap.size w w' := by
  have H := Lib.hid (areBalances_impl v xs w hv hl)
  cases hd : vBal xs
  · have E : Hid (planL xs = []) := by show planL xs = []; rw [planL, hd]; rfl
    have h := H.out
    rw [hd] at h
    have H2 := Lib.hid h
    obtain ⟨a, cap, rfl, _⟩ := hv
    clear h hd
    go_enter Try.func40, Try.ntmps40
    go_wp2_with fail
    refine H2.out.mono ?_
    rintro e w' ⟨rfl, rfl⟩
    go_wp2
    go_ret
    exact ⟨_, rfl, by rw [E.out]; exact own_nilP _ _, Below.refl _ _⟩
  · have E : Hid (planL xs = planF xs.length xs) := by show planL xs = _; rw [planL, if_pos hd]
    have h := H.out
    rw [hd] at h
    have H2 := Lib.hid h
    have hn := ((vBal_iff xs).1 hd).2.1
    have HV := Lib.hid hv
    have HD := Lib.hid hd
    have HCL := Lib.hid (Clone_impl v xs w hv hn.1 (by omega))
    obtain ⟨a, cap, rfl, _⟩ := hv
    clear h hd
    go_enter Try.func40, Try.ntmps40
    go_wp2_with fail
    refine H2.out.mono ?_
    rintro e w' ⟨rfl, rfl⟩
    go_wp2_with fail
    refine HCL.out.mono ?_
    rintro e w1 ⟨g, capg, rfl, hgw, o1, hb1⟩
    have HOW := Lib.hid (owingOf_impl g xs.length capg xs w.heap.size w1 o1 rfl hn.2)
    have hgl := (o1.lt g rfl).2
    go_wp2_with fail
    refine HOW.out.mono ?_
    rintro e w2 ⟨rfl, ⟨D0, hm0, hD0⟩, hb2⟩
    have o2 := o1.below hb2
    have hs1 := hb1.size
    have hb02 : Below w.heap.size w w2 := hb1.trans (hb2.mono hb1.size)
    have op : OwnP w2 w.heap.size (.slice none 0 0) [] := own_nilP _ _
    have hbm : w1.heap.size ≠ g := by omega
    have hk0 := (kC_nonneg xs xs.length).2
    have hwm : w.heap.size ≤ w1.heap.size := hs1
    generalize w1.heap.size = bm at *
    clear o1 hb1 hb2 H2 HCL HOW
    go_wp2
    go_loopg [5] xs.length (fun gh ov wr => ∃ (ys : List Int) (st : List (Int × Int × Int)) (D : DataW Unit), ys.length = xs.length ∧ vBal ys = true ∧ kC ys ys.length ≤ gh ∧ st ++ planF gh ys = planF xs.length xs ∧ st.length + gh ≤ xs.length ∧ Own wr w.heap.size (sl g xs.length capg) ys ∧ OwnP wr w.heap.size ov st ∧ ov.ownBlock ≠ some g ∧ ov.ownBlock ≠ some bm ∧ wr.ownsMap Try.prog 3 (ptrR g) bm xs.length D ∧ OwD (owF ys xs.length) D ∧ Below w.heap.size w wr)
    case atStart => exact ⟨xs, [], D0, rfl, HD.out, hk0, rfl, by simp, o2, op, by simp [Value.ownBlock], by simp [Value.ownBlock], hm0, hD0, hb02⟩
    case round =>
      obtain ⟨ys, st, D, hyl, hvy, hky, hpl, hsl, hown, hop, hon, hom, hm, hDD, hbl⟩ := hrel
      rename World => wo
      clear o2 op hm0 hD0 hb02
      have hvi := (vBal_iff ys).1 hvy
      have HYB := Lib.hid hvi.1
      have HVY := Lib.hid hvy
      have HPL := Lib.hid hpl
      have HKY := Lib.hid hky
      have HYL := Lib.hid hyl
      have HSZ := Lib.hid (hDD.size hm)
      have hex := owF_ex hvy
      rw [hyl] at hex
      have HEX := Lib.hid hex
      clear hvi hpl hky hvy hyl hex
      by_cases heq : loV ys = hiV ys
      · have P3 : Hid (OwnP wo w.heap.size u5 (planL xs)) := by
          show OwnP _ _ _ _
          have h := HPL.out
          rw [planF_end heq, List.append_nil] at h
          rw [E.out, ← h]; exact hop
        have hz : ¬ (0 : Int) < ((Maps.size D : Nat) : Int) := fun h => (HEX.out.1 (HSZ.out.1 (by omega))) heq
        clear heq hop hown
        go_wp2_with (at_len; refine wpList_len_own _ rfl _ 64 rfl 3 58 Try.underlying64 _ bm xs.length D rfl hm ?_)
        go_wp2
        go_ret
        exact ⟨_, rfl, P3.out, hbl⟩
      · have hz : (0 : Int) < ((Maps.size D : Nat) : Int) := by have := HSZ.out.2 (HEX.out.2 heq); omega
        have hmo := mostOwing_impl g xs.length capg ys w.heap.size bm xs.length D wo hown HYL.out hn.2 hm hDD (HEX.out.2 heq)
        have HMO := Lib.hid hmo
        have hk2 := step_kC HVY.out heq
        have hsv := step_vBal HVY.out heq
        have hopn := plan_open HVY.out heq
        have hstl := stl_step HVY.out heq
        have HST := Lib.hid (owF_step HVY.out heq)
        rw [HYL.out] at hk2 hopn hstl
        have hkg := HKY.out
        rw [HYL.out] at hkg
        have hidx : ∀ r, IsIdx ys (ys.getD (hiN ys ys.length) 0) r → r = (hiN ys ys.length : Nat) := fun r hr => idx_hi (by rw [HYL.out]; exact hn.1) hr
        rw [HYL.out] at hidx
        have HIX := Lib.hid hidx
        obtain ⟨b1, b2, _⟩ := plan_bounds HVY.out
        have hl2 : loN ys xs.length < xs.length := by rw [← HYL.out]; exact b1
        have hh2 : hiN ys xs.length < xs.length := by rw [← HYL.out]; exact b2
        have HLV : Hid (ys.getD (loN ys xs.length) 0 = loV ys) := by show _ = _; rw [← HYL.out]; rfl
        have HHV : Hid (ys.getD (hiN ys xs.length) 0 = hiV ys) := by show _ = _; rw [← HYL.out]; rfl
        have blo := HYB.out _ (getD_mem b1)
        have bhi := HYB.out _ (getD_mem b2)
        change -300 ≤ loV ys ∧ loV ys ≤ 300 at blo
        change -300 ≤ hiV ys ∧ hiV ys ≤ 300 at bhi
        have st6 : st.length ≤ 6 := by omega
        have hO2 : (2 : Int) ≤ 6 := by omega
        cases gk with
        | zero => omega
        | succ gO =>
        have HPF : Hid (planF (gO + 1) ys = (((loN ys xs.length : Nat) : Int), ((hiN ys xs.length : Nat) : Int), payX ys) :: planF gO (stepP ys)) := by
          show _ = _; rw [planF, if_neg heq, HYL.out]
        have HSV := Lib.hid hsv.1
        have HKS : Hid (kC (stepP ys) (stepP ys).length ≤ (gO : Int)) := by show _ ≤ _; rw [stepP_length, HYL.out]; omega
        have HSL : Hid ((stepP ys).length = xs.length) := by show _ = _; rw [stepP_length]; exact HYL.out
        have hx : payX ys = if hiV ys < -loV ys then hiV ys else -loV ys := rfl
        have hxb := hsv.2
        have hne := hopn.2.2
        have HLS : Hid ((stepP ys).getD (loN ys xs.length) 0 = loV ys + payX ys) := by
          show _ = _
          rw [step_at (by rw [HYL.out]; exact hl2), HYL.out, if_neg hne, if_pos rfl]
        have HSTL := Lib.hid hstl
        have hbd : -1000 ≤ (ys.set (loN ys xs.length) (ys.getD (loN ys xs.length) 0 + payX ys)).getD (hiN ys xs.length) 0 - payX ys ∧ (ys.set (loN ys xs.length) (ys.getD (loN ys xs.length) 0 + payX ys)).getD (hiN ys xs.length) 0 - payX ys ≤ 1000 := by
          rw [getD_setI _ _ _ _ (by rw [HYL.out]; exact hh2), if_neg (fun e => hne e.symm), HHV.out]
          omega
        have hbd1 : -1000 ≤ ys.getD (loN ys xs.length) 0 + payX ys ∧ ys.getD (loN ys xs.length) 0 + payX ys ≤ 1000 := by rw [HLV.out]; omega
        have HSE : Hid (∀ wz, Own wz w.heap.size (sl g xs.length capg) ys → Calls Try.prog 69 #[.pointer (some ⟨g, loN ys xs.length, none⟩), .pointer (some ⟨g, hiN ys xs.length, none⟩), .int .i64 (payX ys)] wz fun e w' => e = .returned (.tuple #[]) ∧ Own w' w.heap.size (sl g xs.length capg) (stepP ys) ∧ wz.grownBy w' (some g)) := fun wz hz => by
          have h := settle_impl g xs.length capg ys (loN ys xs.length) (hiN ys xs.length) (payX ys) w.heap.size wz hz HYL.out hl2 hh2 (by omega) (by omega)
          rw [HSTL.out] at h
          exact h
        have HOWN := Lib.hid hown
        have HOP := Lib.hid hop
        have HM := Lib.hid hm
        clear hsv hk2 hopn hkg hmo hstl hidx b1 b2 hbd hbd1 hown hop HSTL
        have HSO : Hid (∀ j, owF (stepP ys) xs.length j = (owF ys xs.length j && !(decide (loV ys + payX ys = 0) && j == loN ys xs.length))) := fun j => by have h := HST.out j; rwa [HYL.out] at h
        clear HST
        go_wp2_with (first | (at_len; refine wpList_len_own _ rfl _ 64 rfl 3 58 Try.underlying64 _ bm xs.length D rfl hm ?_) | (go_at_call 82; refine HMO.out.mono ?_))
        rintro e w3 ⟨rfl, hb3⟩
        have o3 := HOWN.out.below hb3
        have p3 := HOP.out.below hb3
        have m3 := HM.out.kept (grown_below hb3 none) (by simp)
        have hbl3 : Below w.heap.size w w3 := hbl.trans (hb3.mono hbl.size)
        have HMX := Lib.hid (Max_impl (sl g xs.length capg) ys w3 (by have h := o3.ints; exact h) (by rw [HYL.out]; exact hn.1) (by rw [HYL.out]; omega))
        have HIDX := Lib.hid (Index_impl (sl g xs.length capg) ys (ys.getD (hiN ys ys.length) 0) w3 (by have h := o3.ints; exact h) (by rw [HYL.out]; omega))
        go_wp2_with fail
        refine HMX.out.mono ?_
        rintro e w' ⟨rfl, rfl⟩
        go_wp2_with fail
        refine HIDX.out.mono ?_
        rintro e w' ⟨⟨r, rfl, hr⟩, rfl⟩
        have hr2 := HIX.out r (by rw [HYL.out] at hr; exact hr)
        subst hr2
        have cL := o3.cell HYL.out _ hl2
        have cH := o3.cell HYL.out _ hh2
        rw [HLV.out] at cL
        rw [HHV.out] at cH
        have hL1 : ((loN ys xs.length : Nat) : Int) < (xs.length : Int) := by omega
        have hH1 : ((hiN ys xs.length : Nat) : Int) < (xs.length : Int) := by omega
        have hlo6 : loN ys xs.length ≤ 1000 := by omega
        have HDD := Lib.hid hDD
        have HHH := Lib.hid (show st.length + (gO + 1) ≤ xs.length from hsl)
        clear hr HIDX HMX HMO HIX HLV HHV heq hz HOWN HOP HM hm hDD hl2 hh2 hsl
        rw [HYL.out]
        generalize loN ys xs.length = lo at *
        generalize hiN ys xs.length = hi at *
        generalize payX ys = x at *
        generalize loV ys = lv at *
        generalize hiV ys = hv at *
        generalize stepP ys = zs at *
        go_wp2
        go_quiet (fail)
        have hb4 := below_drewN hbl3 nq
        have o4 := o3.below (below_drewN (Below.refl _ _) nq)
        have p4 := p3.below (below_drewN (Below.refl _ _) nq)
        have m4 : (w3.drewN nq).ownsMap Try.prog 3 (ptrR g) bm xs.length D := m3.kept (grown_below (below_drewN (Below.refl _ _) nq) none) (by simp)
        generalize w3.drewN nq = w4 at *
        clear cL cH o3 p3 m3 hbl3
        rw [← hx]
        have o4d := o4.kept (grown_drew1 (World.grownBy.refl _ none)) (.inr (by simp [Value.ownBlock]))
        have p4d := p4.kept (grown_drew1 (World.grownBy.refl _ none)) (by cases hb : u5.ownBlock <;> simp)
        have HSE2 := Lib.hid (HSE.out w4.drew o4d)
        have hb4d := hb4.drew
        have M4 := Lib.hid m4.drew
        clear hx o4 hb4 HSE m4 p4 o4d
        go_wp2
        go_still_tail 7, (by kernel_rfl)
        change wpList _ _ _ _ _ w4.drew
        generalize w4.drew = w4d at *
        go_wp2_with (go_at_call 69; refine HSE2.out.mono ?_)
        rintro e w5 ⟨rfl, o5, g5⟩
        have p5 := p4d.kept g5 (.inr hon)
        have m5 := M4.out.kept g5 (by simp; omega)
        have hb5 : Below w.heap.size w w5 := hb4d.trans (below_grown g5 hb4d.size (fun k hk => by cases hk; exact hgw))
        have hs5 : w.heap.size ≤ w5.heap.size := hb5.size
        have O5 := Lib.hid o5
        have M5 := Lib.hid m5
        clear g5 p4d hb4d M4 o5 m5
        go_wp2_with (at_builtin; refine wpList_pushP (f := (lo : Int)) (t := (hi : Int)) (am := x) p5 (by omega) hs5 (h := ?_))
        intro nv w6 p6 g6 m6
        have hgs := (O5.out.lt g rfl).2
        have hbs := M5.out.lt
        have hnv : nv.ownBlock ≠ some g ∧ nv.ownBlock ≠ some bm := by
          rcases m6 with h | ⟨k, h, hk⟩
          · rw [h]; exact ⟨hon, hom⟩
          · rw [h]; exact ⟨fun e => (by cases e; omega), fun e => (by cases e; omega)⟩
        have o6 := O5.out.kept g6 (.inr fun e => hon e.symm)
        have b6 : Below w.heap.size w w6 := hb5.trans (below_grown g6 hs5 (fun k hk => (p5.lt k hk).1))
        have mm6 := M5.out.kept g6 (fun e => hom e.symm)
        have c6 := o6.cell HSL.out lo (by omega)
        rw [HLS.out] at c6
        have hkey : keyOf Try.prog 3 (.int .i64 (lo : Int)) = some (.int .i64 (lo : Int)) := keyOf_int_mk Try.underlying3 (WalkArith.wf_i64 (by omega))
        have HPL2 : Hid ((st ++ [((lo : Int), (hi : Int), x)]) ++ planF gO zs = planF xs.length xs) := by
          show _ = _
          have h := HPL.out
          rw [HPF.out] at h
          rw [List.append_assoc]; exact h
        have HLL : Hid ((st ++ [((lo : Int), (hi : Int), x)]).length + gO ≤ xs.length) := by show _ ≤ _; have := HHH.out; simp; omega
        have O6 := Lib.hid o6
        have P6 := Lib.hid p6
        clear o6 p6 p5 g6 m6 hb5 O5 M5 HPL HPF
        by_cases hz0 : lv + x = 0
        · have hz1 : (lv + x == 0) = true := by simp [hz0]
          have HD7 : Hid (OwD (owF zs xs.length) (D.del (.int .i64 (lo : Int)))) := HDD.out.del fun j => by rw [HSO.out j, decide_eq_true hz0, Bool.true_and]
          clear hz0
          go_wp2_with (at_delete; refine wpList_delete_own _ rfl _ _ 64 3 rfl 58 lawI Try.underlying64 (ptrR g) bm xs.length D rfl mm6 _ _ rfl hkey ?_)
          intro w7 m7 t7
          have g7 := t7.grown
          have o7 := O6.out.kept g7 (.inr (by simp [Value.ownBlock]; omega))
          have p7 := P6.out.kept g7 (.inr hnv.2)
          have b7 : Below w.heap.size w w7 := b6.trans (below_grown g7 b6.size (fun k hk => by cases hk; exact hwm))
          have O7 := Lib.hid o7
          have P7 := Lib.hid p7
          have M7 := Lib.hid m7
          clear g7 t7 o7 p7 m7 mm6 c6 O6 P6 b6
          go_wp2
          go_roundg gO
          case measure => omega
          case rel => exact ⟨_, _, _, HSL.out, HSV.out, HKS.out, HPL2.out, HLL.out, O7.out, P7.out, hnv.1, hnv.2, M7.out, HD7.out, b7⟩
        · have hz1 : (lv + x == 0) = false := by simp [hz0]
          have HD7 : Hid (OwD (owF zs xs.length) D) := HDD.out.congr fun j => by rw [HSO.out j, decide_eq_false hz0]; simp
          have M7 := Lib.hid mm6
          clear hz0 mm6
          go_wp2
          go_roundg gO
          case measure => omega
          case rel => exact ⟨_, _, _, HSL.out, HSV.out, HKS.out, HPL2.out, HLL.out, O6.out, P6.out, hnv.1, hnv.2, M7.out, HD7.out, b6⟩

end Go.Proofs.Ytbedjebnllimpaa
