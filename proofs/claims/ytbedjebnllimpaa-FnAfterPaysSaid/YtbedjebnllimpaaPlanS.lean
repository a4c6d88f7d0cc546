/- Plans of payments, in the model: the walk. -/
import Derived.Test.YtbedjebnllimpaaPlanM
import Derived.Test.YtbedjebnllimpaaPay
import Derived.Test.YtbedjebnllimpaaSpread
import Derived.StillTailTactics
import Derived.IntWalk
import Derived.Deep.LoopGhost
namespace Go.Proofs.Ytbedjebnllimpaa
open Go.RowKit

/-- What PayPlan answers. -/
def planL (xs : List Int) : List (Int × Int × Int) := if vBal xs = true then planF xs.length xs else []

theorem planF_end {ys : List Int} (h : loV ys = hiV ys) : ∀ f, planF f ys = []
  | 0 => rfl
  | f + 1 => by rw [planF, if_pos h]

set_option maxRecDepth 100000 in
set_option maxHeartbeats 6400000 in
theorem PayPlan_spec (v : Value) (xs : List Int) (w : World) (hv : IsInts w v xs) (hl : xs.length ≤ 9223372036854775807) :
    Calls Try.prog 43 #[v] w fun e w' => ∃ v', e = .returned v' ∧ OwnP w' w.heap.size v' (planL xs) ∧ Below w.heap.size w w' := by
  have H := Lib.hid (validBalances_spec v xs w hv hl)
  cases hd : vBal xs
  · have E : Hid (planL xs = []) := by show planL xs = []; rw [planL, hd]; rfl
    have h := H.out
    rw [hd] at h
    have H2 := Lib.hid h
    obtain ⟨a, cap, rfl, _⟩ := hv
    clear h hd
    go_enter Try.func43, Try.ntmps43
    go_wp2_with fail
    refine H2.out.mono ?_
    rintro e w' ⟨rfl, rfl⟩
    go_wp2
    go_ret
    exact ⟨_, rfl, by rw [E.out]; exact own_nilP _ _, Below.refl _ _⟩
  · have E : Hid (planL xs = planF xs.length xs) := by show planL xs = _; rw [planL, if_pos hd]
    have h := H.out
    rw [hd] at h
    have H2 := Lib.hid h
    obtain ⟨_, hn, _⟩ := (vBal_iff xs).1 hd
    have HV := Lib.hid hv
    have HD := Lib.hid hd
    obtain ⟨a, cap, rfl, _⟩ := id hv
    clear h hd
    go_enter Try.func43, Try.ntmps43
    go_wp2_with fail
    refine H2.out.mono ?_
    rintro e w' ⟨rfl, rfl⟩
    have oe := own_empty w w.heap.size (Nat.le_refl _)
    have hba : Below w.heap.size w (w.alloc (.cells #[] 3)) := (Below.refl _ _).alloc (Nat.le_refl _) _
    have r1 := hv.below hba
    have hsz : w.heap.size ≤ (w.alloc (.cells #[] 3)).heap.size := hba.size
    clear hv
    go_wp2_with (at_builtin; refine wpList_spread oe r1 (by omega) (by simp; omega) hsz (h := ?_))
    intro rv w1 o1 g1 m1
    have hb1 : Below w.heap.size w w1 := hba.trans (below_grown g1 hsz (fun k hk => by simp [Value.ownBlock] at hk; omega))

    rcases id o1.2 with ⟨_, hz⟩ | ⟨g, capg, curg, rfl, _⟩
    · omega
    have hgl := o1.lt g rfl
    have hb2 : Below w.heap.size w (w1.alloc (.cells #[] 42)) := hb1.alloc hb1.size _
    have o2 := o1.below (show Below w1.heap.size w1 (w1.alloc (.cells #[] 42)) from (Below.refl _ _).alloc (Nat.le_refl _) _)
    have op := own_emptyP w1 w.heap.size hb1.size
    have hne : (Value.slice (some ⟨w1.heap.size, 0, none⟩) 0 0).ownBlock ≠ some g := by simp [Value.ownBlock]; omega
    have hk0 := (kC_nonneg xs xs.length).2
    clear oe r1 g1 m1 o1 hba hsz hb1
    go_wp2
    go_loopg [4, 5, 6, 7, 8] xs.length (fun gh ov _ _ _ _ wr => ∃ (ys : List Int) (st : List (Int × Int × Int)), ys.length = xs.length ∧ vBal ys = true ∧ kC ys ys.length ≤ gh ∧ st ++ planF gh ys = planF xs.length xs ∧ st.length + gh ≤ xs.length ∧ Own wr w.heap.size (sl g xs.length capg) ys ∧ OwnP wr w.heap.size ov st ∧ ov.ownBlock ≠ some g ∧ Below w.heap.size w wr)
    case atStart => exact ⟨xs, [], rfl, HD.out, hk0, rfl, by simp, o2, op, hne, hb2⟩
    case round =>
      obtain ⟨ys, st, hyl, hvy, hky, hpl, hsl, hown, hop, hon, hbl⟩ := hrel
      rename World => wo
      clear o2 op hne hb2
      have hvi := (vBal_iff ys).1 hvy
      have HYB := Lib.hid hvi.1
      have HVY := Lib.hid hvy
      have HPL := Lib.hid hpl
      have HKY := Lib.hid hky
      have HYL := Lib.hid hyl
      clear hvi hpl hky hvy
      have st6 : st.length ≤ 6 := by omega
      have w1 : (1 : Int) < 9 := by omega
      go_wp2
      go_loopw [5, 6, 7] (fun av bv iv wx => ∃ i : Nat, 1 ≤ i ∧ i ≤ xs.length ∧ iv = .int .i64 i ∧ av = .int .i64 (loN ys i : Nat) ∧ bv = .int .i64 (hiN ys i : Nat) ∧ Drawn wo wx) (fun _ _ iv _ => xs.length - (intOf iv).toNat)
      case atStart => exact ⟨1, Nat.le_refl _, hn.1, rfl, by rw [loN_one]; rfl, by rw [hiN_one]; rfl, Drawn.refl _⟩
      case round =>
        obtain ⟨i, hi1, hi2, rfl, rfl, rfl, hdr⟩ := hrel
        rename World => wx
        by_cases hlt : i < xs.length
        · have i1 : (i : Int) < (xs.length : Int) := by omega
          have sl := loN_spec ys i hi1
          have sh := hiN_spec ys i hi1
          have cI := (hdr.cell _).trans (hown.cell HYL.out i hlt)
          have cL := (hdr.cell _).trans (hown.cell HYL.out (loN ys i) (by omega))
          have cH := (hdr.cell _).trans (hown.cell HYL.out (hiN ys i) (by omega))
          have hL1 : (loN ys i : Int) < (xs.length : Int) := by omega
          have hH1 : (hiN ys i : Int) < (xs.length : Int) := by omega
          have hEL : loN ys (i + 1) = if ys.getD i 0 < ys.getD (loN ys i) 0 then i else loN ys i := rfl
          have hEH : hiN ys (i + 1) = if ys.getD (hiN ys i) 0 < ys.getD i 0 then i else hiN ys i := rfl
          have HEL := Lib.hid hEL
          have HEH := Lib.hid hEH
          clear hEL hEH sl sh
          generalize ys.getD i 0 = yi at *
          generalize ys.getD (loN ys i) 0 = yl at *
          generalize ys.getD (hiN ys i) 0 = yh at *
          by_cases hlo : yi < yl
          · have HL : Hid (loN ys (i + 1) = i) := by show _ = _; rw [HEL.out, if_pos hlo]
            by_cases hhi : yh < yi
            · have HH : Hid (hiN ys (i + 1) = i) := by show _ = _; rw [HEH.out, if_pos hhi]
              go_wp2
              go_quiet (fail)
              have c1' : (wx.drewN nq).cell? ⟨g, i, none⟩ = some (.int .i64 yi) := cI
              have c3' : (wx.drewN nq).cell? ⟨g, hiN ys i, none⟩ = some (.int .i64 yh) := cH
              have hd2 := hdr.more nq
              generalize wx.drewN nq = wq at c1' c3' hd2 ⊢
              clear cI cL cH hdr
              go_wp2
              go_quiet (fail)
              have hd3 := hd2.more nq
              go_wp2
              go_roundw
              case rel => exact ⟨i + 1, by omega, by omega, by go_num, by rw [HL.out], by rw [HH.out], hd3⟩
              case measure => simp [intOf]; omega
            · have HH : Hid (hiN ys (i + 1) = hiN ys i) := by show _ = _; rw [HEH.out, if_neg hhi]
              go_wp2
              go_quiet (fail)
              have c1' : (wx.drewN nq).cell? ⟨g, i, none⟩ = some (.int .i64 yi) := cI
              have c3' : (wx.drewN nq).cell? ⟨g, hiN ys i, none⟩ = some (.int .i64 yh) := cH
              have hd2 := hdr.more nq
              generalize wx.drewN nq = wq at c1' c3' hd2 ⊢
              clear cI cL cH hdr
              go_wp2
              go_quiet (fail)
              have hd3 := hd2.more nq
              go_wp2
              go_roundw
              case rel => exact ⟨i + 1, by omega, by omega, by go_num, by rw [HL.out], by rw [HH.out], hd3⟩
              case measure => simp [intOf]; omega
          · have HL : Hid (loN ys (i + 1) = loN ys i) := by show _ = _; rw [HEL.out, if_neg hlo]
            by_cases hhi : yh < yi
            · have HH : Hid (hiN ys (i + 1) = i) := by show _ = _; rw [HEH.out, if_pos hhi]
              go_wp2
              go_quiet (fail)
              have c1' : (wx.drewN nq).cell? ⟨g, i, none⟩ = some (.int .i64 yi) := cI
              have c3' : (wx.drewN nq).cell? ⟨g, hiN ys i, none⟩ = some (.int .i64 yh) := cH
              have hd2 := hdr.more nq
              generalize wx.drewN nq = wq at c1' c3' hd2 ⊢
              clear cI cL cH hdr
              go_wp2
              go_quiet (fail)
              have hd3 := hd2.more nq
              go_wp2
              go_roundw
              case rel => exact ⟨i + 1, by omega, by omega, by go_num, by rw [HL.out], by rw [HH.out], hd3⟩
              case measure => simp [intOf]; omega
            · have HH : Hid (hiN ys (i + 1) = hiN ys i) := by show _ = _; rw [HEH.out, if_neg hhi]
              go_wp2
              go_quiet (fail)
              have c1' : (wx.drewN nq).cell? ⟨g, i, none⟩ = some (.int .i64 yi) := cI
              have c3' : (wx.drewN nq).cell? ⟨g, hiN ys i, none⟩ = some (.int .i64 yh) := cH
              have hd2 := hdr.more nq
              generalize wx.drewN nq = wq at c1' c3' hd2 ⊢
              clear cI cL cH hdr
              go_wp2
              go_quiet (fail)
              have hd3 := hd2.more nq
              go_wp2
              go_roundw
              case rel => exact ⟨i + 1, by omega, by omega, by go_num, by rw [HL.out], by rw [HH.out], hd3⟩
              case measure => simp [intOf]; omega
        · have hie : i = xs.length := by omega
          subst hie
          have hbx : Below w.heap.size w wx := hbl.trans (hdr.below.mono hbl.size)
          have o3 := hown.below hdr.below
          have p3 := hop.below hdr.below
          have hgx : g < wx.heap.size := (o3.lt g rfl).2
          obtain ⟨b1, b2, b3⟩ := plan_bounds HVY.out
          have HLV : Hid (ys.getD (loN ys xs.length) 0 = loV ys) := by show _ = _; rw [← HYL.out]; rfl
          have HHV : Hid (ys.getD (hiN ys xs.length) 0 = hiV ys) := by show _ = _; rw [← HYL.out]; rfl
          have hl2 : loN ys xs.length < xs.length := by rw [← HYL.out]; exact b1
          have hh2 : hiN ys xs.length < xs.length := by rw [← HYL.out]; exact b2
          have cL := o3.cell HYL.out _ hl2
          have cH := o3.cell HYL.out _ hh2
          rw [HLV.out] at cL
          rw [HHV.out] at cH
          have hL1 : (loN ys xs.length : Int) < (xs.length : Int) := by omega
          have hH1 : (hiN ys xs.length : Int) < (xs.length : Int) := by omega
          have blo := HYB.out _ (getD_mem b1)
          have bhi := HYB.out _ (getD_mem b2)
          change -300 ≤ loV ys ∧ loV ys ≤ 300 at blo
          change -300 ≤ hiV ys ∧ hiV ys ≤ 300 at bhi
          clear b1 b2 b3 hown hop hbl hdr
          by_cases heq : loV ys = hiV ys
          · have hb : (loV ys == hiV ys) = true := by simp [heq]
            have P3 : Hid (OwnP wx w.heap.size u4 (planL xs)) := by
              show OwnP _ _ _ _
              have h := HPL.out
              rw [planF_end heq, List.append_nil] at h
              rw [E.out, ← h]; exact p3
            have HQ := Lib.hid heq
            clear heq p3 o3
            generalize loV ys = lv at *
            generalize hiV ys = hv at *
            go_wp2
            go_quiet (fail)
            go_wp2
            go_ret
            exact ⟨_, rfl, P3.out.below (below_drewN (Below.refl _ _) _), below_drewN hbx _⟩
          · have hb : (loV ys == hiV ys) = false := by simp [heq]
            have hk2 := step_kC HVY.out heq
            have hsv := step_vBal HVY.out heq
            have hopn := plan_open HVY.out heq
            rw [HYL.out] at hk2 hopn
            have hkg := HKY.out
            rw [HYL.out] at hkg
            cases gk with
            | zero => omega
            | succ gO =>
            have HPF : Hid (planF (gO + 1) ys = (((loN ys xs.length : Nat) : Int), ((hiN ys xs.length : Nat) : Int), payX ys) :: planF gO (stepP ys)) := by
              show _ = _; rw [planF, if_neg heq, HYL.out]
            have HST : Hid (stepP ys = (ys.set (loN ys xs.length) (loV ys + payX ys)).set (hiN ys xs.length) (hiV ys - payX ys)) := by
              show _ = _; unfold stepP; rw [HYL.out]
            have HSV := Lib.hid hsv.1
            have HKS : Hid (kC (stepP ys) (stepP ys).length ≤ (gO : Int)) := by show _ ≤ _; rw [stepP_length, HYL.out]; omega
            have HSL : Hid ((stepP ys).length = xs.length) := by show _ = _; rw [stepP_length]; exact HYL.out
            have hx : payX ys = if hiV ys < -loV ys then hiV ys else -loV ys := rfl
            have hxb := hsv.2
            have hne := hopn.2.2
            clear hsv hk2 heq hopn hkg
            generalize loN ys xs.length = lo at *
            generalize hiN ys xs.length = hi at *
            generalize payX ys = x at *
            generalize loV ys = lv at *
            generalize hiV ys = hv at *
            go_wp2
            go_quiet (fail)
            have hb4 := below_drewN hbx nq
            have o4 := o3.below (below_drewN (Below.refl _ _) nq)
            have p4 := p3.below (below_drewN (Below.refl _ _) nq)
            have cL4 : (wx.drewN nq).cell? ⟨g, lo, none⟩ = some (.int .i64 lv) := cL
            have cH4 : (wx.drewN nq).cell? ⟨g, hi, none⟩ = some (.int .i64 hv) := cH
            have hg4 : g < (wx.drewN nq).heap.size := hgx
            generalize wx.drewN nq = wq at *
            clear cL cH o3 p3 hbx
            have wneg : IntKind.i64.wrap (-lv) = -lv := IntWalk.i64_in _ (by omega)
            go_wp2
            go_quiet (fail)
            rw [← hx]
            have hb5 := below_drewN hb4 nq
            have o5 := o4.below (below_drewN (Below.refl _ _) nq)
            have p5 := p4.below (below_drewN (Below.refl _ _) nq)
            have cL5 : (wq.drewN nq).cell? ⟨g, lo, none⟩ = some (.int .i64 lv) := cL4
            have cH5 : (wq.drewN nq).cell? ⟨g, hi, none⟩ = some (.int .i64 hv) := cH4
            have hg5 : g < (wq.drewN nq).heap.size := hg4
            generalize wq.drewN nq = w5 at *
            clear cL4 cH4 o4 p4 hb4 hg4 wneg hx
            have hs5 : w.heap.size ≤ w5.heap.size := hb5.size
            go_wp2_with (at_builtin; refine wpList_pushP (f := (lo : Int)) (t := (hi : Int)) (am := x) p5 (by omega) hs5 (h := ?_))
            intro nv w6 p6 g6 m6
            have hnv : nv.ownBlock ≠ some g := by
              rcases m6 with h | ⟨k, h, hk⟩
              · rw [h]; exact hon
              · rw [h]; intro e; cases e; omega
            have o6 := o5.kept g6 (.inr fun e => hon e.symm)
            have cL6 : w6.cell? ⟨g, lo, none⟩ = some (.int .i64 lv) := g6.cell cL5 (fun e => hon e.symm)
            have cH6 : w6.cell? ⟨g, hi, none⟩ = some (.int .i64 hv) := g6.cell cH5 (fun e => hon e.symm)
            have b6 : Below w.heap.size w w6 := hb5.trans (below_grown g6 hs5 (fun k hk => (p5.lt k hk).1))
            have fL := o6.frozen HYL.out lo
            have s1 := o6.set HYL.out lo (lv + x)
            have l1 : (ys.set lo (lv + x)).length = xs.length := by rw [List.length_set]; exact HYL.out
            have cH7 := s1.1.cell l1 hi hh2
            rw [getD_setI _ _ _ _ (by rw [HYL.out]; exact hh2), if_neg (fun e => hne e.symm), HHV.out] at cH7
            have fH := s1.1.frozen l1 hi
            have s2 := s1.1.set l1 hi (hv - x)
            rw [← HST.out] at s2
            have p7 := (p6.kept s1.2 (.inr hnv)).kept s2.2 (.inr hnv)
            have b7 := (b6.trans (below_grown s1.2 b6.size (fun k hk => by cases hk; exact hgl.1))).trans (below_grown s2.2 (by have := b6.size; have := s1.2.size; omega) (fun k hk => by cases hk; exact hgl.1))
            have S2 := Lib.hid s2.1
            have P7 := Lib.hid p7
            have HPL2 : Hid ((st ++ [((lo : Int), (hi : Int), x)]) ++ planF gO (stepP ys) = planF xs.length xs) := by
              show _ = _
              have h := HPL.out
              rw [HPF.out] at h
              rw [List.append_assoc]; exact h
            have B7 := Lib.hid b7
            clear s1 s2 p7 b7 p6 g6 m6 o6 o5 p5 cL5 cH5 cH6 b6 hb5 HPL HPF HST
            go_wp2
            go_roundg gO
            case measure => omega
            case rel => exact ⟨_, _, HSL.out, HSV.out, HKS.out, HPL2.out, by simp; omega, S2.out, P7.out, hnv, B7.out⟩

end Go.Proofs.Ytbedjebnllimpaa
