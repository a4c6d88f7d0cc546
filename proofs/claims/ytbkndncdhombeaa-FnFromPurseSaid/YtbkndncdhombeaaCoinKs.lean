/- FewestCoins and GreedyCoins, in the model. -/
import Derived.Test.YtbkndncdhombeaaCoinK
namespace Go.Proofs.Ytbkndncdhombeaa
open Go.RowKit

set_option maxRecDepth 100000 in
set_option maxHeartbeats 3200000 in
theorem FewestCoins_spec (v : Value) (cs : List Int) (a : Int) (w : World) (hv : IsInts w v cs) (hl : cs.length ≤ 9223372036854775807) :
    Calls Try.prog 22 #[v, .int .i64 a] w fun e w' => ∃ v', e = .returned (.tuple #[.int .i64 (fewN cs a), v', .bool (cFew cs a)]) ∧ Own w' w.heap.size v' (fewL cs a) ∧ Below w.heap.size w w' := by
  have HVC := Lib.hid (fun r => validCoins_sat v cs r w hv hl)
  have HCC := Lib.hid inRange_sat
  have HNO : Hid (cFew cs a = false → fewN cs a = 0 ∧ fewL cs a = []) := fun h => by unfold fewN fewL; rw [h]; exact ⟨rfl, rfl⟩
  cases h1 : vCoins cs
  · have E := Lib.hid (cFew_no1 (a := a) h1)
    go_enter Try.func22, Try.ntmps22
    go_wp2_with (go_at_call 45; refine (HVC.out _ h1).mono ?_; rintro e w' ⟨rfl, hd⟩)
    go_ret3
    exact ⟨_, ret_few (HNO.out E.out).1.symm E.out.symm, by rw [(HNO.out E.out).2]; exact own_nil _ _, hd.below⟩
  cases h2 : inR a 0 120
  · have E := Lib.hid (cFew_no2 (cs := cs) h2)
    go_enter Try.func22, Try.ntmps22
    go_wp2_with (first | (go_at_call 45; refine (HVC.out _ h1).mono ?_; rintro e w' ⟨rfl, hd⟩) | (go_at_call 50; refine (HCC.out _ _ _ _ _ h2).mono ?_; rintro e w' ⟨rfl, rfl⟩))
    go_ret3
    exact ⟨_, ret_few (HNO.out E.out).1.symm E.out.symm, by rw [(HNO.out E.out).2]; exact own_nil _ _, hd.below⟩
  · have b2 := inR_true h2
    obtain ⟨n, rfl⟩ : ∃ n : Nat, a = n := ⟨a.toNat, by omega⟩
    have n1 : n ≤ 120 := by omega
    obtain ⟨l1, l5⟩ := vc_len h1
    have hp := vc_pos h1
    obtain ⟨b, off, cap, rfl, hbw, hc⟩ := id (hv.at0 l1)
    have HC := Lib.hid hc
    have HV := Lib.hid hv
    have HAT := Lib.hid (fun (i : Nat) => vc_at h1 (i := i))
    have HFB : Hid (∀ x : Nat, -1 ≤ fwV cs (x : Int) ∧ fwV cs (x : Int) ≤ x) := fun x => by
      have := fw_ge hp (x : Int)
      by_cases h : 0 ≤ fwV cs (x : Int)
      · exact ⟨this, fw_bound hp h⟩
      · omega
    have HFS := Lib.hid (fun (w : World) (hv : IsInts w (.slice (some ⟨b, off, none⟩) cs.length cap) cs) => fewest_spec _ cs n w hv h1 (by omega))
    have HYE : Hid (0 ≤ fwV cs (n : Int) → cFew cs (n : Int) = true) := fun h => cFew_yes h1 h2 h
    have HN3 : Hid (fwV cs (n : Int) < 0 → cFew cs (n : Int) = false) := fun h => cFew_no3 h
    have HYL : Hid (cFew cs (n : Int) = true → fewN cs (n : Int) = fwV cs (n : Int) ∧ fewL cs (n : Int) = cntR cs cs.reverse (n : Int)) := fun h => by unfold fewN fewL; rw [if_pos h, if_pos h]; exact ⟨rfl, rfl⟩
    have HTM : Hid (∀ (i : Nat) (x : Int), i < cs.length → cs.getD i 0 ≤ x → fwV cs (x - cs.getD i 0) = fwV cs x - 1 → takeC cs (cs.getD i 0) x = takeC cs (cs.getD i 0) (x - cs.getD i 0) + 1) := fun i x hi h1' h2 => takeC_more (vc_at h1 hi).1 h1' h2
    have HTE : Hid (∀ (i : Nat) (x : Int), i < cs.length → ¬ (cs.getD i 0 ≤ x ∧ fwV cs (x - cs.getD i 0) = fwV cs x - 1) → takeC cs (cs.getD i 0) x = 0) := fun i x hi h => takeC_end (vc_at h1 hi).1 h
    have HAP := Lib.hid (fun (i : Nat) (h : i < cs.length) => cntR_app cs h)
    have HFZ : Hid (∀ x : Int, fwV cs x = 0 → x = 0) := fun x h => fw_eq_zero hp h
    obtain ⟨i0, hi, hz0, hz1, hz2⟩ := info_parts infoInt
    clear b2 hc hp hv
    go_enter Try.func22, Try.ntmps22
    go_wp2_with (first | (go_at_call 45; refine (HVC.out _ h1).mono ?_; rintro e w1 ⟨rfl, hd⟩) | (go_at_call 50; refine (HCC.out _ _ _ _ _ h2).mono ?_; rintro e w' ⟨rfl, rfl⟩) | fail)
    have hb1 : Below w.heap.size w w1 := hd.below
    have hs1 := hb1.size
    refine (HFS.out w1 (HV.out.below hb1)).mono ?_
    rintro e w2 ⟨v2, rfl, hown, hbl⟩
    obtain ⟨gl, cl, rfl, hg0, hg1⟩ := own_sl hown (tabL_len _ _) (by omega)
    have hb2 : Below w.heap.size w w2 := hb1.trans (hbl.mono hs1)
    have c1 := hown.cell (tabL_len _ _) n (by omega)
    rw [tabL_at _ (Nat.le_refl _)] at c1
    have n2 : (n : Int) < (n : Int) + 1 := by omega
    clear hbl HVC HCC HFS
    by_cases h3 : fwV cs (n : Int) < 0
    · have E := Lib.hid (HN3.out h3)
      go_wp2
      go_ret3
      exact ⟨_, ret_few (HNO.out E.out).1.symm E.out.symm, by rw [(HNO.out E.out).2]; exact own_nil _ _, hb2⟩
    · have E := Lib.hid (HYE.out (by omega))
      have hsz := hb2.size
      go_wp2_with (at_make; refine wpList_make_full _ rfl _ _ 23 rfl w2.heap.size 3 i0 (.int .i64 0) 1 Try.underlying23 hi hz0 hz1 _ _ _ _ cs.length rfl rfl rfl rfl ?b2 ?b3 (Nat.le_refl _) ?_)
      case b2 => rw [hz2]; omega
      case b3 => unfold maxLen; omega
      intro w3 hown0 hgrow0
      have hb3 : Below w.heap.size w w3 := hb2.trans (below_grown hgrow0 hsz (fun k h => by cases h))
      have ho3 : Own w3 w.heap.size (sl w2.heap.size cs.length cs.length) (List.replicate cs.length 0) := (own_made hown0).base hsz
      have hl3 := (hown.kept hgrow0 (.inr (by simp [Value.ownBlock]))).base hs1
      have hgc : w.heap.size ≤ w2.heap.size := hsz
      generalize w2.heap.size = gc at *
      have hne : gl ≠ gc := by omega
      have HFW : Hid (fwV cs (n : Int) = fwV cs (n : Int)) := rfl
      have h30 : 0 ≤ fwV cs (n : Int) := by omega
      clear hown0 hgrow0 hown hb2 hb1 c1 h3
      go_wp2
      go_loopw [9, 10] (fun xv iv wr => ∃ (i x : Nat) (z : Int) (Q : List Int), i ≤ cs.length ∧ iv = .int .i64 z ∧ z = (i : Int) - 1 ∧ xv = .int .i64 x ∧ x ≤ n ∧ 0 ≤ fwV cs (x : Int) ∧ i + Q.length = cs.length ∧ cntR cs cs.reverse (n : Int) = cntR cs (cs.take i).reverse (x : Int) ++ Q ∧
        Own wr w.heap.size (sl gc cs.length cs.length) (List.replicate i 0 ++ Q) ∧ Own wr w.heap.size (sl gl (n + 1) cl) (tabL (fwV cs) n) ∧ Below w.heap.size w wr) (fun _ iv _ => (intOf iv + 1).toNat)
      case atStart => exact ⟨cs.length, n, _, [], Nat.le_refl _, rfl, rfl, rfl, Nat.le_refl _, h30, by simp, by rw [List.take_length, List.append_nil], by rw [List.append_nil]; exact ho3, hl3, hb3⟩
      case round =>
        clear ho3 hl3 hb3 h30
        obtain ⟨i, x, z, Q, hi, rfl, hz, rfl, hxn, hfx, hQ, hcnt, hown, hlst, hbl⟩ := hrel
        rename World => wr
        cases i with
        | zero =>
          have z1 : ¬ (0 : Int) ≤ z := by omega
          have hll := (HYL.out E.out)
          rw [hcnt] at hll
          have H2 : Hid (fewL cs (n : Int) = Q) := by show _ = _; rw [hll.2, List.take_zero]; rfl
          have H1 := Lib.hid hll.1
          have c1 := hlst.cell (tabL_len _ _) n (by omega)
          rw [tabL_at _ (Nat.le_refl _)] at c1
          have hown' : Own wr w.heap.size (sl gc cs.length cs.length) Q := by simpa using hown
          clear hll hcnt hown hlst
          go_wp2
          go_ret3
          exact ⟨_, ret_few H1.out.symm E.out.symm, by rw [H2.out]; exact hown', hbl⟩
        | succ j =>
          obtain rfl : z = (j : Int) := by omega
          clear hz
          have hlt : j < cs.length := by omega
          have j1 : (j : Int) < (cs.length : Int) := by omega
          have j0 : (0 : Int) ≤ (j : Int) := by omega
          have hat := HAT.out j hlt
          obtain ⟨c, hcn⟩ : ∃ c : Nat, cs.getD j 0 = c := ⟨(cs.getD j 0).toNat, by omega⟩
          have HCI : Hid (∀ wz : World, Below w.heap.size w wz → wz.cell? ⟨b, off + j, none⟩ = some (.int .i64 (c : Int))) := fun wz hz => by
            rw [← hcn]; exact (hz.cell (by exact hbw)).trans (HC.out j hlt)
          have HTMj := HTM.out j
          have HTEj := HTE.out j
          have hap := HAP.out j hlt (x : Int) Q
          rw [hcn] at HTMj HTEj hap hat
          rw [rep_succ] at hown
          have hown0 : Own wr w.heap.size (sl gc cs.length cs.length) (List.replicate j 0 ++ ((0 : Nat) : Int) :: Q) := hown
          have HTMh := Lib.hid (fun y => HTMj y hlt)
          have HTEh := Lib.hid (fun y => HTEj y hlt)
          have hcnt2 := Lib.hid (hcnt.trans hap)
          clear HTMj HTEj hap hcn hcnt hown
          go_wp2
          go_loopw [9] (fun yv wx => ∃ y k : Nat, yv = .int .i64 y ∧ y ≤ n ∧ (y : Int) = x - k * c ∧ 0 ≤ fwV cs (y : Int) ∧ takeC cs c x = k + takeC cs c y ∧ k ≤ 120 ∧ y + k ≤ n ∧ Own wx w.heap.size (sl gc cs.length cs.length) (List.replicate j 0 ++ (k : Int) :: Q) ∧ Own wx w.heap.size (sl gl (n + 1) cl) (tabL (fwV cs) n) ∧ Below w.heap.size w wx) (fun yv _ => (intOf yv).toNat)
          case atStart => exact ⟨x, 0, rfl, hxn, by omega, hfx, by omega, by omega, by omega, hown0, hlst, hbl⟩
          case round =>
            clear hown0 hlst hbl
            obtain ⟨y, k, rfl, hyn, hyk, hfy, htk, hk1, hk2, hown, hlst, hbl⟩ := hrel
            rename World => wx
            have ci := HCI.out wx hbl
            have y1 : (y : Int) < (n : Int) + 1 := by omega
            have hcy := hlst.cell (tabL_len _ _) y (by omega)
            rw [tabL_at _ hyn] at hcy
            have hfb := HFB.out y
            by_cases hle : c ≤ y
            · have x3 : (c : Int) ≤ (y : Int) := by omega
              have x4 : (0 : Int) ≤ (y : Int) - (c : Int) := by omega
              have x5 : (y : Int) - (c : Int) < (n : Int) + 1 := by omega
              have x6 : ((y : Int) - (c : Int)).toNat = y - c := by omega
              have hcy2 := hlst.cell (tabL_len _ _) (y - c) (by omega)
              rw [tabL_at _ (by omega)] at hcy2
              have hfb2 := HFB.out (y - c)
              have HTM2 := HTMh.out (y : Int) x3
              have HTE2 := HTEh.out (y : Int)
              rw [show (y : Int) - (c : Int) = ((y - c : Nat) : Int) by omega] at HTM2 HTE2
              have HM2 := Lib.hid HTM2
              have HE2 := Lib.hid HTE2
              have HY := Lib.hid hyk
              have HT := Lib.hid htk
              have HFZ2 := Lib.hid (HFZ.out (y : Int))
              clear HTM2 HTE2 hyk htk
              by_cases heq : fwV cs ((y - c : Nat) : Int) = fwV cs (y : Int) - 1
              · have hfy2 : 0 ≤ fwV cs ((y - c : Nat) : Int) := by
                  by_cases h0 : fwV cs (y : Int) = 0
                  · have := HFZ2.out h0; omega
                  · omega
                have HTK : Hid (takeC cs c x = (k + 1) + takeC cs c ((y - c : Nat) : Int)) := by
                  show _ = _
                  rw [HT.out, HM2.out heq]; omega
                have HFY2 : Hid (∀ t : Nat, t = y - c → 0 ≤ fwV cs (t : Int)) := fun t e => by rw [e]; exact hfy2
                have hck := hown.cell (by simp; omega) j hlt
                rw [rep_get] at hck
                have hfk := hown.frozen (by simp; omega) j
                have hsk := hown.set (by simp; omega) j ((k : Int) + 1)
                rw [rep_set] at hsk
                generalize fwV cs ((y - c : Nat) : Int) = m at *
                generalize fwV cs (y : Int) = u at *
                subst heq
                have HO := Lib.hid hown
                have HLS := Lib.hid hlst
                have HSK : Hid (∀ q : Nat, Own ((wx.drewN q).setCell ⟨gc, j, none⟩ (.int .i64 ((k : Int) + 1))) w.heap.size (sl gc cs.length cs.length) (List.replicate j 0 ++ ((k : Int) + 1) :: Q) ∧ Own ((wx.drewN q).setCell ⟨gc, j, none⟩ (.int .i64 ((k : Int) + 1))) w.heap.size (sl gl (n + 1) cl) (tabL (fwV cs) n) ∧ Below w.heap.size w ((wx.drewN q).setCell ⟨gc, j, none⟩ (.int .i64 ((k : Int) + 1)))) := fun q => by
                  have h1 := (own_drewN hown q).set (by simp; omega) j ((k : Int) + 1)
                  rw [rep_set] at h1
                  exact ⟨h1.1, (own_drewN hlst q).kept h1.2 (.inr (by simpa [Value.ownBlock] using hne)), (below_drewNC hbl hbl.size q).setCell (by exact hgc) _⟩
                clear hown hlst hsk
                go_wp2
                go_quiet (fail)
                go_wp2
                go_roundw
                case rel => exact ⟨y - c, k + 1, by go_num, by omega, by rw [show ((y - c : Nat) : Int) = (y : Int) - c by omega, HY.out, Int.natCast_add, Int.add_mul]; omega, HFY2.out _ rfl, HTK.out, by omega, by omega, (HSK.out _).1, (HSK.out _).2.1, (HSK.out _).2.2⟩
                case measure => simp [intOf]; omega
              · have HTX : Hid (takeC cs c (y : Int) = 0) := HE2.out (fun h => heq h.2)
                have HNX : Hid (takeC cs c (x : Int) = k) := by show _ = _; rw [HT.out, HTX.out]; rfl
                have hYX : (x : Int) - ((takeC cs c (x : Int) : Nat) : Int) * c = y := by rw [HNX.out]; have := HY.out; omega
                have hc3 : cntR cs cs.reverse (n : Int) = cntR cs (cs.take j).reverse (y : Int) ++ (k : Int) :: Q := by rw [hcnt2.out, hYX, HNX.out]
                have HC3 := Lib.hid hc3
                have HO := Lib.hid (fun q => own_drewN hown q)
                have HL := Lib.hid (fun q => own_drewN hlst q)
                have hbz := hbl.size
                have HFY : Hid (∀ t : Nat, t = y → 0 ≤ fwV cs (t : Int)) := fun t e => by rw [e]; exact hfy
                have HB := Lib.hid (fun q => below_drewNC hbl hbz q)
                have hne2 : (fwV cs ((y - c : Nat) : Int) == fwV cs (y : Int) - 1) = false := by simp [heq]
                clear hYX hc3 hown hlst hfy
                generalize fwV cs ((y - c : Nat) : Int) = m at *
                generalize fwV cs (y : Int) = u at *
                go_wp2
                go_quiet (fail)
                go_wp2
                go_roundw
                case rel => exact ⟨j, y, _, (k : Int) :: Q, by omega, by go_num, rfl, rfl, hyn, HFY.out _ rfl, by simp; omega, HC3.out, HO.out _, HL.out _, HB.out _⟩
                case measure => simp [intOf]
            · have x3 : ¬ (c : Int) ≤ (y : Int) := by omega
              have HTX : Hid (takeC cs c (y : Int) = 0) := HTEh.out (y : Int) (fun h => x3 h.1)
              have HNX : Hid (takeC cs c (x : Int) = k) := by show _ = _; rw [htk, HTX.out]; rfl
              have hYX : (x : Int) - ((takeC cs c (x : Int) : Nat) : Int) * c = y := by rw [HNX.out]; omega
              have hc3 : cntR cs cs.reverse (n : Int) = cntR cs (cs.take j).reverse (y : Int) ++ (k : Int) :: Q := by rw [hcnt2.out, hYX, HNX.out]
              have HC3 := Lib.hid hc3
              have HO := Lib.hid (fun q => own_drewN hown q)
              have HL := Lib.hid (fun q => own_drewN hlst q)
              have hbz := hbl.size
              have HFY : Hid (∀ t : Nat, t = y → 0 ≤ fwV cs (t : Int)) := fun t e => by rw [e]; exact hfy
              have HB := Lib.hid (fun q => below_drewNC hbl hbz q)
              clear hYX hc3 hown hlst hfy hyk htk
              generalize fwV cs (y : Int) = u at *
              go_wp2
              go_quiet (fail)
              go_wp2
              go_roundw
              case rel => exact ⟨j, y, _, (k : Int) :: Q, by omega, by go_num, rfl, rfl, hyn, HFY.out _ rfl, by simp; omega, HC3.out, HO.out _, HL.out _, HB.out _⟩
              case measure => simp [intOf]

end Go.Proofs.Ytbkndncdhombeaa
