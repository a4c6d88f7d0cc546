/- FromPurse, the program's contract. -/
import Derived.Test.YtbkndncdhombeaaFewI
import Derived.Test.YtbkndncdhombeaaCoinW
import Derived.Test.YtbkndncdhombeaaClone
namespace Go.Proofs.Ytbkndncdhombeaa
open Go.RowKit

set_option maxRecDepth 100000 in
set_option maxHeartbeats 6400000 in
theorem FromPurse_impl (v u : Value) (cs ps : List Int) (a : Int) (w : World) (hv : IsInts w v cs) (hl : cs.length ≤ 9223372036854775807) (hu : IsInts w u ps) (hm : ps.length ≤ 9223372036854775807) :
    Calls Try.prog 39 #[v, u, .int .i64 a] w fun e w' => e = .returned (.tuple #[.int .i64 (purV cs ps a), .bool (okPur cs ps a)]) ∧ Below w.heap.size w w' := by
  have HCP := Lib.hid (fun r => canPayBy_at v cs a r w hv hl)
  have HNO : Hid (cPur cs ps a = false → okPur cs ps a = false ∧ purV cs ps a = 0) := pur_no
  have HV := Lib.hid hv
  have HU := Lib.hid hu
  obtain ⟨b2, cap2, rfl, hc2⟩ := id hu
  obtain ⟨b1, cap1, rfl, hc1⟩ := id hv
  have HAL := Lib.hid (fun (r : Bool) (w1 : World) (hu1 : IsInts w1 (.slice b2 ps.length cap2) ps) => allInRange_at _ ps 0 6 r w1 hu1 hm)
  cases h0 : (vCoins cs && inR a 0 120)
  · have E := Lib.hid (HNO.out (by
      unfold cPur
      cases h1 : vCoins cs
      · rfl
      · rw [h1, Bool.true_and] at h0
        rw [h0]; simp))
    clear hv hu hc1 hc2
    go_enter Try.func39, Try.ntmps39
    go_wp2_with (go_at_call 47; refine (HCP.out _ h0).mono ?_; rintro e w' ⟨rfl, hd⟩)
    go_ret2
    exact ⟨ret_pur E.out.2.symm E.out.1.symm, hd.below⟩
  have H0 := Lib.hid h0
  rw [Bool.and_eq_true] at h0
  by_cases h3 : ps.length = cs.length
  · cases h6 : allR ps 0 6
    · have E := Lib.hid (HNO.out (by unfold cPur; rw [show vPurse ps = false from h6, Bool.and_false]))
      have hne : ((ps.length : Int) != (cs.length : Int)) = false := by simp; omega
      clear h3 hv hu hc1 hc2 h0
      go_enter Try.func39, Try.ntmps39
      go_wp2_with (first | (go_at_call 47; refine (HCP.out _ H0.out).mono ?_; rintro e w1 ⟨rfl, hd⟩; have hu1 := HU.out.below hd.below) | (go_at_call 44; refine (HAL.out _ _ hu1 h6).mono ?_; rintro e w' ⟨rfl, rfl⟩))
      go_ret2
      exact ⟨ret_pur E.out.2.symm E.out.1.symm, hd.below⟩
    · have hne : ((ps.length : Int) != (cs.length : Int)) = false := by simp; omega
      have bb := inR_true h0.2
      obtain ⟨n, rfl⟩ : ∃ n : Nat, a = n := ⟨a.toNat, by omega⟩
      have n120 : n ≤ 120 := by omega
      have h1 := h0.1
      have h2 : vPurse ps = true := h6
      have hCP : cPur cs ps (n : Int) = true := by unfold cPur; rw [h0.1, h0.2, h2, decide_eq_true h3]; rfl
      have hpp : ∀ i, Purse (prs (cs.take i) (ps.take i)) := fun i => prs_purse ((vc_pos h1).take i) (fun k hk => (vPurse_iff.1 h2 k (take_mem hk)).1)
      have HPS : Hid (∀ i, i < cs.length → 0 ≤ ps.getD i 0 ∧ ps.getD i 0 ≤ 6) := fun i hi => vPurse_iff.1 h2 _ (getD_mem (by omega))
      have HAT := Lib.hid (fun (i : Nat) => vc_at h1 (i := i))
      have HTS : Hid (∀ (i : Nat) (c m : Int), i < cs.length → cs.getD i 0 = c → ps.getD i 0 = m → tabL (upV ((c, m) :: prs (cs.take i) (ps.take i))) n = tabL (upV (prs (cs.take (i + 1)) (ps.take (i + 1)))) n) := fun i c m hi e1 e2 => by
        rw [prs_succ h3 hi, e1, e2]
      have HT0 : Hid (∀ (i : Nat) (c : Int), i < cs.length → cs.getD i 0 = c → tabL (upV (prs (cs.take i) (ps.take i))) n = tabL (upV ((c, 0) :: prs (cs.take i) (ps.take i))) n) := fun i c hi e1 => by
        refine tabL_congr (fun j hj => ?_)
        rw [up_none c (hpp i) (by have := vc_at h1 hi; omega)]
      have HADD : Hid (∀ (i c j : Nat), i < cs.length → cs.getD i 0 = c → j < 7 → ∀ (g cap gb capb : Nat) (wx : World), Own wx w.heap.size (sl g (n + 1) cap) (tabL (upV ((c, (j : Int)) :: prs (cs.take i) (ps.take i))) n) → Own wx w.heap.size (sl gb (n + 1) capb) (tabL (upV ((c, (j : Int)) :: prs (cs.take i) (ps.take i))) n) → gb ≠ g →
          Calls Try.prog 63 #[.int .i64 (c : Int), sl g (n + 1) cap, sl gb (n + 1) capb, .func (.func 65) #[] #[]] wx fun e w' => e = .returned (.tuple #[]) ∧ Own w' w.heap.size (sl g (n + 1) cap) (tabL (upV ((c, (j : Int) + 1) :: prs (cs.take i) (ps.take i))) n) ∧ wx.grownBy w' (some g)) := fun i c j hi hc hj g cap gb capb wx ho hob hne => by
        have hat := vc_at h1 hi
        rw [hc] at hat
        have hpj := purse_cons (hpp i) (show 1 ≤ (c : Int) by omega) (show 0 ≤ (j : Int) by omega)
        refine addCoin_apart _ enter_fewer _ _ c n g cap gb capb w.heap.size wx ho hob hne (by omega) (by omega) (fun k h1 h2 => ?_) (by omega) (fun x h1 h2 w => ?_)
        · exact up_one_less (hpp i) (by omega) (by omega) (by omega)
        · refine fewer_at w ?_ ?_ ?_
          · exact up_bounds hpj (by omega)
          · exact up_bounds hpj (by omega)
          · have := up_one (c := (c : Int)) (m := (j : Int)) (x := (x : Int)) (hpp i) (by omega) (by omega) (by omega) (by omega)
            rwa [show (x : Int) - (c : Int) = ((x - c : Nat) : Int) by omega] at this
      have HW := Lib.hid (fun w1 => withoutCoins_int n 0 1921 w1 (by omega))
      have HT1 : Hid (tabL (fun j => if j = 0 then 0 else 1921) n = tabL (upV (prs (cs.take 0) (ps.take 0))) n) := tabL_congr (fun j _ => (up_nil _).symm)
      have HUB : Hid (0 ≤ upV (prs cs ps) (n : Int) ∧ upV (prs cs ps) (n : Int) ≤ 1921) := by
        have := hpp cs.length
        rw [List.take_length, show ps.take cs.length = ps by rw [← h3, List.take_length]] at this
        exact up_bounds this (by omega)
      have HEND : Hid ((upV (prs cs ps) (n : Int) = 1921 → okPur cs ps (n : Int) = false ∧ purV cs ps (n : Int) = 0) ∧ (upV (prs cs ps) (n : Int) ≠ 1921 → okPur cs ps (n : Int) = true ∧ purV cs ps (n : Int) = upV (prs cs ps) (n : Int))) := by
        have hq := hpp cs.length
        rw [List.take_length, show ps.take cs.length = ps by rw [← h3, List.take_length]] at hq
        have hiff := up_unpaid hq (x := (n : Int)) (by omega)
        have h5 : okPur cs ps (n : Int) = decide (0 ≤ fpR (prs cs ps) (n : Int)) := by unfold okPur; rw [hCP]; rfl
        refine ⟨fun h => ?_, fun h => ?_⟩
        · have h4 := hiff.1 h
          have h6 : okPur cs ps (n : Int) = false := by rw [h5]; exact decide_eq_false (by omega)
          exact ⟨h6, by unfold purV; rw [h6]; rfl⟩
        · have h4 : ¬ fpR (prs cs ps) (n : Int) < 0 := fun h4 => h (hiff.2 h4)
          have h6 : okPur cs ps (n : Int) = true := by rw [h5]; exact decide_eq_true (by omega)
          exact ⟨h6, by unfold purV upV; rw [h6, if_pos rfl, if_neg h4]⟩
      have HFULL : Hid (tabL (upV (prs (cs.take cs.length) (ps.take cs.length))) n = tabL (upV (prs cs ps)) n) := by
        show _ = _
        rw [List.take_length, show ps.take cs.length = ps by rw [← h3, List.take_length]]
      have H6 := Lib.hid h6
      have l5 := vc_len h1
      have H3 := Lib.hid h3
      clear hpp hCP h1 h2 h6 h0 h3 hv hu hc1 hc2 bb
      go_enter Try.func39, Try.ntmps39
      go_wp2_with (first | (go_at_call 47; refine (HCP.out _ H0.out).mono ?_; rintro e w1 ⟨rfl, hd⟩; have hu1 := HU.out.below hd.below) | (go_at_call 44; refine (HAL.out _ _ hu1 H6.out).mono ?_; rintro e w' ⟨rfl, rfl⟩) | fail)
      have hb1 : Below w.heap.size w w1 := hd.below
      refine (HW.out w1).mono ?_
      rintro e w2 ⟨g, cap, rfl, hg, hown, hbl⟩
      have hb2 : Below w.heap.size w w2 := hb1.trans (hbl.mono hb1.size)
      have hs1 := hb1.size
      have hown2 := hown.base hs1
      rw [HT1.out] at hown2
      clear hown hbl hb1 hd HCP HAL HW HT1 hu1
      go_wp2
      go_loopw [9, 10, 31] (fun _ _ iv wr => ∃ i : Nat, i ≤ cs.length ∧ iv = .int .i64 i ∧ Own wr w.heap.size (sl g (n + 1) cap) (tabL (upV (prs (cs.take i) (ps.take i))) n) ∧ Below w.heap.size w wr) (fun _ _ iv _ => cs.length - (intOf iv).toNat)
      case atStart => exact ⟨0, Nat.zero_le _, rfl, hown2, hb2⟩
      case round =>
        clear hown2 hb2
        obtain ⟨i, hi, rfl, hown, hbl⟩ := hrel
        rename World => wr
        by_cases hlt : i < cs.length
        · have i1 : (i : Int) < (cs.length : Int) := by omega
          have i2 : (i : Int) < (ps.length : Int) := by have := H3.out; omega
          have hat := HAT.out i hlt
          have hps := HPS.out i hlt
          obtain ⟨c, hcn⟩ : ∃ c : Nat, cs.getD i 0 = c := ⟨(cs.getD i 0).toNat, by omega⟩
          obtain ⟨m, hmn⟩ : ∃ m : Nat, ps.getD i 0 = m := ⟨(ps.getD i 0).toNat, by omega⟩
          obtain ⟨_, _, e1, hcc⟩ := HV.out.below hbl
          simp only [Value.slice.injEq, true_and] at e1
          obtain ⟨rfl, rfl⟩ := e1
          obtain ⟨_, _, e2, hcp⟩ := HU.out.below hbl
          simp only [Value.slice.injEq, true_and] at e2
          obtain ⟨rfl, rfl⟩ := e2
          obtain ⟨q1, f1, rfl, d1⟩ := hcc i hlt
          obtain ⟨q2, f2, rfl, d2⟩ := hcp i (by have := H3.out; omega)
          rw [hcn] at d1 hat
          rw [hmn] at d2 hps
          rw [HT0.out i c hlt hcn] at hown
          have HA := Lib.hid (HADD.out i c · hlt hcn)
          have HE := Lib.hid (HTS.out i c m hlt hcn hmn)
          clear hcc hcp hcn hmn
          go_wp2
          go_loopw [40] (fun jv wx => ∃ j : Nat, j ≤ m ∧ jv = .int .i64 j ∧ Own wx w.heap.size (sl g (n + 1) cap) (tabL (upV (((c : Int), (j : Int)) :: prs (cs.take i) (ps.take i))) n) ∧ Below w.heap.size w wx) (fun jv _ => m - (intOf jv).toNat)
          case atStart => exact ⟨0, Nat.zero_le _, rfl, hown, hbl⟩
          case round =>
            clear hown hbl d1 d2
            obtain ⟨j, hj, rfl, hown, hbl⟩ := hrel
            rename World => wx
            by_cases hjm : j < m
            · have j1 : (j : Int) < (m : Int) := by omega
              have hCL := Clone_impl _ _ wx hown.ints (by rw [tabL_len]; omega) (by rw [tabL_len]; omega)
              rw [tabL_len] at hCL
              have HCL := Lib.hid hCL
              have HAj := Lib.hid (HA.out j (by omega) g cap)
              have hgl := hown.baseLe
              have hbz := hbl.size
              have HO := Lib.hid hown
              clear hCL HA hown
              go_wp2_with (go_at_call 64; refine HCL.out.mono ?_; rintro e w4 ⟨gb, capb, rfl, hgb, ho4, hb4⟩)
              have ho4b := ho4.base hbz
              have hown4 := HO.out.below hb4
              have hbl4 : Below w.heap.size w w4 := hbl.trans (hb4.mono hbz)
              have HC4 := Lib.hid (HAj.out gb capb w4 hown4 ho4b (by omega))
              clear ho4 hb4 HCL HAj ho4b hown4
              go_wp2_with (go_at_call 63; refine HC4.out.mono ?_; rintro e w5 ⟨rfl, ho5, hg5⟩)
              have hbl5 : Below w.heap.size w w5 := hbl4.trans (below_grown hg5 hbl4.size (fun k hk => by cases hk; exact hgl.1))
              have ho6 : Own w5 w.heap.size (sl g (n + 1) cap) (tabL (upV (((c : Int), ((j + 1 : Nat) : Int)) :: prs (cs.take i) (ps.take i))) n) := ho5
              clear hg5 HC4 ho5
              go_wp2
              go_roundw
              case rel => exact ⟨j + 1, by omega, by go_num, ho6, hbl5⟩
              case measure => simp [intOf]; omega
            · obtain rfl : j = m := by omega
              rw [HE.out] at hown
              go_wp2
              go_roundw
              case rel => exact ⟨i + 1, by omega, by go_num, hown, hbl⟩
              case measure => simp [intOf]; omega
        · obtain rfl : i = cs.length := by omega
          rw [HFULL.out] at hown
          have c1 := hown.cell (tabL_len _ _) n (by omega)
          rw [tabL_at _ (Nat.le_refl _)] at c1
          have n2 : (n : Int) < (n : Int) + 1 := by omega
          have hub := HUB.out
          obtain ⟨E1, E2⟩ := HEND.out
          have HE1 := Lib.hid E1
          have HE2 := Lib.hid E2
          clear E1 E2 HEND HUB HFULL HADD HTS HT0 HAT HPS hown
          generalize upV (prs cs ps) (n : Int) = r at *
          by_cases hr : r = 1921
          · have hrb : (r == 1921) = true := by simp [hr]
            have E := Lib.hid (HE1.out hr)
            clear hr HE1 HE2
            go_wp2
            go_ret2
            exact ⟨ret_pur E.out.2.symm E.out.1.symm, hbl⟩
          · have hrb : (r == 1921) = false := by simp [hr]
            have E := Lib.hid (HE2.out hr)
            clear hr HE1 HE2
            go_wp2
            go_ret2
            exact ⟨ret_pur E.out.2.symm E.out.1.symm, hbl⟩
  · have E := Lib.hid (HNO.out (by unfold cPur; rw [decide_eq_false h3]; simp))
    have hne : ((ps.length : Int) != (cs.length : Int)) = true := by simp; omega
    clear h3 hv hu hc1 hc2 h0
    go_enter Try.func39, Try.ntmps39
    go_wp2_with (go_at_call 47; refine (HCP.out _ H0.out).mono ?_; rintro e w' ⟨rfl, hd⟩)
    go_ret2
    exact ⟨ret_pur E.out.2.symm E.out.1.symm, hd.below⟩

end Go.Proofs.Ytbkndncdhombeaa
