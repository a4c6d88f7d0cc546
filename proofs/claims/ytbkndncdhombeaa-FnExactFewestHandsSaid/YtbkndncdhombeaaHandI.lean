/- FewestHands, the program's contract. -/
import Derived.Test.YtbkndncdhombeaaFewI
import Derived.Test.YtbkndncdhombeaaCoinH
namespace Go.Proofs.Ytbkndncdhombeaa
open Go.RowKit

set_option maxRecDepth 100000 in
set_option maxHeartbeats 3200000 in
theorem FewestHands_impl (v : Value) (cs : List Int) (a : Int) (w : World) (hv : IsInts w v cs) (hl : cs.length ≤ 9223372036854775807) :
    Calls Try.prog 37 #[v, .int .i64 a] w fun e w' => e = .returned (.tuple #[.int .i64 (handV cs a), .bool (cHand cs a)]) ∧ Below w.heap.size w w' := by
  have HCP := Lib.hid (fun r => canPayBy_at v cs a r w hv hl)
  cases h0 : (vCoins cs && inR a 0 120)
  · have E : Hid (cHand cs a = false) := by show _ = _; unfold cHand; rw [h0]; rfl
    have E2 := Lib.hid (hand_no E.out)
    go_enter Try.func37, Try.ntmps37
    go_wp2_with (go_at_call 47; refine (HCP.out _ h0).mono ?_; rintro e w' ⟨rfl, hd⟩)
    go_ret2
    exact ⟨ret_hand E2.out.symm E.out.symm, hd.below⟩
  · rw [Bool.and_eq_true] at h0
    have b2 := inR_true h0.2
    obtain ⟨n, rfl⟩ : ∃ n : Nat, a = n := ⟨a.toNat, by omega⟩
    have hp := vc_pos h0.1
    have HV := Lib.hid hv
    have HE : Hid (cHand cs (n : Int) = decide (0 ≤ bestH cs (n : Int) 901)) := by show _ = _; unfold cHand; rw [h0.1, h0.2]; rfl
    have HLE := Lib.hid (leastH_eq hp (a := (n : Int)) (by omega) (by omega))
    have HLB : Hid (∀ k : Nat, k ≤ 901 → 0 ≤ leastH cs (n : Int) k ∧ leastH cs (n : Int) k ≤ 1921) := fun k hk => leastH_bounds hp (by omega) (by omega) hk
    have HFU : Hid (∀ x : Nat, x ≤ 1020 → 0 ≤ fuV cs (x : Int) ∧ fuV cs (x : Int) ≤ 1921) := fun x hx => by
      have := fu_bounds hp (x := (x : Int)) (by omega) (by omega); omega
    have HFT := Lib.hid (fun (w1 : World) (hv1 : IsInts w1 v cs) => fewestUpTo_impl v cs (n + 900) w1 hv1 h0.1 (by omega))
    have HC0 : Hid ((vCoins cs && inR (n : Int) 0 120) = true) := by show _ = _; rw [h0.1, h0.2]; rfl
    have HST : Hid (∀ (k x : Nat), x = n + k → leastH cs (n : Int) (k + 1) = min (leastH cs (n : Int) k) (fuV cs (x : Int) + fuV cs (k : Int))) := fun k x hx => by rw [hx, Int.natCast_add]; rfl
    have HL0 : Hid (leastH cs (n : Int) 0 = 1921) := rfl
    have n120 : n ≤ 120 := by omega
    obtain ⟨av, cp, rfl, _⟩ := id hv
    clear h0 b2 hp hv
    go_enter Try.func37, Try.ntmps37
    go_wp2_with (first | (go_at_call 47; refine (HCP.out _ HC0.out).mono ?_; rintro e w1 ⟨rfl, hd⟩) | fail)
    have hb1 : Below w.heap.size w w1 := hd.below
    have hF := HFT.out w1 (HV.out.below hb1)
    rw [show ((n + 900 : Nat) : Int) = (n : Int) + 900 by omega] at hF
    clear HFT HCP HC0 HV hd
    refine hF.mono ?_
    rintro e w2 ⟨g, cap, rfl, hg, hown, hbl⟩
    have hb2 : Below w.heap.size w w2 := hb1.trans (hbl.mono hb1.size)
    have hown2 := hown.base hb1.size
    clear hF hown hbl hb1
    go_wp2
    go_loopw [7, 8, 17] (fun lv _ kv wr => ∃ k : Nat, k ≤ 901 ∧ kv = .int .i64 k ∧ lv = .int .i64 (leastH cs (n : Int) k) ∧ Own wr w.heap.size (sl g (n + 900 + 1) cap) (tabL (fuV cs) (n + 900)) ∧ Below w.heap.size w wr) (fun _ _ kv _ => 901 - (intOf kv).toNat)
    case atStart => exact ⟨0, Nat.zero_le _, rfl, by rw [HL0.out], hown2, hb2⟩
    case round =>
      clear hown2 hb2
      obtain ⟨k, hk, rfl, rfl, hown, hbl⟩ := hrel
      rename World => wr
      by_cases hlt : k < 901
      · have k1 : (k : Int) < 901 := by omega
        have k2 : (0 : Int) ≤ (n : Int) + (k : Int) := by omega
        have k3 : (n : Int) + (k : Int) < (n : Int) + 900 + 1 := by omega
        have k4 : ((n : Int) + (k : Int)).toNat = n + k := by omega
        have k5 : (k : Int) < (n : Int) + 900 + 1 := by omega
        have hwr : IntKind.i64.wrap ((n : Int) + (k : Int)) = (n : Int) + (k : Int) := IntWalk.i64_in _ (by omega)
        have c1 := hown.cell (tabL_len _ _) (n + k) (by omega)
        rw [tabL_at _ (by omega)] at c1
        have c2 := hown.cell (tabL_len _ _) k (by omega)
        rw [tabL_at _ (by omega)] at c2
        have f1 := HFU.out (n + k) (by omega)
        have f2 := HFU.out k (by omega)
        have f3 := HLB.out k hk
        have HS := Lib.hid (HST.out k (n + k) rfl)
        have hbz := hbl.size
        have HBD : Hid (∀ q, Below w.heap.size w (wr.drewN q)) := fun q => below_drewNC hbl hbz q
        have HOD : Hid (∀ q, Own (wr.drewN q) w.heap.size (sl g (n + 900 + 1) cap) (tabL (fuV cs) (n + 900))) := fun q => own_drewN hown q
        clear hown hbl
        generalize fuV cs ((n + k : Nat) : Int) = u at *
        generalize fuV cs (k : Int) = y at *
        generalize leastH cs (n : Int) k = r at *
        by_cases hr : r ≤ u + y
        · have HN : Hid (leastH cs (n : Int) (k + 1) = r) := by show _ = _; rw [HS.out]; omega
          go_wp2
          go_region
          all_goals
            go_wp2
            go_roundw
            case rel => exact ⟨k + 1, by omega, by go_num, by rw [HN.out]; try omega, HOD.out 1, HBD.out 1⟩
            case measure => simp [intOf]; omega
        · have HN : Hid (leastH cs (n : Int) (k + 1) = u + y) := by show _ = _; rw [HS.out]; omega
          go_wp2
          go_region
          all_goals
            go_wp2
            go_roundw
            case rel => exact ⟨k + 1, by omega, by go_num, by rw [HN.out]; try omega, HOD.out 1, HBD.out 1⟩
            case measure => simp [intOf]; omega
      · obtain rfl : k = 901 := by omega
        obtain ⟨e1, e2⟩ := HLE.out 901 (Nat.le_refl _)
        have f3 := HLB.out 901 (Nat.le_refl _)
        have HEE := Lib.hid e1
        clear e1 HLE HLB HFU HST HL0 hown
        by_cases h : bestH cs (n : Int) 901 < 0
        · have e1 : Hid (cHand cs (n : Int) = false) := by show _ = _; rw [HE.out]; exact decide_eq_false (by omega)
          have E2 := Lib.hid (hand_no e1.out)
          have hr : leastH cs (n : Int) 901 = 1921 := by rw [HEE.out, if_pos h]
          have hrb : (leastH cs (n : Int) 901 == 1921) = true := by simp [hr]
          clear HEE hr HE h
          generalize leastH cs (n : Int) 901 = r at *
          go_wp2
          go_ret2
          exact ⟨ret_hand E2.out.symm e1.out.symm, hbl⟩
        · have e1 : Hid (cHand cs (n : Int) = true) := by show _ = _; rw [HE.out]; exact decide_eq_true (by omega)
          have E2 : Hid (handV cs (n : Int) = leastH cs (n : Int) 901) := by show _ = _; unfold handV; rw [e1.out, if_pos rfl, HEE.out, if_neg h]
          have hrb : (leastH cs (n : Int) 901 == 1921) = false := by rw [HEE.out, if_neg h]; simp; omega
          clear HEE HE h
          generalize leastH cs (n : Int) 901 = r at *
          go_wp2
          go_ret2
          exact ⟨ret_hand E2.out.symm e1.out.symm, hbl⟩

end Go.Proofs.Ytbkndncdhombeaa
