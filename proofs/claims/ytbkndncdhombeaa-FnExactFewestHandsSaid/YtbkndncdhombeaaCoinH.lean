/- Change, in the model. -/
import Derived.Test.YtbkndncdhombeaaCoinF
import Derived.Test.YtbkndncdhombeaaCoinK
import Derived.Test.YtbkndncdhombeaaCoinU
namespace Go.Proofs.Ytbkndncdhombeaa
open Go.RowKit

set_option maxRecDepth 100000 in
set_option maxHeartbeats 6400000 in
theorem backOf_spec (v : Value) (cs : List Int) (a : Nat) (w : World) (hv : IsInts w v cs) (h1 : vCoins cs = true) (ha : a ≤ 120) :
    Calls Try.prog 60 #[v, .int .i64 (a : Int)] w fun e w' => e = .returned (.int .i64 (bestH cs (a : Int) 901)) ∧ Below w.heap.size w w' := by
  obtain ⟨l1, l5⟩ := vc_len h1
  obtain ⟨b, off, cap, rfl, hbw, hc⟩ := id (hv.at0 l1)
  have hp := vc_pos h1
  have HFB : Hid (∀ x : Nat, x ≤ 1020 → -1 ≤ fwV cs (x : Int) ∧ fwV cs (x : Int) ≤ 1020) := fun x hx => by
    have := fw_ge hp (x : Int)
    by_cases h : 0 ≤ fwV cs (x : Int)
    · have := fw_bound hp h; omega
    · omega
  have HBB : Hid (∀ k : Nat, k ≤ 901 → -1 ≤ bestH cs (a : Int) k ∧ bestH cs (a : Int) k ≤ 1920) := fun k hk => ⟨bestH_ge _ _ _, (leastH_eq hp (by omega) (by omega) k hk).2⟩
  have hF := fewest_spec _ cs (a + 900) w hv h1 (by omega)
  have HST : Hid (∀ (k x : Nat), x = a + k → bestH cs (a : Int) (k + 1) = if 0 ≤ fwV cs (x : Int) ∧ 0 ≤ fwV cs (k : Int) ∧ (bestH cs (a : Int) k < 0 ∨ fwV cs (x : Int) + fwV cs (k : Int) < bestH cs (a : Int) k) then fwV cs (x : Int) + fwV cs (k : Int) else bestH cs (a : Int) k) := fun k x hx => by
    rw [hx, Int.natCast_add]; rfl
  have HF := Lib.hid hF
  have HB0 : Hid (bestH cs (a : Int) 0 = -1) := rfl
  clear hc hp h1 hv hF
  obtain ⟨T, hT⟩ : ∃ T : Nat, T = a + 900 := ⟨_, rfl⟩
  have hF2 : Calls Try.prog 51 #[.slice (some ⟨b, off, none⟩) cs.length cap, .int .i64 ((a : Int) + 900)] w fun e w' => ∃ v', e = .returned v' ∧ Own w' w.heap.size v' (tabL (fwV cs) T) ∧ Below w.heap.size w w' := by
    rw [hT]; exact HF.out
  have HF2 := Lib.hid hF2
  clear hF2
  have HT := Lib.hid hT
  clear hT
  go_enter Try.func60, Try.ntmps60
  go_wp2_with (go_at_call 51; refine HF2.out.mono ?_; rintro e w2 ⟨v2, rfl, hown, hbl⟩)
  obtain ⟨gl, cl, rfl, hg0, hg1⟩ := own_sl hown (tabL_len _ _) (by omega)
  have hTa : T ≤ a + 900 := by have := HT.out; omega
  have hTb : a + 900 ≤ T := by have := HT.out; omega
  clear HF HF2 HT
  go_loopw [7, 8] (fun bv xv wr => ∃ k x : Nat, x = a + k ∧ k ≤ 901 ∧ xv = .int .i64 x ∧ bv = .int .i64 (bestH cs (a : Int) k) ∧ Own wr w.heap.size (sl gl (T + 1) cl) (tabL (fwV cs) T) ∧ Below w.heap.size w wr) (fun _ xv _ => T + 1 - (intOf xv).toNat)
  case atStart => exact ⟨0, a, rfl, by omega, rfl, by rw [HB0.out], hown, hbl⟩
  case round =>
    clear hown hbl
    obtain ⟨k, x, hx, hk, rfl, rfl, hown, hbl⟩ := hrel
    rename World => wr
    by_cases hlt : x ≤ T
    · have x1 : (x : Int) ≤ (a : Int) + 900 := by omega
      have x2 : (x : Int) < (T : Int) + 1 := by omega
      have x3 : (0 : Int) ≤ (x : Int) - (a : Int) := by omega
      have x4 : (x : Int) - (a : Int) < (T : Int) + 1 := by omega
      have x5 : ((x : Int) - (a : Int)).toNat = k := by omega
      have c1 := hown.cell (tabL_len _ _) x (by omega)
      rw [tabL_at _ hlt] at c1
      have c2 := hown.cell (tabL_len _ _) k (by omega)
      rw [tabL_at _ (by omega)] at c2
      have f1 := HFB.out x (by omega)
      have f2 := HFB.out k (by omega)
      have f3 := HBB.out k hk
      have HS := Lib.hid (HST.out k x hx)
      have hxa : x ≤ a + k := by omega
      have hxb : a + k ≤ x := by omega
      clear hx
      have HO := Lib.hid hown
      have hbz := hbl.size
      have HBD : Hid (∀ q, Below w.heap.size w (wr.drewN q)) := fun q => below_drewNC hbl hbz q
      have HOD : Hid (∀ q, Own (wr.drewN q) w.heap.size (sl gl (T + 1) cl) (tabL (fwV cs) T)) := fun q => own_drewN hown q
      have k1 : k + 1 ≤ 901 := by omega
      clear hown hbl
      generalize fwV cs (x : Int) = u at *
      generalize fwV cs (k : Int) = y at *
      generalize bestH cs (a : Int) k = r at *
      by_cases h1 : 0 ≤ u
      · by_cases h2 : 0 ≤ y
        · by_cases h3 : r < 0
          · have HN : Hid (bestH cs (a : Int) (k + 1) = u + y) := by show _ = _; rw [HS.out, if_pos ⟨h1, h2, .inl h3⟩]
            go_wp2
            go_quiet (fail)
            go_wp2
            go_quiet (fail)
            go_wp2
            go_roundw
            case rel => exact ⟨k + 1, x + 1, by omega, k1, by go_num, by rw [HN.out], HOD.out _, HBD.out _⟩
            case measure => simp [intOf]; omega
          · have d3 : decide (r < 0) = false := decide_eq_false h3
            by_cases h4 : u + y < r
            · have HN : Hid (bestH cs (a : Int) (k + 1) = u + y) := by show _ = _; rw [HS.out, if_pos ⟨h1, h2, .inr h4⟩]
              go_wp2
              go_quiet (fail)
              go_wp2
              go_quiet (fail)
              go_wp2
              go_roundw
              case rel => exact ⟨k + 1, x + 1, by omega, k1, by go_num, by rw [HN.out], HOD.out _, HBD.out _⟩
              case measure => simp [intOf]; omega
            · have HN : Hid (bestH cs (a : Int) (k + 1) = r) := by show _ = _; rw [HS.out, if_neg (fun h => h.2.2.elim h3 h4)]
              have d4 : decide (u + y < r) = false := decide_eq_false h4
              go_wp2
              go_quiet (fail)
              go_wp2
              go_roundw
              case rel => exact ⟨k + 1, x + 1, by omega, k1, by go_num, by rw [HN.out], HOD.out _, HBD.out _⟩
              case measure => simp [intOf]; omega
        · have HN : Hid (bestH cs (a : Int) (k + 1) = r) := by show _ = _; rw [HS.out, if_neg (fun h => h2 h.2.1)]
          have d2 : decide (0 ≤ y) = false := decide_eq_false h2
          go_wp2
          go_quiet (fail)
          go_wp2
          go_roundw
          case rel => exact ⟨k + 1, x + 1, by omega, k1, by go_num, by rw [HN.out], HOD.out _, HBD.out _⟩
          case measure => simp [intOf]; omega
      · have HN : Hid (bestH cs (a : Int) (k + 1) = r) := by show _ = _; rw [HS.out, if_neg (fun h => h1 h.1)]
        have d1 : decide (0 ≤ u) = false := decide_eq_false h1
        go_wp2
        go_quiet (fail)
        go_wp2
        go_roundw
        case rel => exact ⟨k + 1, x + 1, by omega, k1, by go_num, by rw [HN.out], HOD.out _, HBD.out _⟩
        case measure => simp [intOf]; omega
    · have x1 : ¬ (x : Int) ≤ (a : Int) + 900 := by omega
      obtain rfl : k = 901 := by omega
      go_wp2
      go_ret
      exact ⟨rfl, hbl⟩

/-- Is there an answer of FewestHands? -/
def cHand (cs : List Int) (a : Int) : Bool := vCoins cs && inR a 0 120 && decide (0 ≤ bestH cs a 901)
def handV (cs : List Int) (a : Int) : Int := if cHand cs a = true then bestH cs a 901 else 0

theorem ret_hand {a a' : Int} {r r' : Bool} (h1 : a = a') (h2 : r = r') : Ending.returned (.tuple #[.int .i64 a, .bool r]) = .returned (.tuple #[.int .i64 a', .bool r']) := by rw [h1, h2]

theorem hand_no {cs : List Int} {a : Int} (h : cHand cs a = false) : handV cs a = 0 := by unfold handV; rw [h]; rfl

set_option maxRecDepth 100000 in
set_option maxHeartbeats 3200000 in
theorem FewestHands_spec (v : Value) (cs : List Int) (a : Int) (w : World) (hv : IsInts w v cs) (hl : cs.length ≤ 9223372036854775807) :
    Calls Try.prog 36 #[v, .int .i64 a] w fun e w' => e = .returned (.tuple #[.int .i64 (handV cs a), .bool (cHand cs a)]) ∧ Below w.heap.size w w' := by
  have HVC := Lib.hid (fun r => validCoins_sat v cs r w hv hl)
  have HCC := Lib.hid inRange_sat
  have HNO : Hid (cHand cs a = false → handV cs a = 0) := hand_no
  cases h1 : vCoins cs
  · have E : Hid (cHand cs a = false) := by show _ = _; unfold cHand; rw [h1]; rfl
    go_enter Try.func36, Try.ntmps36
    go_wp2_with (go_at_call 45; refine (HVC.out _ h1).mono ?_; rintro e w' ⟨rfl, hd⟩)
    go_ret2
    exact ⟨ret_hand (HNO.out E.out).symm E.out.symm, hd.below⟩
  cases h2 : inR a 0 120
  · have E : Hid (cHand cs a = false) := by show _ = _; unfold cHand; rw [h2]; simp
    go_enter Try.func36, Try.ntmps36
    go_wp2_with (first | (go_at_call 45; refine (HVC.out _ h1).mono ?_; rintro e w' ⟨rfl, hd⟩) | (go_at_call 50; refine (HCC.out _ _ _ _ _ h2).mono ?_; rintro e w' ⟨rfl, rfl⟩))
    go_ret2
    exact ⟨ret_hand (HNO.out E.out).symm E.out.symm, hd.below⟩
  · have b2 := inR_true h2
    obtain ⟨n, rfl⟩ : ∃ n : Nat, a = n := ⟨a.toNat, by omega⟩
    have HV := Lib.hid hv
    obtain ⟨av, cap, rfl, _⟩ := id hv
    have HBF := Lib.hid (fun (w : World) (hv : IsInts w (.slice av cs.length cap) cs) => backOf_spec _ cs n w hv h1 (by omega))
    have HE : Hid (cHand cs (n : Int) = decide (0 ≤ bestH cs (n : Int) 901)) := by show _ = _; unfold cHand; rw [h1, h2]; rfl
    have HBB : Hid (-1 ≤ bestH cs (n : Int) 901 ∧ bestH cs (n : Int) 901 ≤ 1920) := ⟨bestH_ge _ _ _, (leastH_eq (vc_pos h1) (by omega) (by omega) 901 (Nat.le_refl _)).2⟩
    have HEV : Hid (handV cs (n : Int) = max (bestH cs (n : Int) 901) 0) := by
      show _ = _
      unfold handV
      rw [HE.out]
      by_cases h : 0 ≤ bestH cs (n : Int) 901
      · rw [decide_eq_true h, if_pos rfl]; omega
      · rw [decide_eq_false h, if_neg (by simp)]; omega
    clear b2 hv
    go_enter Try.func36, Try.ntmps36
    go_wp2_with (first | (go_at_call 45; refine (HVC.out _ h1).mono ?_; rintro e w1 ⟨rfl, hd⟩) | (go_at_call 50; refine (HCC.out _ _ _ _ _ h2).mono ?_; rintro e w' ⟨rfl, rfl⟩) | fail)
    have hb1 : Below w.heap.size w w1 := hd.below
    refine (HBF.out w1 (HV.out.below hb1)).mono ?_
    rintro e w2 ⟨rfl, hbl⟩
    have hb2 : Below w.heap.size w w2 := hb1.trans (hbl.mono hb1.size)
    have hbb := HBB.out
    clear HBF HVC HCC
    generalize bestH cs (n : Int) 901 = r at *
    by_cases h : 0 ≤ r
    · have e1 : Hid (handV cs (n : Int) = r) := by show _ = _; rw [HEV.out]; omega
      have e2 : Hid (cHand cs (n : Int) = true) := by show _ = _; rw [HE.out]; exact decide_eq_true h
      clear HEV HE
      go_wp2
      all_goals
        go_ret2
        exact ⟨ret_hand (by first | exact e1.out.symm | (rw [e1.out]; omega)) (by first | exact e2.out.symm | (rw [e2.out]; exact decide_eq_true (by omega)) | (rw [e2.out]; exact decide_eq_false (by omega))), hb2⟩
    · have e1 : Hid (handV cs (n : Int) = 0) := by show _ = _; rw [HEV.out]; omega
      have e2 : Hid (cHand cs (n : Int) = false) := by show _ = _; rw [HE.out]; exact decide_eq_false h
      clear HEV HE
      go_wp2
      all_goals
        go_ret2
        exact ⟨ret_hand (by first | exact e1.out.symm | (rw [e1.out]; omega)) (by first | exact e2.out.symm | (rw [e2.out]; exact decide_eq_true (by omega)) | (rw [e2.out]; exact decide_eq_false (by omega))), hb2⟩

end Go.Proofs.Ytbkndncdhombeaa
