/- Purses, in the model. -/
import Derived.Test.YtbkndncdhombeaaCoinF
import Derived.Test.YtbkndncdhombeaaCoinK
import Derived.Test.YtbkndncdhombeaaCoinU
namespace Go.Proofs.Ytbkndncdhombeaa
open Go.RowKit

theorem prs_succ {cs ps : List Int} (hl : ps.length = cs.length) {i : Nat} (h : i < cs.length) : prs (cs.take (i + 1)) (ps.take (i + 1)) = (cs.getD i 0, ps.getD i 0) :: prs (cs.take i) (ps.take i) := by
  rw [take_snoc cs h, take_snoc ps (by omega), prs_snoc (by rw [List.length_take, List.length_take]; omega)]

/-- Numbers of a purse. -/
def vPurse (ps : List Int) : Bool := ps.all fun k => inR k 0 6

theorem vPurse_iff {ps : List Int} : vPurse ps = true ↔ ∀ k ∈ ps, 0 ≤ k ∧ k ≤ 6 := by
  unfold vPurse
  rw [List.all_eq_true]
  exact ⟨fun h k hk => inR_true (h k hk), fun h k hk => by unfold inR; exact decide_eq_true (h k hk)⟩

theorem vPurse_no {ps : List Int} {i : Nat} (h : i < ps.length) (hf : inR (ps.getD i 0) 0 6 = false) : vPurse ps = false := by
  unfold vPurse
  rw [List.all_eq_false]
  exact ⟨ps.getD i 0, getD_mem h, by rw [hf]; simp⟩

theorem vPurse_yes {ps : List Int} (h : ∀ i, i < ps.length → inR (ps.getD i 0) 0 6 = true) : vPurse ps = true := by
  unfold vPurse
  rw [List.all_eq_true]
  intro k hk
  obtain ⟨i, hi, rfl⟩ := mem_getD hk
  exact h i hi

set_option maxRecDepth 100000 in
set_option maxHeartbeats 6400000 in
theorem fromFrom_spec (v u : Value) (cs ps : List Int) (w : World) (hv : IsInts w v cs) (hu : IsInts w u ps) (h1 : vCoins cs = true) (hl : ps.length = cs.length) (h2 : vPurse ps = true) :
    ∀ (i x : Nat) (z : Int), i ≤ cs.length → z = (i : Int) - 1 → x ≤ 120 → Calls Try.prog 66 #[v, u, .int .i64 z, .int .i64 (x : Int)] w fun e w' => e = .returned (.int .i64 (fpR (prs (cs.take i) (ps.take i)) (x : Int))) ∧ w = w' := by
  obtain ⟨l1, l5⟩ := vc_len h1
  obtain ⟨b, off, cap, rfl, hbw, hc⟩ := id (hv.at0 l1)
  obtain ⟨b2, off2, cap2, rfl, hbw2, hc2⟩ := id (hu.at0 (by omega))
  have HPS : Hid (∀ i, i < cs.length → 0 ≤ ps.getD i 0 ∧ ps.getD i 0 ≤ 6) := fun i hi => vPurse_iff.1 h2 _ (getD_mem (by omega))
  have HAT := Lib.hid (fun (i : Nat) => vc_at h1 (i := i))
  have HPP : Hid (∀ i, Purse (prs (cs.take i) (ps.take i))) := fun i => prs_purse ((vc_pos h1).take i) (fun k hk => (vPurse_iff.1 h2 k (take_mem hk)).1)
  have HSU := Lib.hid (fun (i : Nat) => prs_succ (cs := cs) (ps := ps) hl (i := i))
  intro i
  induction i with
  | zero =>
    intro x z _ hz hx
    subst hz
    have E : Hid (fpR (prs (cs.take 0) (ps.take 0)) (x : Int) = if (x : Int) = 0 then 0 else -1) := by show _ = _; rw [List.take_zero]; rfl
    by_cases h0 : x = 0
    · subst h0
      have E2 : Hid (fpR (prs (cs.take 0) (ps.take 0)) ((0 : Nat) : Int) = 0) := by show _ = _; rw [E.out]; rfl
      go_enter Try.func66, Try.ntmps66
      go_wp2
      go_ret
      exact ⟨ret_int E2.out.symm, rfl⟩
    · have hxb : ((x : Int) == 0) = false := by simp; omega
      have E2 : Hid (fpR (prs (cs.take 0) (ps.take 0)) (x : Int) = -1) := by show _ = _; rw [E.out, if_neg (by omega)]
      obtain ⟨z, hz⟩ : ∃ z : Int, z = ((0 : Nat) : Int) - 1 := ⟨_, rfl⟩
      rw [← hz]
      have hz1 : z < 0 := by omega
      clear hz
      go_enter Try.func66, Try.ntmps66
      go_wp2
      go_ret
      exact ⟨ret_int E2.out.symm, rfl⟩
  | succ j ih =>
    intro x z hj hz hx
    obtain rfl : z = (j : Int) := by omega
    clear hz
    have hlt : j < cs.length := by omega
    have hsu := HSU.out j hlt
    have IH := Lib.hid (fun (x : Nat) (hx : x ≤ 120) => ih x ((j : Int) - 1) (by omega) rfl hx)
    have hpp := HPP.out j
    have hat := HAT.out j hlt
    have hps := HPS.out j hlt
    have c1 := hc j hlt
    have c2 := hc2 j (by omega)
    obtain ⟨c, hcn⟩ : ∃ c : Nat, cs.getD j 0 = c := ⟨(cs.getD j 0).toNat, by omega⟩
    obtain ⟨m, hmn⟩ : ∃ m : Nat, ps.getD j 0 = m := ⟨(ps.getD j 0).toNat, by omega⟩
    rw [hcn] at c1 hat
    rw [hmn] at c2 hps
    rw [hcn, hmn] at hsu
    by_cases h0 : x = 0
    · subst h0
      have E2 : Hid (fpR (prs (cs.take (j + 1)) (ps.take (j + 1))) ((0 : Nat) : Int) = 0) := by show _ = _; rw [hsu]; rfl
      go_enter Try.func66, Try.ntmps66
      go_wp2
      go_ret
      exact ⟨ret_int E2.out.symm, rfl⟩
    · have hxb : ((x : Int) == 0) = false := by simp; omega
      have hj0 : ¬ (j : Int) < 0 := by omega
      have i1 : (j : Int) < (cs.length : Int) := by omega
      have i2 : (j : Int) < (ps.length : Int) := by omega
      have E2 : Hid (fpR (prs (cs.take (j + 1)) (ps.take (j + 1))) (x : Int) = bestK (fun k => fpR (prs (cs.take j) (ps.take j)) ((x : Int) - k * c)) (m + 1)) := by
        show _ = _
        rw [hsu, fpR, if_neg (by omega)]
        rfl
      have HBS : Hid (∀ k : Nat, k ≤ m + 1 → (x : Int) < k * c → bestK (fun k => fpR (prs (cs.take j) (ps.take j)) ((x : Int) - k * c)) (m + 1) = bestK (fun k => fpR (prs (cs.take j) (ps.take j)) ((x : Int) - k * c)) k) := fun k h3 h4 => by
        have := bestK_stop hpp (c := (c : Int)) (x := (x : Int)) (m + 1 - k) k h4 (by omega)
        rwa [show k + (m + 1 - k) = m + 1 by omega] at this
      have HFB : Hid (∀ y : Nat, y ≤ 120 → -1 ≤ fpR (prs (cs.take j) (ps.take j)) (y : Int) ∧ fpR (prs (cs.take j) (ps.take j)) (y : Int) ≤ 120) := fun y hy => by
        have h3 := fp_ge hpp (y : Int)
        by_cases h4 : 0 ≤ fpR (prs (cs.take j) (ps.take j)) (y : Int)
        · have := BP.bounds hpp (fp_bp hpp h4); omega
        · omega
      have HB0 : Hid (bestK (fun k => fpR (prs (cs.take j) (ps.take j)) ((x : Int) - k * c)) 0 = -1) := rfl
      have HBN : Hid (∀ k : Nat, ∀ q : Int, fpR (prs (cs.take j) (ps.take j)) ((x : Int) - k * c) = q → bestK (fun k => fpR (prs (cs.take j) (ps.take j)) ((x : Int) - k * c)) (k + 1) = if 0 ≤ q ∧ (bestK (fun k => fpR (prs (cs.take j) (ps.take j)) ((x : Int) - k * c)) k < 0 ∨ q + k < bestK (fun k => fpR (prs (cs.take j) (ps.take j)) ((x : Int) - k * c)) k) then q + k else bestK (fun k => fpR (prs (cs.take j) (ps.take j)) ((x : Int) - k * c)) k) := fun k q h => by rw [← h]; rfl
      clear hsu ih hpp hc hc2 hcn hmn HSU HPP
      generalize fpR (prs (cs.take j) (ps.take j)) = F at *
      generalize hBK : bestK (fun k => F ((x : Int) - k * c)) = BK at *
      clear hBK hl hv hu h1 h2
      go_enter Try.func66, Try.ntmps66
      go_wp2
      go_loopw [9, 10, 11] (fun bv kv _ wr => ∃ k : Nat, k ≤ m + 1 ∧ kv = .int .i64 k ∧ bv = .int .i64 (BK k) ∧ -1 ≤ BK k ∧ BK k ≤ 200 ∧ wr = w) (fun _ kv _ _ => m + 1 - (intOf kv).toNat)
      case atStart => exact ⟨0, by omega, rfl, by rw [HB0.out], by rw [HB0.out]; omega, by rw [HB0.out]; omega, rfl⟩
      case round =>
        obtain ⟨k, hk, rfl, rfl, hb1, hb2, rfl⟩ := hrel
        have k6 : k ≤ 7 := by omega
        have hkc0 : 0 ≤ (k : Int) * (c : Int) := Int.mul_nonneg (by omega) (by omega)
        have hkc1 : (k : Int) * (c : Int) ≤ 210 := by
          have := Int.mul_le_mul (show (k : Int) ≤ 7 by omega) hat.2 (by omega) (by omega)
          omega
        by_cases hkm : k ≤ m
        · have k1 : (k : Int) ≤ (m : Int) := by omega
          by_cases hkx : (k : Int) * (c : Int) ≤ (x : Int)
          · have IHk := IH.out ((x : Int) - k * c).toNat (by omega)
            have HBk := HBN.out k
            have HFk := HFB.out ((x : Int) - k * c).toNat (by omega)
            rw [Int.toNat_of_nonneg (by omega)] at IHk HFk
            have HB2 := Lib.hid (HBk (F ((x : Int) - k * c)) rfl)
            have HI2 := Lib.hid IHk
            clear IHk HBk
            generalize F ((x : Int) - k * c) = q at *
            have HKB := Lib.hid hb1
            by_cases hq : 0 ≤ q
            · by_cases hb : BK k < 0
              · have HN : Hid (BK (k + 1) = q + k) := by show _ = _; rw [HB2.out, if_pos ⟨hq, .inl hb⟩]
                generalize BK k = r at *
                go_wp2_with (go_at_call 66; with_reducible refine HI2.out.mono ?_; rintro e w' ⟨rfl, rfl⟩)
                go_roundw
                case rel => exact ⟨k + 1, by omega, by go_num, by rw [HN.out], by rw [HN.out]; omega, by rw [HN.out]; omega, trivial⟩
                case measure => simp [intOf]; omega
              · by_cases hb3 : q + k < BK k
                · have HN : Hid (BK (k + 1) = q + k) := by show _ = _; rw [HB2.out, if_pos ⟨hq, .inr hb3⟩]
                  generalize BK k = r at *
                  go_wp2_with (go_at_call 66; with_reducible refine HI2.out.mono ?_; rintro e w' ⟨rfl, rfl⟩)
                  go_roundw
                  case rel => exact ⟨k + 1, by omega, by go_num, by rw [HN.out], by rw [HN.out]; omega, by rw [HN.out]; omega, trivial⟩
                  case measure => simp [intOf]; omega
                · have HN : Hid (BK (k + 1) = BK k) := by show _ = _; rw [HB2.out, if_neg (fun h => h.2.elim hb hb3)]
                  generalize BK k = r at *
                  go_wp2_with (go_at_call 66; with_reducible refine HI2.out.mono ?_; rintro e w' ⟨rfl, rfl⟩)
                  go_roundw
                  case rel => exact ⟨k + 1, by omega, by go_num, by rw [HN.out], by rw [HN.out]; omega, by rw [HN.out]; omega, trivial⟩
                  case measure => simp [intOf]; omega
            · have HN : Hid (BK (k + 1) = BK k) := by show _ = _; rw [HB2.out, if_neg (fun h => hq h.1)]
              generalize BK k = r at *
              go_wp2_with (go_at_call 66; with_reducible refine HI2.out.mono ?_; rintro e w' ⟨rfl, rfl⟩)
              go_roundw
              case rel => exact ⟨k + 1, by omega, by go_num, by rw [HN.out], by rw [HN.out]; omega, by rw [HN.out]; omega, trivial⟩
              case measure => simp [intOf]; omega
          · have E3 := HBS.out k (by omega) (by omega)
            have HE := Lib.hid (E2.out.trans E3)
            clear E3 E2
            generalize BK k = r at *
            go_wp2
            go_ret
            exact ⟨ret_int HE.out.symm, rfl⟩
        · have k1 : ¬ (k : Int) ≤ (m : Int) := by omega
          obtain rfl : k = m + 1 := by omega
          generalize BK (m + 1) = r at *
          go_wp2
          go_ret
          exact ⟨ret_int E2.out.symm, rfl⟩

/-- Is there an answer of FromPurse, are the arguments fine? -/
def cPur (cs ps : List Int) (a : Int) : Bool := vCoins cs && decide (ps.length = cs.length) && inR a 0 120 && vPurse ps
/-- Do coins of the purse pay? -/
def okPur (cs ps : List Int) (a : Int) : Bool := cPur cs ps a && decide (0 ≤ fpR (prs cs ps) a)
def purV (cs ps : List Int) (a : Int) : Int := if okPur cs ps a = true then fpR (prs cs ps) a else 0

theorem ret_pur {a a' : Int} {r r' : Bool} (h1 : a = a') (h2 : r = r') : Ending.returned (.tuple #[.int .i64 a, .bool r]) = .returned (.tuple #[.int .i64 a', .bool r']) := by rw [h1, h2]

theorem pur_no {cs ps : List Int} {a : Int} (h : cPur cs ps a = false) : okPur cs ps a = false ∧ purV cs ps a = 0 := by
  have e : okPur cs ps a = false := by unfold okPur; rw [h]; rfl
  exact ⟨e, by unfold purV; rw [e]; rfl⟩

theorem fp_bounds {cs ps : List Int} {a : Int} (h : cPur cs ps a = true) : -1 ≤ fpR (prs cs ps) a ∧ fpR (prs cs ps) a ≤ 120 := by
  unfold cPur at h
  rw [Bool.and_eq_true, Bool.and_eq_true, Bool.and_eq_true] at h
  have hP := prs_purse (vc_pos h.1.1.1) (fun k hk => (vPurse_iff.1 h.2 k hk).1)
  have h1 := fp_ge hP a
  have h2 := inR_true h.1.2
  by_cases h4 : 0 ≤ fpR (prs cs ps) a
  · have := BP.bounds hP (fp_bp hP h4); omega
  · omega

set_option maxRecDepth 100000 in
set_option maxHeartbeats 3200000 in
theorem FromPurse_spec (v u : Value) (cs ps : List Int) (a : Int) (w : World) (hv : IsInts w v cs) (hl : cs.length ≤ 9223372036854775807) (hu : IsInts w u ps) (hm : ps.length ≤ 9223372036854775807) :
    Calls Try.prog 40 #[v, u, .int .i64 a] w fun e w' => e = .returned (.tuple #[.int .i64 (purV cs ps a), .bool (okPur cs ps a)]) ∧ Below w.heap.size w w' := by
  have HVC := Lib.hid (fun r => validCoins_sat v cs r w hv hl)
  have HCC := Lib.hid inRange_sat
  have HNO : Hid (cPur cs ps a = false → okPur cs ps a = false ∧ purV cs ps a = 0) := pur_no
  obtain ⟨b2, cap2, rfl, hc2⟩ := id hu
  obtain ⟨b1, cap1, rfl, hc1⟩ := id hv
  clear hc1
  cases h1 : vCoins cs
  · have E := Lib.hid (HNO.out (by unfold cPur; rw [h1]; rfl))
    go_enter Try.func40, Try.ntmps40
    go_wp2_with (go_at_call 45; refine (HVC.out _ h1).mono ?_; rintro e w' ⟨rfl, hd⟩)
    go_ret2
    exact ⟨ret_pur E.out.2.symm E.out.1.symm, hd.below⟩
  by_cases h3 : ps.length = cs.length
  · cases h2 : inR a 0 120
    · have E := Lib.hid (HNO.out (by unfold cPur; rw [h2]; simp))
      have hne : ((ps.length : Int) != (cs.length : Int)) = false := by simp; omega
      clear h3
      go_enter Try.func40, Try.ntmps40
      go_wp2_with (first | (go_at_call 45; refine (HVC.out _ h1).mono ?_; rintro e w' ⟨rfl, hd⟩) | (go_at_call 50; refine (HCC.out _ _ _ _ _ h2).mono ?_; rintro e w' ⟨rfl, rfl⟩))
      go_ret2
      exact ⟨ret_pur E.out.2.symm E.out.1.symm, hd.below⟩
    · have hne : ((ps.length : Int) != (cs.length : Int)) = false := by simp; omega
      have bb := inR_true h2
      obtain ⟨n, rfl⟩ : ∃ n : Nat, a = n := ⟨a.toNat, by omega⟩
      have H3 := Lib.hid h3
      have HV := Lib.hid hv
      have HU := Lib.hid hu
      have l15 := vc_len h1
      have HPN : Hid (∀ i, i < ps.length → inR (ps.getD i 0) 0 6 = false → okPur cs ps (n : Int) = false ∧ purV cs ps (n : Int) = 0) := fun i hi h => HNO.out (by unfold cPur; rw [vPurse_no hi h, Bool.and_false])
      have HPY : Hid ((∀ i, i < ps.length → inR (ps.getD i 0) 0 6 = true) → cPur cs ps (n : Int) = true ∧ vPurse ps = true) := fun h => by
        have h4 := vPurse_yes h
        refine ⟨?_, h4⟩
        unfold cPur
        rw [h1, h2, h4, decide_eq_true H3.out]; rfl
      have HFF := Lib.hid (fun (w : World) (hv : IsInts w _ cs) (hu : IsInts w _ ps) (h4 : vPurse ps = true) => fromFrom_spec (.slice b1 cs.length cap1) (.slice b2 ps.length cap2) cs ps w hv hu h1 h3 h4 cs.length n ((cs.length : Int) - 1) (Nat.le_refl _) rfl (by omega))
      have H1 := Lib.hid h1
      have H2 := Lib.hid h2
      clear h3 hv hu h1 h2 bb
      go_enter Try.func40, Try.ntmps40
      go_wp2_with (first | (go_at_call 45; refine (HVC.out _ H1.out).mono ?_; rintro e w1 ⟨rfl, hd⟩) | (go_at_call 50; refine (HCC.out _ _ _ _ _ H2.out).mono ?_; rintro e w' ⟨rfl, rfl⟩))
      have hb1 : Below w.heap.size w w1 := hd.below
      have hv1 := HV.out.below hb1
      have hu1 := HU.out.below hb1
      clear hd HVC
      go_loop [8] (fun iv => ∃ i : Nat, i ≤ ps.length ∧ iv = .int .i64 i ∧ (∀ j, j < i → inR (ps.getD j 0) 0 6 = true)) (fun iv => ps.length - (intOf iv).toNat)
      case atStart => exact ⟨0, Nat.zero_le _, rfl, fun j hj => by omega⟩
      case round =>
        obtain ⟨i, hi, rfl, hok⟩ := hrel
        have HOK := Lib.hid hok
        clear hok
        by_cases hlt : i < ps.length
        · have i1 : (i : Int) < (ps.length : Int) := by omega
          obtain ⟨_, _, e2, hcu⟩ := id hu1
          simp only [Value.slice.injEq, true_and] at e2
          obtain ⟨rfl, rfl⟩ := e2
          obtain ⟨b, off, rfl, ci⟩ := hcu i hlt
          have HPNi := Lib.hid (HPN.out i hlt)
          have HR : Hid (inR (ps.getD i 0) 0 6 = true → ∀ j, j < i + 1 → inR (ps.getD j 0) 0 6 = true) := fun h j hj => by
            by_cases e : j = i
            · rw [e]; exact h
            · exact HOK.out j (by omega)
          clear hcu HOK HPN HPY
          generalize ps.getD i 0 = x at *
          cases h6 : inR x 0 6
          · have E := Lib.hid (HPNi.out h6)
            go_wp2_with (go_at_call 50; (with_reducible refine (HCC.out x _ _ _ _ h6).mono ?_); rintro e w' ⟨rfl, rfl⟩)
            go_ret2
            exact ⟨ret_pur E.out.2.symm E.out.1.symm, hb1⟩
          · have HR2 := Lib.hid (HR.out h6)
            go_wp2_with (go_at_call 50; (with_reducible refine (HCC.out x _ _ _ _ h6).mono ?_); rintro e w' ⟨rfl, rfl⟩)
            go_round
            case rel => exact ⟨i + 1, by omega, by go_num, HR2.out⟩
            case measure => simp [intOf]; omega
        · obtain ⟨e1, e2⟩ := HPY.out (fun j hj => HOK.out j (by omega))
          have hF := HFF.out _ hv1 hu1 e2
          have hfb := fp_bounds e1
          have HE : Hid (okPur cs ps (n : Int) = decide (0 ≤ fpR (prs cs ps) (n : Int)) ∧ purV cs ps (n : Int) = max (fpR (prs cs ps) (n : Int)) 0) := by
            have h5 : okPur cs ps (n : Int) = decide (0 ≤ fpR (prs cs ps) (n : Int)) := by unfold okPur; rw [e1]; rfl
            refine ⟨h5, ?_⟩
            unfold purV
            rw [h5]
            by_cases h : 0 ≤ fpR (prs cs ps) (n : Int)
            · rw [decide_eq_true h, if_pos rfl]; omega
            · rw [decide_eq_false h, if_neg (by simp)]; omega
          rw [List.take_length, show ps.take cs.length = ps by rw [← H3.out, List.take_length]] at hF
          have HF := Lib.hid hF
          have n1 : (i : Int) ≤ (ps.length : Int) := by omega
          have n2 : ¬ (i : Int) < (ps.length : Int) := by omega
          clear hF e1 e2 HFF HPY HPN HOK
          generalize fpR (prs cs ps) (n : Int) = r at *
          by_cases h : 0 ≤ r
          · have e1 : Hid (purV cs ps (n : Int) = r) := by show _ = _; rw [HE.out.2]; omega
            have e2 : Hid (okPur cs ps (n : Int) = true) := by show _ = _; rw [HE.out.1]; exact decide_eq_true h
            clear HE
            go_wp2_with (go_at_call 66; (with_reducible refine HF.out.mono ?_); rintro e w' ⟨rfl, rfl⟩)
            all_goals
              go_ret2
              exact ⟨ret_pur (by first | exact e1.out.symm | (rw [e1.out]; omega)) (by first | exact e2.out.symm | (rw [e2.out]; exact decide_eq_true (by omega))), hb1⟩
          · have e1 : Hid (purV cs ps (n : Int) = 0) := by show _ = _; rw [HE.out.2]; omega
            have e2 : Hid (okPur cs ps (n : Int) = false) := by show _ = _; rw [HE.out.1]; exact decide_eq_false h
            clear HE
            go_wp2_with (go_at_call 66; (with_reducible refine HF.out.mono ?_); rintro e w' ⟨rfl, rfl⟩)
            all_goals
              go_ret2
              exact ⟨ret_pur (by first | exact e1.out.symm | (rw [e1.out]; omega)) (by first | exact e2.out.symm | (rw [e2.out]; exact decide_eq_false (by omega))), hb1⟩
  · have E := Lib.hid (HNO.out (by unfold cPur; rw [decide_eq_false h3]; simp))
    have hne : ((ps.length : Int) != (cs.length : Int)) = true := by simp; omega
    clear h3
    go_enter Try.func40, Try.ntmps40
    go_wp2_with (go_at_call 45; refine (HVC.out _ h1).mono ?_; rintro e w' ⟨rfl, hd⟩)
    go_ret2
    exact ⟨ret_pur E.out.2.symm E.out.1.symm, hd.below⟩

end Go.Proofs.Ytbkndncdhombeaa
