/- IsGreedy, the program's contract. -/
import Derived.Test.YtbkndncdhombeaaGreIs
import Derived.Test.YtbkndncdhombeaaGreI
import Derived.Test.YtbkndncdhombeaaFewI
import Derived.Test.YtbkndncdhombeaaCoinQ
import Derived.Test.YtbkndncdhombeaaInts
namespace Go.Proofs.Ytbkndncdhombeaa
open Go.RowKit

theorem sumOf_coins {cs : List Int} (h : ∀ c ∈ cs, 0 ≤ c ∧ c ≤ 3000) (hl : cs.length ≤ 5) : SumFits cs := by
  refine sumFits_abs _ 3000 (fun c hc => ?_) (by omega) (by omega)
  have := h c hc
  omega

theorem isg_no1 {cs : List Int} (h : vCoins cs = false) : isgV cs = false := by unfold isgV; rw [h]; rfl
theorem isg_no2 {cs : List Int} (h : cs.getD 0 0 ≠ 1) : isgV cs = false := by unfold isgV; rw [decide_eq_false h]; simp

theorem IsInts.drop {w : World} {b off n cap : Nat} {cs : List Int} (hc : ∀ j, j < cs.length → w.cell? ⟨b, off + j, none⟩ = some (.int .i64 (cs.getD j 0))) (k : Nat) (hn : n = cs.length - k) : IsInts w (.slice (some ⟨b, off + k, none⟩) n cap) (cs.drop k) := by
  subst hn
  refine ⟨_, cap, by rw [List.length_drop], fun j hj => ⟨b, off + k, rfl, ?_⟩⟩
  rw [List.length_drop] at hj
  rw [Nat.add_assoc, hc (k + j) (by omega)]
  simp [List.getD, List.getElem?_drop]

set_option maxRecDepth 100000 in
set_option maxHeartbeats 3200000 in
theorem IsGreedy_impl (v : Value) (cs : List Int) (w : World) (hv : IsInts w v cs) (hcap : ∀ a n c, v = .slice a n c → n ≤ c) (hl : cs.length ≤ 9223372036854775807) :
    Calls Try.prog 31 #[v] w fun e w' => e = .returned (.bool (isgV cs)) ∧ Below w.heap.size w w' := by
  have HVC := Lib.hid (fun r => ValidCoins_iat v cs r w hv hl)
  cases h1 : vCoins cs
  · have E := Lib.hid (isg_no1 h1)
    go_enter Try.func31, Try.ntmps31
    go_wp2_with (go_at_call 16; refine (HVC.out _ h1).mono ?_; rintro e w' ⟨rfl, hd⟩)
    go_ret
    exact ⟨ret_bool E.out.symm, hd.below⟩
  obtain ⟨l1, l5⟩ := vc_len h1
  obtain ⟨b, off, cap, rfl, hbw, hc⟩ := id (hv.at0 l1)
  have hlc := hcap _ _ _ rfl
  have c0 := hc 0 (by omega)
  have l0 : (0 : Int) < (cs.length : Int) := by omega
  rw [Nat.add_zero] at c0
  have HC1 : Hid (∀ w1, Drawn w w1 → w1.cell? ⟨b, off, none⟩ = some (.int .i64 (cs.getD 0 0))) := fun w1 hd => (hd.cell _).trans c0
  have H1 := Lib.hid h1
  by_cases hx : cs.getD 0 0 = 1
  · have hp := vc_pos h1
    have hhd : cs.head? = some 1 := by rw [vc_head h1, hx]
    rw [hx] at HC1
    have hxb : ((1 : Int) != 1) = false := by decide
    have HV := Lib.hid hv
    have hcb := vc_30 h1
    have hdl : ∀ c ∈ cs.drop (cs.length - 2), 0 ≤ c ∧ c ≤ 3000 := fun c hc => by
      have h2 := List.mem_of_mem_drop hc
      have := hp c h2
      have := hcb c h2
      omega
    have he0 : 1 ≤ endV cs ∧ endV cs ≤ 61 := by
      have h3 := endV_le h1
      have h4 := vc_at h1 (i := cs.length - 1) (by omega)
      have h5 := sum_nonneg (cs.drop (cs.length - 2)) (fun c hc => (hdl c hc).1)
      refine ⟨?_, ?_⟩
      · unfold endV
        have h6 : cs.drop (cs.length - 2) = (cs.drop (cs.length - 2)).take ((cs.drop (cs.length - 2)).length - 1) ++ [cs.getD (cs.length - 1) 0] := by
          have h7 : cs.drop (cs.length - 2) ≠ [] := by
            intro h
            have := congrArg List.length h
            rw [List.length_drop] at this
            simp at this
            omega
          rw [← List.dropLast_eq_take]
          conv => lhs; rw [← List.dropLast_concat_getLast h7]
          congr 2
          rw [List.getLast_drop, List.getLast_eq_getElem]
          simp [List.getD, show cs.length - 1 < cs.length by omega]
        rw [h6, sum_snoc]
        have := sum_nonneg ((cs.drop (cs.length - 2)).take ((cs.drop (cs.length - 2)).length - 1)) (fun c hc => (hdl c (List.mem_of_mem_take hc)).1)
        omega
      · omega
    obtain ⟨E, hE⟩ : ∃ E : Nat, endV cs = E := ⟨(endV cs).toNat, by omega⟩
    rw [hE] at he0
    have HSUM : Hid (∀ (w1 : World) (n c : Nat), Drawn w w1 → n = cs.length - (cs.length - 2) → Calls Try.prog 53 #[.slice (some ⟨b, off + (cs.length - 2), none⟩) n c] w1 fun e w' => e = .returned (.int .i64 (E : Int)) ∧ w1 = w') := fun w1 n c hd hn => by
      have hi := IsInts.drop (w := w1) (b := b) (off := off) (cap := c) (cs := cs) (fun j hj => (hd.cell _).trans (hc j hj)) (cs.length - 2) hn
      have := sum_impl _ _ w1 hi (by rw [List.length_drop]; omega) (sumOf_coins hdl (by rw [List.length_drop]; omega))
      rw [show tot (cs.drop (cs.length - 2)) = endV cs from rfl, hE] at this
      exact this
    have HFT := Lib.hid (fun (w1 : World) (hv1 : IsInts w1 (.slice (some ⟨b, off, none⟩) cs.length cap) cs) => fewestUpTo_impl _ cs (E - 1) w1 hv1 h1 (by omega))
    have HGC := Lib.hid (fun (x : Nat) (w1 : World) (hv1 : IsInts w1 (.slice (some ⟨b, off, none⟩) cs.length cap) cs) => GreedyCoins_impl _ cs (x : Int) w1 hv1 (by omega))
    have HGL : Hid (∀ x : Nat, x < E → greL cs (x : Int) = grL cs (x : Int)) := fun x hx2 => by
      unfold greL cGre
      rw [h1, decide_eq_true hx, show inR (x : Int) 0 120 = true by unfold inR; exact decide_eq_true (by omega)]
      rfl
    have HSM : Hid (∀ (x : Nat), x < E → ∀ (W : World) (B : Nat) (v4 : Value), Own W B v4 (grL cs (x : Int)) → Calls Try.prog 53 #[v4] W fun e w' => e = .returned (.int .i64 (gsV cs (x : Int))) ∧ W = w') := fun x hx2 W B v4 h4 => sum_impl _ _ W h4.ints (by rw [grL_len]; omega) (grL_fits h1 (by omega))
    have HIS : Hid (isgV cs = isgT cs E) := isgV_is h1 hx (by omega)
    have HFU : Hid (∀ x : Nat, x < E → fuV cs (x : Int) = fwV cs (x : Int)) := fun x _ => by
      have := (gs_ge hp hhd (x := (x : Int)) (by omega)).1
      unfold fuV
      rw [if_neg (by omega)]
    have HE1 : Hid (((E - 1 : Nat) : Int) = (E : Int) - 1) := by show _ = _; omega
    have hE1 : E - 1 + 1 = E := by omega
    clear hc hv h1 c0 hx hp hhd hcb hdl hE
    have low0 : cs.length - 2 < cap := by omega
    have low1 : ¬ cs.length - 2 = cap := by omega
    have low2 : ¬ cap = cs.length - 2 := by omega
    have c1 : 0 < cap := by omega
    have HFT2 : Hid (∀ (w1 : World), IsInts w1 (.slice (some ⟨b, off, none⟩) cs.length cap) cs → Calls Try.prog 48 #[.slice (some ⟨b, off, none⟩) cs.length cap, .int .i64 ((E : Int) - 1)] w1 fun e w' => ∃ g cap, e = .returned (sl g E cap) ∧ w1.heap.size ≤ g ∧ Own w' w1.heap.size (sl g E cap) (tabL (fuV cs) (E - 1)) ∧ Below w1.heap.size w1 w') := fun w1 hv1 => by
      have := HFT.out w1 hv1
      rw [HE1.out, hE1] at this
      exact this
    have HLOOP : True := trivial
    by_cases h2 : cs.length ≤ 2
    · have m1 : (cs.length : Int) - 2 ≤ 0 := by omega
      have m4 : cs.length - 2 = 0 := by omega
      rw [m4] at HSUM
      have HSUM2 : Hid (∀ (w1 : World) (n c : Nat), Drawn w w1 → n = cs.length → Calls Try.prog 53 #[.slice (some ⟨b, off, none⟩) n c] w1 fun e w' => e = .returned (.int .i64 (E : Int)) ∧ w1 = w') := fun w1 n c h1 h2 => HSUM.out w1 n c h1 (by omega)
      clear HSUM
      go_enter Try.func31, Try.ntmps31
      go_wp2_with (first | (go_at_call 16; refine (HVC.out _ H1.out).mono ?_; rintro e w1 ⟨rfl, hd⟩; have d0 := HC1.out _ hd) | fail)
      refine (HSUM2.out w1 _ _ hd rfl).mono ?_
      rintro e w1b ⟨rfl, rfl⟩
      go_wp2_with fail
      have hb1 : Below w.heap.size w w1 := hd.below
      refine (HFT2.out w1 (HV.out.below hb1)).mono ?_
      rintro e w2 ⟨g, cap2, rfl, hg, hown, hbl⟩
      have hb2 : Below w.heap.size w w2 := hb1.trans (hbl.mono hb1.size)
      have hown2 := hown.base hb1.size
      clear hown hbl hb1 hd d0 HVC HC1 HFT2 HFT
      go_wp2
      go_loopw [4, 5, 27] (fun _ _ iv wr => ∃ i : Nat, i ≤ E ∧ iv = .int .i64 i ∧ (∀ z : Nat, z < i → gsV cs z = fwV cs z) ∧ Own wr w.heap.size (sl g E cap2) (tabL (fuV cs) (E - 1)) ∧ Below w.heap.size w wr) (fun _ _ iv _ => E - (intOf iv).toNat)
      case atStart => exact ⟨0, Nat.zero_le _, rfl, fun z hz => by omega, hown2, hb2⟩
      case round =>
        clear hown2 hb2
        obtain ⟨i, hi, rfl, hall, hown, hbl⟩ := hrel
        rename World => wr
        have HA := Lib.hid hall
        clear hall
        by_cases hlt : i < E
        · have i1 : (i : Int) < (E : Int) := by omega
          have ci := hown.cell (by rw [tabL_len]; omega) i hlt
          rw [tabL_at _ (by omega), HFU.out i hlt] at ci
          have hG := HGC.out i wr (HV.out.below hbl)
          rw [HGL.out i hlt] at hG
          have hS := HSM.out i hlt
          have HNEW : Hid (gsV cs (i : Int) = fwV cs (i : Int) → ∀ z : Nat, z < i + 1 → gsV cs z = fwV cs z) := fun he z hz => by
            by_cases e : z = i
            · rw [e]; exact he
            · exact HA.out z (by omega)
          have HFAIL : Hid (gsV cs (i : Int) ≠ fwV cs (i : Int) → isgV cs = false) := fun he => by
            rw [HIS.out]
            exact isgT_false hlt he
          have hbz := hbl.size
          generalize grL cs (i : Int) = L at *
          generalize gsV cs (i : Int) = s at *
          generalize fwV cs (i : Int) = u at *
          have HG2 := Lib.hid hG
          have HS2 := Lib.hid hS
          have HO := Lib.hid hown
          clear hG hS HA hown
          by_cases hsu : s = u
          · have hsb : (s != u) = false := by simp [hsu]
            have HN := Lib.hid (HNEW.out hsu)
            clear hsu HNEW HFAIL
            go_wp2_with (first
              | (go_at_call 29; (with_reducible refine HG2.out.mono ?_); rintro e w4 ⟨v4, rfl, o4, b4⟩)
              | (go_at_call 53; (with_reducible refine (HS2.out _ _ _ o4).mono ?_); rintro e w5 ⟨rfl, rfl⟩))
            have o5 := HO.out.below b4
            have b5 : Below w.heap.size w w4 := hbl.trans (b4.mono hbz)
            clear b4 o4
            go_wp2
            go_roundw
            case rel => exact ⟨i + 1, by omega, by go_num, HN.out, o5, b5⟩
            case measure => simp [intOf]; omega
          · have hsb : (s != u) = true := by simp [hsu]
            have HF := Lib.hid (HFAIL.out hsu)
            clear hsu HNEW HFAIL
            go_wp2_with (first
              | (go_at_call 29; (with_reducible refine HG2.out.mono ?_); rintro e w4 ⟨v4, rfl, o4, b4⟩)
              | (go_at_call 53; (with_reducible refine (HS2.out _ _ _ o4).mono ?_); rintro e w5 ⟨rfl, rfl⟩))
            have b5 : Below w.heap.size w w4 := hbl.trans (b4.mono hbz)
            clear b4 o4
            go_wp2
            go_ret
            exact ⟨ret_bool HF.out.symm, b5⟩
        · have HF : Hid (isgV cs = true) := by
            show _ = _
            rw [HIS.out, isgT_iff]
            intro z hz
            exact HA.out z (by omega)
          go_wp2
          go_ret
          exact ⟨ret_bool HF.out.symm, hbl⟩
    · have m1 : (0 : Int) < (cs.length : Int) - 2 := by omega
      have m2 : (cs.length : Int) - 2 ≤ (cs.length : Int) := by omega
      have m3 : ((cs.length : Int) - 2).toNat = cs.length - 2 := by omega
      have m5 : ¬ (cs.length : Int) - 2 ≤ 0 := by omega
      go_enter Try.func31, Try.ntmps31
      go_wp2_with (first | (go_at_call 16; refine (HVC.out _ H1.out).mono ?_; rintro e w1 ⟨rfl, hd⟩; have d0 := HC1.out _ hd) | fail)
      refine (HSUM.out w1 _ _ hd rfl).mono ?_
      rintro e w1b ⟨rfl, rfl⟩
      go_wp2_with fail
      have hb1 : Below w.heap.size w w1 := hd.below
      refine (HFT2.out w1 (HV.out.below hb1)).mono ?_
      rintro e w2 ⟨g, cap2, rfl, hg, hown, hbl⟩
      have hb2 : Below w.heap.size w w2 := hb1.trans (hbl.mono hb1.size)
      have hown2 := hown.base hb1.size
      clear hown hbl hb1 hd d0 HVC HC1 HFT2 HFT
      go_wp2
      go_loopw [4, 5, 27] (fun _ _ iv wr => ∃ i : Nat, i ≤ E ∧ iv = .int .i64 i ∧ (∀ z : Nat, z < i → gsV cs z = fwV cs z) ∧ Own wr w.heap.size (sl g E cap2) (tabL (fuV cs) (E - 1)) ∧ Below w.heap.size w wr) (fun _ _ iv _ => E - (intOf iv).toNat)
      case atStart => exact ⟨0, Nat.zero_le _, rfl, fun z hz => by omega, hown2, hb2⟩
      case round =>
        clear hown2 hb2
        obtain ⟨i, hi, rfl, hall, hown, hbl⟩ := hrel
        rename World => wr
        have HA := Lib.hid hall
        clear hall
        by_cases hlt : i < E
        · have i1 : (i : Int) < (E : Int) := by omega
          have ci := hown.cell (by rw [tabL_len]; omega) i hlt
          rw [tabL_at _ (by omega), HFU.out i hlt] at ci
          have hG := HGC.out i wr (HV.out.below hbl)
          rw [HGL.out i hlt] at hG
          have hS := HSM.out i hlt
          have HNEW : Hid (gsV cs (i : Int) = fwV cs (i : Int) → ∀ z : Nat, z < i + 1 → gsV cs z = fwV cs z) := fun he z hz => by
            by_cases e : z = i
            · rw [e]; exact he
            · exact HA.out z (by omega)
          have HFAIL : Hid (gsV cs (i : Int) ≠ fwV cs (i : Int) → isgV cs = false) := fun he => by
            rw [HIS.out]
            exact isgT_false hlt he
          have hbz := hbl.size
          generalize grL cs (i : Int) = L at *
          generalize gsV cs (i : Int) = s at *
          generalize fwV cs (i : Int) = u at *
          have HG2 := Lib.hid hG
          have HS2 := Lib.hid hS
          have HO := Lib.hid hown
          clear hG hS HA hown
          by_cases hsu : s = u
          · have hsb : (s != u) = false := by simp [hsu]
            have HN := Lib.hid (HNEW.out hsu)
            clear hsu HNEW HFAIL
            go_wp2_with (first
              | (go_at_call 29; (with_reducible refine HG2.out.mono ?_); rintro e w4 ⟨v4, rfl, o4, b4⟩)
              | (go_at_call 53; (with_reducible refine (HS2.out _ _ _ o4).mono ?_); rintro e w5 ⟨rfl, rfl⟩))
            have o5 := HO.out.below b4
            have b5 : Below w.heap.size w w4 := hbl.trans (b4.mono hbz)
            clear b4 o4
            go_wp2
            go_roundw
            case rel => exact ⟨i + 1, by omega, by go_num, HN.out, o5, b5⟩
            case measure => simp [intOf]; omega
          · have hsb : (s != u) = true := by simp [hsu]
            have HF := Lib.hid (HFAIL.out hsu)
            clear hsu HNEW HFAIL
            go_wp2_with (first
              | (go_at_call 29; (with_reducible refine HG2.out.mono ?_); rintro e w4 ⟨v4, rfl, o4, b4⟩)
              | (go_at_call 53; (with_reducible refine (HS2.out _ _ _ o4).mono ?_); rintro e w5 ⟨rfl, rfl⟩))
            have b5 : Below w.heap.size w w4 := hbl.trans (b4.mono hbz)
            clear b4 o4
            go_wp2
            go_ret
            exact ⟨ret_bool HF.out.symm, b5⟩
        · have HF : Hid (isgV cs = true) := by
            show _ = _
            rw [HIS.out, isgT_iff]
            intro z hz
            exact HA.out z (by omega)
          go_wp2
          go_ret
          exact ⟨ret_bool HF.out.symm, hbl⟩
  · have hxb : (cs.getD 0 0 != 1) = true := by simp only [bne_iff_ne, ne_eq]; exact hx
    have E := Lib.hid (isg_no2 hx)
    clear hx c0 hc hv h1
    generalize cs.getD 0 0 = x at *
    go_enter Try.func31, Try.ntmps31
    go_wp2_with (go_at_call 16; refine (HVC.out _ H1.out).mono ?_; rintro e w' ⟨rfl, hd⟩; have d0 := HC1.out _ hd)
    go_ret
    exact ⟨ret_bool E.out.symm, hd.below⟩

theorem own_cap {w : World} {B : Nat} {v : Value} {xs : List Int} (h : Own w B v xs) : ∀ a n c, v = .slice a n c → n ≤ c := by
  rintro a n c rfl
  rcases h.2 with ⟨h0, _⟩ | ⟨g, c', cur, hv, _, _, hl, _⟩
  · simp only [Value.slice.injEq] at h0
    omega
  · simp only [Value.slice.injEq] at hv
    omega

end Go.Proofs.Ytbkndncdhombeaa
