/- IsGreedy, in the model. -/
import Derived.Test.YtbkndncdhombeaaSMs
import Derived.Test.YtbkndncdhombeaaCoinYs
import Derived.Test.YtbkndncdhombeaaCoinQ
namespace Go.Proofs.Ytbkndncdhombeaa
open Go.RowKit

set_option maxRecDepth 100000 in
set_option maxHeartbeats 3200000 in
theorem IsGreedy_spec (v : Value) (cs : List Int) (w : World) (hv : IsInts w v cs) (hl : cs.length ≤ 9223372036854775807) :
    Calls Try.prog 33 #[v] w fun e w' => e = .returned (.bool (isgV cs)) ∧ Below w.heap.size w w' := by
  have HVC := Lib.hid (fun r => validCoins_sat v cs r w hv hl)
  cases h1 : vCoins cs
  · have E : Hid (isgV cs = false) := by show _ = _; unfold isgV; rw [h1]; rfl
    go_enter Try.func33, Try.ntmps33
    go_wp2_with (go_at_call 45; refine (HVC.out _ h1).mono ?_; rintro e w' ⟨rfl, hd⟩)
    go_ret
    exact ⟨ret_bool E.out.symm, hd.below⟩
  obtain ⟨l1, l5⟩ := vc_len h1
  obtain ⟨b, off, cap, rfl, hbw, hc⟩ := id (hv.at0 l1)
  have c0 := hc 0 (by omega)
  have l0 : (0 : Int) < (cs.length : Int) := by omega
  rw [Nat.add_zero] at c0
  have HC1 : Hid (∀ w1, Drawn w w1 → w1.cell? ⟨b, off, none⟩ = some (.int .i64 (cs.getD 0 0))) := fun w1 hd => (hd.cell _).trans c0
  have HC2 : Hid (∀ w1, Drawn w w1 → w1.cell? ⟨b, off + (cs.length - 1), none⟩ = some (.int .i64 (cs.getD (cs.length - 1) 0))) := fun w1 hd => (hd.cell _).trans (hc (cs.length - 1) (by omega))
  have hat := vc_at h1 (i := cs.length - 1) (by omega)
  have HE := Lib.hid (endV_le h1)
  have HV := Lib.hid hv
  have H1 := Lib.hid h1
  have HIS : Hid (∀ (t : Nat), cs.getD 0 0 = 1 → endV cs ≤ t → isgV cs = isgT cs t) := fun t h2 h3 => isgV_is h1 h2 h3
  have HIN : Hid (cs.getD 0 0 ≠ 1 → isgV cs = false) := fun h => by unfold isgV; rw [decide_eq_false h]; simp
  have HFS := Lib.hid (fun (n : Nat) (w : World) (hv : IsInts w (.slice (some ⟨b, off, none⟩) cs.length cap) cs) (hn : n ≤ 1020) => fewest_spec _ cs n w hv h1 hn)
  have HG := Lib.hid (fun (a : Nat) (w : World) (hv : IsInts w (.slice (some ⟨b, off, none⟩) cs.length cap) cs) (ha : a ≤ 2000) => greedy_spec _ cs a w hv h1 ha)
  have HSF := Lib.hid (fun (x : Nat) (hx : x ≤ 2000) => grL_fits h1 hx)
  obtain ⟨m, hm⟩ : ∃ m : Nat, cs.getD (cs.length - 1) 0 = m := ⟨(cs.getD (cs.length - 1) 0).toNat, by omega⟩
  rw [hm] at HC2 HE hat
  have n1 : (1 : Int) ≤ (cs.length : Int) := by omega
  have n2 : (cs.length : Int) - 1 < (cs.length : Int) := by omega
  have n3 : ((cs.length : Int) - 1).toNat = cs.length - 1 := by omega
  clear hc h1 hv c0 hm
  generalize cs.getD 0 0 = x at *
  by_cases hx : x = 1
  · have hxb : (x != 1) = false := by simp [hx]
    have E2 : Hid (((2 * m : Nat) : Int) = 2 * (m : Int)) := by show _ = _; omega
    go_enter Try.func33, Try.ntmps33
    go_wp2_with (first | (go_at_call 45; refine (HVC.out _ H1.out).mono ?_; rintro e w1 ⟨rfl, hd⟩; have d0 := HC1.out _ hd; have d1 := HC2.out _ hd) | fail)
    have hb1 : Below w.heap.size w w1 := hd.below
    have hF := HFS.out (2 * m) w1 (HV.out.below hb1) (by omega)
    rw [E2.out] at hF
    refine hF.mono ?_
    rintro e w2 ⟨v2, rfl, hown, hbl⟩
    have hb2 : Below w.heap.size w w2 := hb1.trans (hbl.mono hb1.size)
    obtain ⟨gl, cl, rfl, hg0, hg1⟩ := own_sl hown (tabL_len _ _) (by omega)
    have hown2 := hown.base hb1.size
    clear hbl hF d0 d1 HC1 HC2 HVC hown hd
    go_wp2
    go_loopw [5] (fun xv wr => ∃ y : Nat, y ≤ 2 * m + 1 ∧ xv = .int .i64 y ∧ (∀ z : Nat, z < y → gsV cs z = fwV cs z) ∧ Own wr w.heap.size (sl gl (2 * m + 1) cl) (tabL (fwV cs) (2 * m)) ∧ Below w.heap.size w wr) (fun xv _ => 2 * m + 1 - (intOf xv).toNat)
    case atStart => exact ⟨0, by omega, rfl, fun z hz => by omega, hown2, hb2⟩
    case round =>
      clear hown2 hb1 hb2
      obtain ⟨y, hy, rfl, hall, hown, hbl⟩ := hrel
      rename World => wr
      have HA := Lib.hid hall
      clear hall
      by_cases hlt : y ≤ 2 * m
      · have y1 : (y : Int) ≤ 2 * (m : Int) := by omega
        have y2 : (y : Int) < 2 * (m : Int) + 1 := by omega
        have c1 := hown.cell (tabL_len _ _) y (by omega)
        rw [tabL_at _ hlt] at c1
        have hSF := HSF.out y (by omega)
        have HGD : ∀ W, Below w.heap.size w W → Calls Try.prog 52 #[.slice (some ⟨b, off, none⟩) cs.length cap, .int .i64 (y : Int)] W fun e w' => ∃ v', e = .returned v' ∧ Own w' W.heap.size v' (grL cs y) ∧ Below W.heap.size W w' := fun W hW => HG.out y W (HV.out.below hW) (by omega)
        have hln : (grL cs (y : Int)).length ≤ 9223372036854775807 := by rw [grL_len]; omega
        have HSM : ∀ (W : World) (B : Nat) (v4 : Value), Own W B v4 (grL cs (y : Int)) → Calls Try.prog 54 #[v4] W fun e w' => e = .returned (.int .i64 (gsV cs (y : Int))) ∧ W = w' := fun W B v4 h4 => sum_spec _ _ _ h4.ints hln hSF
        have HNEW : Hid (gsV cs (y : Int) = fwV cs (y : Int) → ∀ z : Nat, z < y + 1 → gsV cs z = fwV cs z) := fun he z hz => by
          by_cases e : z = y
          · rw [e]; exact he
          · exact HA.out z (by omega)
        have HFAIL : Hid (gsV cs (y : Int) ≠ fwV cs (y : Int) → isgV cs = false) := fun he => by
          rw [HIS.out (2 * m + 1) hx (by have := HE.out; omega)]
          exact isgT_false (by omega) he
        have hg2 : gl < wr.heap.size := World.block_lt_of_cell? wr _ c1
        have hbz := hbl.size
        have HBD := hbl.drew
        generalize grL cs (y : Int) = L at *
        generalize gsV cs (y : Int) = s at *
        generalize fwV cs (y : Int) = u at *
        have HGD2 := Lib.hid (HGD _ HBD)
        have HSM2 := Lib.hid HSM
        clear HGD HSM HA hSF hln
        have HO := Lib.hid hown
        have HB := Lib.hid hbl
        clear hown hbl HBD
        by_cases hsu : s = u
        · have hsb : (s != u) = false := by simp [hsu]
          have HN := Lib.hid (HNEW.out hsu)
          clear hsu HNEW HFAIL
          go_wp2
          go_region_held3 (fun w' => w'.cell? ⟨gl, y, none⟩ = some (.int .i64 u))
            (first | go_keep | (exact (b4.cell (by exact hg2)).trans (by assumption)))
            (first
              | ((with_reducible refine HGD2.out.mono ?_); rintro e w4 ⟨v4, rfl, o4, b4⟩)
              | ((with_reducible refine (HSM2.out _ _ _ o4).mono ?_); rintro e w5 ⟨rfl, rfl⟩))
          have hd0 := (Below.refl wr.heap.size wr).drew
          have o5 := (HO.out.below hd0).below b4
          have b5 : Below w.heap.size w w4 := HB.out.trans ((hd0.trans b4).mono hbz)
          clear b4 o4
          go_wp2
          go_roundw
          case rel => exact ⟨y + 1, by omega, by go_num, HN.out, o5, b5⟩
          case measure => simp [intOf]; omega
        · have hsb : (s != u) = true := by simp [hsu]
          have HF := Lib.hid (HFAIL.out hsu)
          clear hsu HNEW HFAIL
          go_wp2
          go_region_held3 (fun w' => w'.cell? ⟨gl, y, none⟩ = some (.int .i64 u))
            (first | go_keep | (exact (b4.cell (by exact hg2)).trans (by assumption)))
            (first
              | ((with_reducible refine HGD2.out.mono ?_); rintro e w4 ⟨v4, rfl, o4, b4⟩)
              | ((with_reducible refine (HSM2.out _ _ _ o4).mono ?_); rintro e w5 ⟨rfl, rfl⟩))
          have hd0 := (Below.refl wr.heap.size wr).drew
          have b5 : Below w.heap.size w w4 := HB.out.trans ((hd0.trans b4).mono hbz)
          clear b4 o4
          go_wp2
          go_ret
          exact ⟨ret_bool HF.out.symm, b5⟩
      · have y1 : ¬ (y : Int) ≤ 2 * (m : Int) := by omega
        have HF : Hid (isgV cs = true) := by
          show _ = _
          rw [HIS.out (2 * m + 1) hx (by have := HE.out; omega), isgT_iff]
          intro z hz
          exact HA.out z (by omega)
        go_wp2
        go_ret
        exact ⟨ret_bool HF.out.symm, hbl⟩
  · have hxb : (x != 1) = true := by simp [hx]
    have E := Lib.hid (HIN.out hx)
    go_enter Try.func33, Try.ntmps33
    go_wp2_with (go_at_call 45; refine (HVC.out _ H1.out).mono ?_; rintro e w' ⟨rfl, hd⟩; have d0 := HC1.out _ hd)
    go_ret
    exact ⟨ret_bool E.out.symm, hd.below⟩

end Go.Proofs.Ytbkndncdhombeaa
