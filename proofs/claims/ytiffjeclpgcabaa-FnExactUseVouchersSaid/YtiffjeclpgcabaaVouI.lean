/- UseVouchers, in the program. -/
import Derived.Test.YtiffjeclpgcabaaVouS
import Derived.Test.YtiffjeclpgcabaaOnes
import Derived.Test.YtiffjeclpgcabaaAir
namespace Go.Proofs.Ytiffjeclpgcabaa
open Go.RowKit

theorem shr_bit_fin : ∀ s : Fin 256, ∀ i : Fin 8, bits .and .i64 ((s.val : Int) / 2 ^ i.val) 1 = ((bitN s.val i.val : Nat) : Int) := by decide +kernel

set_option maxRecDepth 100000 in
set_option maxHeartbeats 3200000 in
theorem sumOfSet_impl (v : Value) (xs : List Int) (s : Nat) (w : World) (hv : IsInts w v xs) (h1 : vListB 1 200 8 xs = true) (hs : s < 256) :
    Calls Try.prog 76 #[v, .int .i64 s] w fun e w' => e = .returned (.int .i64 (sumV xs s xs.length)) ∧ Below w.heap.size w w' := by
  obtain ⟨hx, hl8⟩ := vListB_iff.1 h1
  have HSB : Hid (∀ k, k ≤ xs.length → 0 ≤ sumV xs s k ∧ sumV xs s k ≤ 200 * k) := fun k hk => sumV_bd h1 s k hk
  have HX := Lib.hid hx
  obtain ⟨a, cap, rfl, hc⟩ := hv
  clear hx h1
  go_enter Try.func76, Try.ntmps76
  go_wp2
  go_loopw [5, 10] (fun tv iv wx => ∃ i : Nat, i ≤ xs.length ∧ iv = .int .i64 i ∧ tv = .int .i64 (sumV xs s i) ∧ Below w.heap.size w wx) (fun _ iv _ => xs.length - (intOf iv).toNat)
  case atStart => exact ⟨0, Nat.zero_le _, rfl, rfl, Below.refl _ _⟩
  case round =>
    obtain ⟨i, hi, rfl, rfl, hbx⟩ := hrel
    rename World => wx
    by_cases hil : i < xs.length
    · obtain ⟨bb, off, rfl, c0⟩ := hc i hil
      have hcell := (hbx.cell (by exact World.block_lt_of_cell? w _ c0)).trans c0
      have i1 : (i : Int) < (xs.length : Int) := by omega
      have hz := HX.out (xs.getD i 0) (by rw [getD_is hil]; exact List.getElem_mem _)
      have hs0 := HSB.out i (by omega)
      have HS1 : Hid (sumV xs s (i + 1) = sumV xs s i + (if bitN s i = 1 then xs.getD i 0 else 0)) := rfl
      have hbt := shr_bit_fin ⟨s, hs⟩ ⟨i, by omega⟩
      simp only at hbt
      clear hc c0
      generalize xs.getD i 0 = z at *
      generalize sumV xs s i = t at *
      rcases bit8_01 s i with hb | hb
      · rw [hb] at HS1 hbt
        go_wp2
        go_roundw
        case rel => exact ⟨i + 1, by omega, by go_num, by rw [HS1.out]; simp, hbx⟩
        case measure => simp [intOf]; omega
      · rw [hb] at HS1 hbt
        go_wp2
        go_roundw
        case rel => exact ⟨i + 1, by omega, by go_num, by rw [HS1.out]; simp, hbx⟩
        case measure => simp [intOf]; omega
    · obtain rfl : i = xs.length := by omega
      go_wp2
      go_ret
      exact ⟨rfl, hbx⟩

theorem cntV_more (s n : Nat) (hs : s < 2 ^ n) : ∀ k, n ≤ k → cntV s k = cntV s n := by
  intro k hk
  induction hk with
  | refl => rfl
  | step h ih =>
    rename_i m
    have hm : bitN s m = 0 := by
      unfold bitN
      have h2 : 2 ^ n ≤ 2 ^ m := Nat.pow_le_pow_right (by decide) h
      rw [Nat.div_eq_of_lt (by omega)]
    rw [Nat.succ_eq_add_one, cntV, ih, hm]
    simp

theorem shl_one_fin : ∀ n : Fin 9, wrap64 (2 ^ n.val) = ((2 ^ n.val : Nat) : Int) := by decide +kernel

set_option maxRecDepth 100000 in
set_option maxHeartbeats 6400000 in
theorem UseVouchers_impl (v : Value) (xs : List Int) (p : Int) (w : World) (hv : IsInts w v xs) (hl : xs.length ≤ 9223372036854775807) :
    Calls Try.prog 40 #[v, .int .i64 p] w fun e w' => e = .returned (.tuple #[.int .i64 (vouV p xs).1, .int .i64 (vouV p xs).2]) ∧ Below w.heap.size w w' := by
  have HAR := Lib.hid (allInRange_impl v xs 1 200 w hv hl)
  have HNO : Hid ((vListB 1 200 8 xs && inR p 0 100000) = false → (vouV p xs).1 = -1 ∧ (vouV p xs).2 = -1) := fun h => by unfold vouV; rw [h]; exact ⟨rfl, rfl⟩
  have HV := Lib.hid hv
  obtain ⟨a, cap, rfl, _⟩ := hv
  by_cases h1 : (8 : Int) < (xs.length : Int)
  · have E := Lib.hid (HNO.out (by rw [vListB, decide_eq_false (by omega), Bool.and_false, Bool.false_and]))
    go_enter Try.func40, Try.ntmps40
    go_wp2
    go_ret2
    exact ⟨ret_twoV E.out.1.symm E.out.2.symm, Below.refl _ _⟩
  cases h2 : allR xs 1 200
  · have E := Lib.hid (HNO.out (by rw [vListB, show allQ xs 1 200 = allR xs 1 200 from rfl, h2]; rfl))
    have h := HAR.out
    rw [h2] at h
    have HA2 := Lib.hid h
    clear h
    go_enter Try.func40, Try.ntmps40
    go_wp2_with (go_at_call 73; refine HA2.out.mono ?_; rintro e w' ⟨rfl, rfl⟩)
    go_ret2
    exact ⟨ret_twoV E.out.1.symm E.out.2.symm, Below.refl _ _⟩
  have hvl : vListB 1 200 8 xs = true := by rw [vListB, show allQ xs 1 200 = allR xs 1 200 from rfl, h2, decide_eq_true (by omega)]; rfl
  have h := HAR.out
  rw [h2] at h
  have HA2 := Lib.hid h
  clear h h2
  cases h3 : inR p 0 100000
  · have E := Lib.hid (HNO.out (by rw [hvl, h3]; rfl))
    go_enter Try.func40, Try.ntmps40
    go_wp2_with (first | (go_at_call 73; refine HA2.out.mono ?_; rintro e w' ⟨rfl, rfl⟩) | (go_at_call 58; refine (inRange_impl _ _ _ _).mono ?_; rintro e w' ⟨rfl, rfl⟩))
    go_ret2
    exact ⟨ret_twoV E.out.1.symm E.out.2.symm, Below.refl _ _⟩
  have E : Hid (vouV p xs = (((vouK xs p (2 ^ xs.length)).1 : Int), (vouK xs p (2 ^ xs.length)).2)) := by show _ = _; unfold vouV; rw [hvl, h3]; rfl
  have hp := inR_true h3
  have hl8 : xs.length ≤ 8 := by omega
  have hpw := pow_le8 hl8
  have hshl := shl_one_fin ⟨xs.length, by omega⟩
  simp only at hshl
  have HVB : Hid (∀ k, 0 ≤ (vouK xs p k).2 ∧ (vouK xs p k).2 ≤ 1600 ∧ cntV (vouK xs p k).1 xs.length ≤ 8) := fun k => vou_bd hvl hp.1 k
  have HVL : Hid (∀ k, k ≤ 2 ^ xs.length → (vouK xs p k).1 < 2 ^ xs.length) := fun k hk => by
    rcases (vouK_facts (xs := xs) hp.1 k).2.2.1 with h | h
    · rw [h]; exact hpw.1
    · omega
  have HSB : Hid (∀ s, 0 ≤ sumV xs s xs.length ∧ sumV xs s xs.length ≤ 200 * xs.length) := fun s => sumV_bd hvl s xs.length (Nat.le_refl _)
  have HSO : Hid (∀ (s : Nat) (wx : World), s < 256 → Below w.heap.size w wx → Calls Try.prog 76 #[.slice a xs.length cap, .int .i64 s] wx fun e w' => e = .returned (.int .i64 (sumV xs s xs.length)) ∧ Below wx.heap.size wx w') := fun s wx hs hb => sumOfSet_impl _ xs s wx (HV.out.below hb) hvl hs
  have HCN : Hid (∀ s, s < 2 ^ xs.length → cntV s 8 = cntV s xs.length) := fun s hs => cntV_more s xs.length hs 8 hl8
  clear HNO hvl
  generalize hq : 2 ^ xs.length = q at *
  go_enter Try.func40, Try.ntmps40
  go_wp2_with (first | (go_at_call 73; refine HA2.out.mono ?_; rintro e w' ⟨rfl, rfl⟩) | (go_at_call 58; refine (inRange_impl _ _ _ _).mono ?_; rintro e w' ⟨rfl, rfl⟩))
  rw [hshl]
  go_loopw [6, 7, 26] (fun bv mv sv wr => ∃ k : Nat, k ≤ q ∧ sv = .int .i64 k ∧ bv = .int .i64 ((vouK xs p k).1 : Nat) ∧ mv = .int .i64 (vouK xs p k).2 ∧ Below w.heap.size w wr) (fun _ _ sv _ => q - (intOf sv).toNat)
  case atStart => exact ⟨0, Nat.zero_le _, rfl, rfl, rfl, Below.refl _ _⟩
  case round =>
    obtain ⟨k, hk, rfl, rfl, rfl, hbl⟩ := hrel
    rename World => wr
    have hvb := HVB.out k
    by_cases hlt : k < q
    · have HST : Hid (sumV xs k xs.length ≤ p ∧ ((vouK xs p k).2 < sumV xs k xs.length ∨ sumV xs k xs.length = (vouK xs p k).2 ∧ cntV k xs.length < cntV (vouK xs p k).1 xs.length) → vouK xs p (k + 1) = (k, sumV xs k xs.length)) := fun h => vou_yes h.1 h.2
      have HSN : Hid (¬ (sumV xs k xs.length ≤ p ∧ ((vouK xs p k).2 < sumV xs k xs.length ∨ sumV xs k xs.length = (vouK xs p k).2 ∧ cntV k xs.length < cntV (vouK xs p k).1 xs.length)) → vouK xs p (k + 1) = vouK xs p k) := fun h => vou_no h
      have hlt2 : (k : Int) < (q : Int) := by omega
      have hbl2 := HVL.out k hk
      have Z1 := Lib.hid (fun wx => sizeOf_impl k wx (by omega))
      have Z2 := Lib.hid (fun wx => sizeOf_impl (vouK xs p k).1 wx (by omega))
      rw [HCN.out k hlt] at Z1
      rw [HCN.out _ hbl2] at Z2
      have HS := Lib.hid (HSO.out k wr (by omega) hbl)
      have hs0 := HSB.out k
      have c1 := cntV_le k xs.length
      generalize vouK xs p k = BM at *
      obtain ⟨b, m⟩ := BM
      simp only at hvb
      generalize cntV b xs.length = c at *
      generalize cntV k xs.length = n at *
      generalize sumV xs k xs.length = t at *
      clear HSO HVB HVL HSB HCN
      go_wp2_with fail
      refine HS.out.mono ?_
      rintro e w2 ⟨rfl, hb2⟩
      have hb3 : Below w.heap.size w w2 := hbl.trans (hb2.mono hbl.size)
      clear hb2
      by_cases d1 : p < t
      · have HF := Lib.hid (HSN.out (by omega))
        have dn : p < t ∨ t < m := .inl d1
        go_wp2
        go_roundw
        case rel => exact ⟨k + 1, by omega, by go_num, by rw [HF.out], by rw [HF.out], hb3⟩
        case measure => simp [intOf]; omega
      · by_cases d2 : t < m
        · have HF := Lib.hid (HSN.out (by omega))
          have dn : p < t ∨ t < m := .inr d2
          go_wp2
          go_roundw
          case rel => exact ⟨k + 1, by omega, by go_num, by rw [HF.out], by rw [HF.out], hb3⟩
          case measure => simp [intOf]; omega
        · by_cases d3 : m < t
          · have HF := Lib.hid (HST.out ⟨by omega, .inl d3⟩)
            have dn : ¬ (p < t ∨ t < m) := by omega
            have dm : m < t ∨ (n : Int) < (c : Int) := .inl d3
            go_wp2
            go_roundw
            case rel => exact ⟨k + 1, by omega, by go_num, by rw [HF.out], by rw [HF.out], hb3⟩
            case measure => simp [intOf]; omega
          · by_cases d4 : n < c
            · have HF := Lib.hid (HST.out ⟨by omega, .inr ⟨by omega, d4⟩⟩)
              have d4' : (n : Int) < (c : Int) := by omega
              have dn : ¬ (p < t ∨ t < m) := by omega
              have dm : m < t ∨ (n : Int) < (c : Int) := .inr d4'
              go_wp2_with (go_at_call 77; (first | (with_reducible refine (Z1.out _).mono ?_) | (with_reducible refine (Z2.out _).mono ?_)); rintro e w' ⟨rfl, rfl⟩)
              go_roundw
              case rel => exact ⟨k + 1, by omega, by go_num, by rw [HF.out], by rw [HF.out], hb3⟩
              case measure => simp [intOf]; omega
            · have HF := Lib.hid (HSN.out (by omega))
              have d4' : ¬ (n : Int) < (c : Int) := by omega
              have dn : ¬ (p < t ∨ t < m) := by omega
              have dm : ¬ (m < t ∨ (n : Int) < (c : Int)) := by omega
              go_wp2_with (go_at_call 77; (first | (with_reducible refine (Z1.out _).mono ?_) | (with_reducible refine (Z2.out _).mono ?_)); rintro e w' ⟨rfl, rfl⟩)
              go_roundw
              case rel => exact ⟨k + 1, by omega, by go_num, by rw [HF.out], by rw [HF.out], hb3⟩
              case measure => simp [intOf]; omega
    · have hkq : k = q := by omega
      have E2 : Hid (((vouK xs p k).1 : Int) = (vouV p xs).1 ∧ (vouK xs p k).2 = (vouV p xs).2) := by rw [E.out, hkq]; exact ⟨rfl, rfl⟩
      have hlt2 : ¬ (k : Int) < (q : Int) := by omega
      clear hkq
      go_wp2
      go_ret2
      exact ⟨ret_twoV E2.out.1 E2.out.2, hbl⟩

end Go.Proofs.Ytiffjeclpgcabaa
