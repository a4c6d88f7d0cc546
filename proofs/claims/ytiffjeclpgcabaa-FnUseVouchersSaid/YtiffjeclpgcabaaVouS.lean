/- UseVouchers, in the model. -/
import Derived.Test.YtiffjeclpgcabaaVouM
namespace Go.Proofs.Ytiffjeclpgcabaa
open Go.RowKit

theorem vou_yes {xs : List Int} {p : Int} {k : Nat} (h1 : sumV xs k xs.length ≤ p) (h2 : (vouK xs p k).2 < sumV xs k xs.length ∨ sumV xs k xs.length = (vouK xs p k).2 ∧ cntV k xs.length < cntV (vouK xs p k).1 xs.length) : vouK xs p (k + 1) = (k, sumV xs k xs.length) := by
  rw [vouK, if_pos ⟨h1, h2⟩]
theorem vou_no {xs : List Int} {p : Int} {k : Nat} (h : ¬ (sumV xs k xs.length ≤ p ∧ ((vouK xs p k).2 < sumV xs k xs.length ∨ sumV xs k xs.length = (vouK xs p k).2 ∧ cntV k xs.length < cntV (vouK xs p k).1 xs.length))) : vouK xs p (k + 1) = vouK xs p k := by
  rw [vouK, if_neg h]

theorem vou_bd {xs : List Int} (h : vListB 1 200 8 xs = true) {p : Int} (hp : 0 ≤ p) (k : Nat) : 0 ≤ (vouK xs p k).2 ∧ (vouK xs p k).2 ≤ 1600 ∧ cntV (vouK xs p k).1 xs.length ≤ 8 := by
  have h1 := (vouK_facts (xs := xs) hp k).1
  have h2 := sumV_bd h (vouK xs p k).1 xs.length (Nat.le_refl _)
  have h3 := (vListB_iff.1 h).2
  have h4 := cntV_le (vouK xs p k).1 xs.length
  omega

theorem ret_twoV {a a' b b' : Int} (h1 : a = a') (h2 : b = b') : Ending.returned (.tuple #[.int .i64 a, .int .i64 b]) = .returned (.tuple #[.int .i64 a', .int .i64 b']) := by rw [h1, h2]

theorem inRange_at8 (x lo hi : Int) (r : Bool) (w : World) (h : inR x lo hi = r) : Calls Try.prog 63 #[.int .i64 x, .int .i64 lo, .int .i64 hi] w fun e w' => e = .returned (.bool r) ∧ w = w' := by
  subst h; exact inRange_spec _ _ _ _
theorem validVou_at (v : Value) (xs : List Int) (r : Bool) (w : World) (hv : IsInts w v xs) (hl : xs.length ≤ 9223372036854775807) (h : vListB 1 200 8 xs = r) : Calls Try.prog 78 #[v] w fun e w' => e = .returned (.bool r) ∧ w = w' := by
  subst h; exact validVouchers_spec v xs w hv hl

set_option maxRecDepth 100000 in
set_option maxHeartbeats 6400000 in
theorem UseVouchers_spec (v : Value) (xs : List Int) (p : Int) (w : World) (hv : IsInts w v xs) (hl : xs.length ≤ 9223372036854775807) :
    Calls Try.prog 41 #[v, .int .i64 p] w fun e w' => e = .returned (.tuple #[.int .i64 (vouV p xs).1, .int .i64 (vouV p xs).2]) ∧ Below w.heap.size w w' := by
  have HCC := Lib.hid inRange_at8
  have HVO := Lib.hid (fun r => validVou_at v xs r w hv hl)
  have HNO : Hid ((vListB 1 200 8 xs && inR p 0 100000) = false → (vouV p xs).1 = -1 ∧ (vouV p xs).2 = -1) := fun h => by unfold vouV; rw [h]; exact ⟨rfl, rfl⟩
  obtain ⟨a, cap, rfl, hc⟩ := hv
  cases h1 : vListB 1 200 8 xs
  · have E := Lib.hid (HNO.out (by rw [h1]; rfl))
    go_enter Try.func41, Try.ntmps41
    go_wp2_with (go_at_call 78; refine (HVO.out _ h1).mono ?_; rintro e w' ⟨rfl, rfl⟩)
    go_ret2
    exact ⟨ret_twoV E.out.1.symm E.out.2.symm, Below.refl _ _⟩
  cases h2 : inR p 0 100000
  · have E := Lib.hid (HNO.out (by rw [h1, h2]; rfl))
    go_enter Try.func41, Try.ntmps41
    go_wp2_with (first | (go_at_call 63; refine (HCC.out _ _ _ _ _ h2).mono ?_; rintro e w' ⟨rfl, rfl⟩) | (go_at_call 78; refine (HVO.out _ h1).mono ?_; rintro e w' ⟨rfl, rfl⟩))
    go_ret2
    exact ⟨ret_twoV E.out.1.symm E.out.2.symm, Below.refl _ _⟩
  have E : Hid (vouV p xs = (((vouK xs p (2 ^ xs.length)).1 : Int), (vouK xs p (2 ^ xs.length)).2)) := by show _ = _; unfold vouV; rw [h1, h2]; rfl
  have hp := inR_true h2
  obtain ⟨hx, hl8⟩ := vListB_iff.1 h1
  have hl8' : xs.length ≤ 8 := by omega
  have hpw := pow_le8 hl8'
  have HSB : Hid (∀ s k, k ≤ xs.length → 0 ≤ sumV xs s k ∧ sumV xs s k ≤ 200 * k) := fun s k hk => sumV_bd h1 s k hk
  have HVB : Hid (∀ k, 0 ≤ (vouK xs p k).2 ∧ (vouK xs p k).2 ≤ 1600 ∧ cntV (vouK xs p k).1 xs.length ≤ 8) := fun k => vou_bd h1 hp.1 k
  have HX := Lib.hid hx
  have HV1 := Lib.hid (HVO.out _ h1)
  have HC1 := Lib.hid (fun wx => HCC.out _ _ _ _ wx h2)
  have HPW := Lib.hid (fun wx => power8_spec xs.length wx hl8')
  clear HNO HVO HCC hx h1 h2
  go_enter Try.func41, Try.ntmps41
  go_wp2_with (first | (go_at_call 63; refine (HC1.out _).mono ?_; rintro e w' ⟨rfl, rfl⟩) | (go_at_call 78; refine HV1.out.mono ?_; rintro e w' ⟨rfl, rfl⟩))
  go_loopw [6, 7, 8, 9] (fun bv mv cv sv wr => ∃ k : Nat, k ≤ 2 ^ xs.length ∧ sv = .int .i64 k ∧ bv = .int .i64 ((vouK xs p k).1 : Nat) ∧ mv = .int .i64 (vouK xs p k).2 ∧ cv = .int .i64 ((cntV (vouK xs p k).1 xs.length : Nat) : Int) ∧ Below w.heap.size w wr) (fun _ _ _ sv _ => 2 ^ xs.length - (intOf sv).toNat)
  case atStart => exact ⟨0, Nat.zero_le _, rfl, rfl, rfl, by rw [show (vouK xs p 0).1 = 0 from rfl, cntV_zero]; rfl, Below.refl _ _⟩
  case round =>
    obtain ⟨k, hk, rfl, rfl, rfl, rfl, hbl⟩ := hrel
    rename World => wr
    have hvb := HVB.out k
    by_cases hlt : k < 2 ^ xs.length
    · have HST : Hid (sumV xs k xs.length ≤ p ∧ ((vouK xs p k).2 < sumV xs k xs.length ∨ sumV xs k xs.length = (vouK xs p k).2 ∧ cntV k xs.length < cntV (vouK xs p k).1 xs.length) → vouK xs p (k + 1) = (k, sumV xs k xs.length)) := fun h => vou_yes h.1 h.2
      have HSN : Hid (¬ (sumV xs k xs.length ≤ p ∧ ((vouK xs p k).2 < sumV xs k xs.length ∨ sumV xs k xs.length = (vouK xs p k).2 ∧ cntV k xs.length < cntV (vouK xs p k).1 xs.length)) → vouK xs p (k + 1) = vouK xs p k) := fun h => vou_no h
      have hlt2 : (k : Int) < ((2 ^ xs.length : Nat) : Int) := by omega
      have HQ := Lib.hid hlt
      generalize hq : 2 ^ xs.length = q at *
      generalize hB : vouK xs p k = BM at *
      obtain ⟨b, m⟩ := BM
      simp only at hvb
      generalize hC : cntV b xs.length = c at *
      have k256 : k ≤ 256 := by omega
      go_wp2_with (go_at_call 65; refine (HPW.out _).mono ?_; rintro e w' ⟨rfl, rfl⟩)
      go_loopw [10, 11, 12] (fun tv nv iv wx => ∃ i : Nat, i ≤ xs.length ∧ iv = .int .i64 i ∧ tv = .int .i64 (sumV xs k i) ∧ nv = .int .i64 ((cntV k i : Nat) : Int) ∧ Below w.heap.size w wx) (fun _ _ iv _ => xs.length - (intOf iv).toNat)
      case atStart => exact ⟨0, Nat.zero_le _, rfl, rfl, rfl, hbl⟩
      case round =>
        clear hbl
        obtain ⟨i, hi, rfl, rfl, rfl, hbx⟩ := hrel
        rename World => wx
        by_cases hil : i < xs.length
        · obtain ⟨bb, off, rfl, c0⟩ := hc i hil
          have hcell := (hbx.cell (by exact World.block_lt_of_cell? w _ c0)).trans c0
          have i1 : (i : Int) < (xs.length : Int) := by omega
          have hz := HX.out (xs.getD i 0) (by rw [getD_is hil]; exact List.getElem_mem _)
          have hs0 := HSB.out k i (by omega)
          have hc1 := cntV_le k i
          have HBS := Lib.hid (fun wy => bit8_spec k i wy (by omega) k256)
          have HS1 : Hid (sumV xs k (i + 1) = sumV xs k i + (if bitN k i = 1 then xs.getD i 0 else 0)) := rfl
          have HS2 : Hid (cntV k (i + 1) = cntV k i + (if bitN k i = 1 then 1 else 0)) := rfl
          clear hc c0
          generalize xs.getD i 0 = z at *
          generalize sumV xs k i = t at *
          generalize cntV k i = n at *
          rcases bit8_01 k i with hb | hb
          · rw [hb] at HBS HS1 HS2
            go_wp2_with (go_at_call 79; refine (HBS.out _).mono ?_; rintro e w' ⟨rfl, rfl⟩)
            go_roundw
            case rel => exact ⟨i + 1, by omega, by go_num, by rw [HS1.out]; simp, by rw [HS2.out]; simp, hbx⟩
            case measure => simp [intOf]; omega
          · rw [hb] at HBS HS1 HS2
            go_wp2_with (go_at_call 79; refine (HBS.out _).mono ?_; rintro e w' ⟨rfl, rfl⟩)
            go_roundw
            case rel => exact ⟨i + 1, by omega, by go_num, by rw [HS1.out]; simp, by rw [HS2.out]; simp, hbx⟩
            case measure => simp [intOf]; omega
        · obtain rfl : i = xs.length := by omega
          have hs0 := HSB.out k xs.length (Nat.le_refl _)
          have hc1 := cntV_le k xs.length
          have HCC2 : Hid (∀ x : Nat × Int, vouK xs p (k + 1) = x → True) := fun _ _ => trivial
          generalize hT : sumV xs k xs.length = t at *
          generalize hN : cntV k xs.length = n at *
          have HCB := Lib.hid hC
          have HNB := Lib.hid hN
          have HBB := Lib.hid hB
          clear hC hN hB hT hc HX HSB
          by_cases d1 : t ≤ p
          · by_cases d2 : m < t
            · have HF := Lib.hid (HST.out ⟨d1, .inl d2⟩)
              go_wp2
              go_roundw
              case rel => exact ⟨k + 1, by omega, by go_num, by rw [HF.out], by rw [HF.out], by rw [HF.out]; exact congrArg (fun x : Nat => Value.int .i64 (x : Int)) HNB.out.symm, hbx⟩
              case measure => simp [intOf]; omega
            · by_cases d3 : t = m
              · by_cases d4 : n < c
                · have HF := Lib.hid (HST.out ⟨d1, .inr ⟨d3, d4⟩⟩)
                  have d4' : (n : Int) < (c : Int) := by omega
                  have HD3 := Lib.hid d3
                  subst d3
                  go_wp2
                  go_roundw
                  case rel => exact ⟨k + 1, by omega, by go_num, by rw [HF.out], by rw [HF.out], by rw [HF.out]; exact congrArg (fun x : Nat => Value.int .i64 (x : Int)) HNB.out.symm, hbx⟩
                  case measure => simp [intOf]; omega
                · have HF := Lib.hid (HSN.out (by omega))
                  have d4' : ¬ (n : Int) < (c : Int) := by omega
                  subst d3
                  go_wp2
                  go_roundw
                  case rel => exact ⟨k + 1, by omega, by go_num, by rw [HF.out], by rw [HF.out], by rw [HF.out]; exact congrArg (fun x : Nat => Value.int .i64 (x : Int)) HCB.out.symm, hbx⟩
                  case measure => simp [intOf]; omega
              · have HF := Lib.hid (HSN.out (by omega))
                go_wp2
                go_roundw
                case rel => exact ⟨k + 1, by omega, by go_num, by rw [HF.out], by rw [HF.out], by rw [HF.out]; exact congrArg (fun x : Nat => Value.int .i64 (x : Int)) HCB.out.symm, hbx⟩
                case measure => simp [intOf]; omega
          · have HF := Lib.hid (HSN.out (by omega))
            go_wp2
            go_roundw
            case rel => exact ⟨k + 1, by omega, by go_num, by rw [HF.out], by rw [HF.out], by rw [HF.out]; exact congrArg (fun x : Nat => Value.int .i64 (x : Int)) HCB.out.symm, hbx⟩
            case measure => simp [intOf]; omega
    · have hkq : k = 2 ^ xs.length := by omega
      have E2 : Hid (((vouK xs p k).1 : Int) = (vouV p xs).1 ∧ (vouK xs p k).2 = (vouV p xs).2) := by rw [E.out, hkq]; exact ⟨rfl, rfl⟩
      have hlt2 : ¬ (k : Int) < ((2 ^ xs.length : Nat) : Int) := by omega
      clear hkq
      generalize 2 ^ xs.length = q at *
      go_wp2_with (go_at_call 65; refine (HPW.out _).mono ?_; rintro e w' ⟨rfl, rfl⟩)
      go_ret2
      exact ⟨ret_twoV E2.out.1 E2.out.2, hbl⟩

end Go.Proofs.Ytiffjeclpgcabaa
