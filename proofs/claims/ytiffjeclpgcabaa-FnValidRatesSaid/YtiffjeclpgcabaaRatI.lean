/- ValidRates, in the program. -/
import Derived.Test.YtiffjeclpgcabaaRatT
namespace Go.Proofs.Ytiffjeclpgcabaa
open Go.RowKit

set_option maxRecDepth 100000 in
set_option maxHeartbeats 3200000 in
theorem ValidRates_impl (v : Value) (g : List (List (Int × Int))) (w : World) (hv : IsGridR w v g) (_hl : g.length ≤ 9223372036854775807) (hr : ∀ i, i < g.length → (rowR g i).length ≤ 9223372036854775807) :
    Calls Try.prog 20 #[v] w fun e w' => e = .returned (.bool (vRates g)) ∧ Below w.heap.size w w' := by
  obtain ⟨a, cap, rfl, _⟩ := id hv
  have HV := Lib.hid hv
  have HVR := Lib.hid isValid_atR
  clear hv
  cases h4 : inR g.length 1 4
  · have E : Hid (vRates g = false) := by show _ = _; unfold vRates; rw [h4]; rfl
    go_enter Try.func20, Try.ntmps20
    go_wp2_with (go_at_call 58; refine (inRange_impl _ _ _ _).mono ?_; rintro e w' ⟨rfl, rfl⟩)
    go_ret
    exact ⟨ret_bool E.out.symm, Below.refl _ _⟩
  go_enter Try.func20, Try.ntmps20
  go_wp2_with (go_at_call 58; refine (inRange_impl _ _ _ _).mono ?_; rintro e w' ⟨rfl, rfl⟩)
  go_loopw [13] (fun s wr => ∃ i : Nat, i ≤ g.length ∧ s = .int .i64 i ∧ (∀ j, j < i → rowX g j = true) ∧ Below w.heap.size w wr) (fun s _ => g.length - (intOf s).toNat)
  case atStart => exact ⟨0, Nat.zero_le _, rfl, fun j hj => absurd hj (Nat.not_lt_zero _), Below.refl _ _⟩
  case round =>
    obtain ⟨i, hi, rfl, hok, hbl⟩ := hrel
    rename World => wr
    have HOK := Lib.hid hok
    clear hok
    by_cases hlt : i < g.length
    · obtain ⟨b, off, ar, cr, rfl, ci0, hrow⟩ := HV.out.row i hlt
      have hbb : b < w.heap.size := World.block_lt_of_cell? w _ ci0
      have ci := (hbl.cell (p := ⟨b, off + i, none⟩) hbb).trans ci0
      have i1 : (i : Int) < (g.length : Int) := by omega
      have hri := hr i hlt
      by_cases hsame : (rowR g i).length = g.length
      · have hne : (((rowR g i).length : Int) != (g.length : Int)) = false := by simp; omega
        have HSM := Lib.hid hsame
        have HRW := Lib.hid hrow
        obtain ⟨br, fr, rfl, q0, q1⟩ := hrow.at i (by omega)
        have hbr : br < w.heap.size := World.block_lt_of_cell? w _ q0
        have e0 := (hbl.cell (p := ⟨br, fr + i * 2, none⟩) hbr).trans q0
        have e1 := (hbl.cell (p := ⟨br, fr + i * 2 + 1, none⟩) hbr).trans q1
        have i2 : (i : Int) < ((rowR g i).length : Int) := by rw [hsame]; exact i1
        have HKI : Hid (okX g i i = (vRat (rUp (rowR g i) i) (rDn (rowR g i) i) && decide ((rUp (rowR g i) i, rDn (rowR g i) i) = (1, 1)))) := by
          show _ = _
          unfold okX
          simp [cellX]
        have HNI : Hid (okX g i i = false → vRates g = false) := fun h => vRates_no hlt (rowX_no hlt h)
        clear hrow hsame ci0 q0 q1
        by_cases hone : (rUp (rowR g i) i, rDn (rowR g i) i) = (1, 1)
        · have hu : rUp (rowR g i) i = 1 := congrArg Prod.fst hone
          have hd : rDn (rowR g i) i = 1 := congrArg Prod.snd hone
          have HON := Lib.hid hone
          rw [hu] at e0
          rw [hd] at e1
          clear hone hu hd
          go_wp2
          go_loopw [33] (fun s wx => ∃ k : Nat, k ≤ g.length ∧ s = .int .i64 k ∧ (∀ j, j < k → okX g i j = true) ∧ Below w.heap.size w wx) (fun s _ => g.length - (intOf s).toNat)
          case atStart => exact ⟨0, Nat.zero_le _, rfl, fun j hj => absurd hj (Nat.not_lt_zero _), hbl⟩
          case round =>
            clear hbl ci hne e0 e1
            obtain ⟨k, hk, rfl, hok2, hbx⟩ := hrel
            rename World => wx
            have HO2 := Lib.hid hok2
            clear hok2
            by_cases hlk : k < g.length
            · obtain ⟨br', fr', ea, d0, d1⟩ := HRW.out.at k (by rw [HSM.out]; exact hlk)
              simp only [Option.some.injEq, Addr.mk.injEq, and_true] at ea
              obtain ⟨rfl, rfl⟩ := ea
              have e0 := (hbx.cell (p := ⟨br, fr + k * 2, none⟩) hbr).trans d0
              have e1 := (hbx.cell (p := ⟨br, fr + k * 2 + 1, none⟩) hbr).trans d1
              have k2 : (k : Int) < ((rowR g i).length : Int) := by rw [HSM.out]; omega
              have HKX : Hid (okX g i k = (vRat (rUp (rowR g i) k) (rDn (rowR g i) k) && (decide (i ≠ k) || decide ((rUp (rowR g i) k, rDn (rowR g i) k) = (1, 1))))) := rfl
              have HNO : Hid (okX g i k = false → vRates g = false) := fun h => vRates_no hlt (rowX_no hlk h)
              have HOK2 : Hid (vRat (rUp (rowR g i) k) (rDn (rowR g i) k) = true → okX g i k = true) := fun h => by
                rw [HKX.out, h, Bool.true_and]
                by_cases e : i = k
                · subst e; rw [decide_eq_true HON.out]; simp
                · rw [decide_eq_true e]; rfl
              clear d0 d1
              generalize rUp (rowR g i) k = u at *
              generalize rDn (rowR g i) k = d at *
              have hsx := hbx.size
              have hbn : ∀ x y : Int, Below w.heap.size w (wx.alloc (.cells #[.int .i64 x, .int .i64 y] 31)) := fun x y => hbx.alloc hsx _
              have HBN := Lib.hid hbn
              clear hbn
              cases hvr : vRat u d
              · have HF := Lib.hid (HNO.out (by rw [HKX.out, hvr]; rfl))
                go_wp2_with (go_at_call 59; refine (HVR.out _ _ _ _ hvr).mono ?_; rintro e w' ⟨rfl, hd⟩)
                go_ret
                exact ⟨ret_bool HF.out.symm, (HBN.out _ _).trans (hd.mono (HBN.out _ _).size)⟩
              · have HKT := Lib.hid (HOK2.out hvr)
                go_wp2_with fail
                refine (HVR.out _ _ _ _ hvr).mono ?_
                rintro e w5 ⟨rfl, hd⟩
                have hb5 := (HBN.out _ _).trans (hd.mono (HBN.out _ _).size)
                clear hd e0 e1 hbx
                go_wp2
                go_roundw
                case rel =>
                  refine ⟨k + 1, by omega, by go_num, fun j hj => ?_, hb5⟩
                  by_cases e : j = k
                  · subst e; exact HKT.out
                  · exact HO2.out j (by omega)
                case measure => simp [intOf]; omega
            · have HRX : Hid (rowX g i = true) := rowX_yes HSM.out (fun b hb => HO2.out b (by omega))
              have k2 : ¬ (k : Int) < ((rowR g i).length : Int) := by rw [HSM.out]; omega
              go_wp2
              go_roundw
              case rel =>
                refine ⟨i + 1, by omega, by go_num, fun j hj => ?_, hbx⟩
                by_cases e : j = i
                · subst e; exact HRX.out
                · exact HOK.out j (by omega)
              case measure => simp [intOf]; omega
        · have HF := Lib.hid (HNI.out (by rw [HKI.out, decide_eq_false hone]; simp))
          have hnn : ¬ (rUp (rowR g i) i = 1 ∧ rDn (rowR g i) i = 1) := fun h => hone (by rw [h.1, h.2])
          clear hone
          generalize rUp (rowR g i) i = u at *
          generalize rDn (rowR g i) i = d at *
          go_wp2
          all_goals (go_ret; exact ⟨ret_bool HF.out.symm, hbl⟩)
      · have hne : (((rowR g i).length : Int) != (g.length : Int)) = true := by simp; omega
        have HF : Hid (vRates g = false) := vRates_no hlt (rowX_len_no hsame)
        clear hsame hrow
        go_wp2
        go_ret
        exact ⟨ret_bool HF.out.symm, hbl⟩
    · have HF : Hid (vRates g = true) := by show _ = _; rw [vRates_all (fun a ha => HOK.out a (by omega)), h4]
      go_wp2
      go_ret
      exact ⟨ret_bool HF.out.symm, hbl⟩

end Go.Proofs.Ytiffjeclpgcabaa
