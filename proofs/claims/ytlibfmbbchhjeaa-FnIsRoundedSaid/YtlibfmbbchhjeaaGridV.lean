/- Valid tables, in the model and in the program. -/
import Derived.Test.YtlibfmbbchhjeaaGrid
namespace Go.Proofs.Ytlibfmbbchhjeaa
open Go.RowKit

set_option maxRecDepth 100000 in
set_option maxHeartbeats 3200000 in
theorem validGrid_spec (v : Value) (g : List (List Int)) (u : Int) (w : World) (hv : IsGrid w v g) (hl : g.length ≤ 9223372036854775807) (hr : ∀ i, i < g.length → (rowOf g i).length ≤ 9223372036854775807) :
    Calls Try.prog 74 #[v, .int .i64 u] w fun e w' => e = .returned (.bool (vGrid g u)) ∧ Drawn w w' := by
  obtain ⟨a, cap, rfl, _⟩ := id hv
  cases h1 : inR g.length 1 3
  · go_enter Try.func74, Try.ntmps74
    go_wp2_with (go_at_call 66; refine (inRange_spec _ _ _ _).mono ?_; rintro e w' ⟨rfl, rfl⟩)
    go_ret
    exact ⟨ret_bool (by rw [vGrid, h1]; rfl), Drawn.refl _⟩
  · cases h2 : inR u 1 12
    · go_enter Try.func74, Try.ntmps74
      go_wp2_with (go_at_call 66; refine (inRange_spec _ _ _ _).mono ?_; rintro e w' ⟨rfl, rfl⟩)
      go_ret
      exact ⟨ret_bool (by rw [vGrid, h1, h2]; rfl), Drawn.refl _⟩
    · have hn := inR_true h1
      go_enter Try.func74, Try.ntmps74
      go_wp2_with (go_at_call 66; refine (inRange_spec _ _ _ _).mono ?_; rintro e w' ⟨rfl, rfl⟩)
      go_loopw [5] (fun s wr => ∃ i : Nat, i ≤ g.length ∧ s = .int .i64 i ∧ (∀ j, j < i → rowOK g j = true) ∧ Drawn w wr) (fun s _ => g.length - (intOf s).toNat)
      case atStart => exact ⟨0, Nat.zero_le _, rfl, fun j hj => by omega, Drawn.refl _⟩
      case round =>
        obtain ⟨i, hi, rfl, hok, hdr⟩ := hrel
        have HOK := Lib.hid hok
        clear hok
        by_cases hlt : i < g.length
        · have hvr := hv.below hdr.below
          obtain ⟨b, off, ar, cr, rfl, ci, cc⟩ := hvr.row i hlt
          obtain ⟨b0, off0, ar0, cr0, e0, c0, _⟩ := hvr.row 0 (by omega)
          simp only [Option.some.injEq, Addr.mk.injEq, and_true] at e0
          obtain ⟨rfl, rfl⟩ := e0
          rw [Nat.add_zero] at c0
          have hli := hr i hlt
          have i1 : (i : Int) < (g.length : Int) := by omega
          have i2 : 0 < g.length := by omega
          have i3 : g ≠ [] := by intro hg; rw [hg] at i2; exact absurd i2 (by decide)
          have HCC := Lib.hid cc
          clear cc hvr
          by_cases hsame : (rowOf g i).length = (rowOf g 0).length
          · have hne : (((rowOf g i).length : Int) != ((rowOf g 0).length : Int)) = false := by simp; omega
            have HSM := Lib.hid hsame
            clear hsame
            have CQ : Hid (∀ q, Calls Try.prog 66 #[.int .i64 (rowOf g i).length, .int .i64 1, .int .i64 3] (wr.drewN q) fun e w' => e = .returned (.bool (inR (rowOf g i).length 1 3)) ∧ ∃ m, w' = wr.drewN m) := fun q => quiet_left (inRange_spec _ _ _ _)
            cases h3 : inR (rowOf g i).length 1 3
            · rw [h3] at CQ
              have HF : Hid (vGrid g u = false) := vGrid_no hlt (by unfold rowOK; rw [h3]; simp)
              go_wp2
              go_quiet ((go_at_call 66; exact CQ.out _))
              go_wp2
              go_ret
              exact ⟨ret_bool HF.out.symm, hdr.more _⟩
            · rw [h3] at CQ
              go_wp2
              go_quiet ((go_at_call 66; exact CQ.out _))
              have hdq := hdr.more nq
              have HDQ := Lib.hid hdq
              clear hdq hdr
              generalize wr.drewN nq = wq at *
              go_wp2
              go_loopw [6] (fun s wr => ∃ k : Nat, k ≤ (rowOf g i).length ∧ s = .int .i64 k ∧ (∀ j, j < k → inR (cellOf g i j) 0 50 = true) ∧ Drawn w wr) (fun s _ => (rowOf g i).length - (intOf s).toNat)
              case atStart => exact ⟨0, Nat.zero_le _, rfl, fun j hj => by omega, HDQ.out⟩
              case round =>
                obtain ⟨k, hk, rfl, hck, hdk⟩ := hrel
                have HCK := Lib.hid hck
                clear hck ci c0
                have hvk := hv.below hdk.below
                obtain ⟨b', off', ar', cr', e', ci, cc⟩ := hvk.row i hlt
                simp only [Option.some.injEq, Addr.mk.injEq, and_true] at e'
                obtain ⟨rfl, rfl⟩ := e'
                clear hvk
                by_cases hlk : k < (rowOf g i).length
                · obtain ⟨br, fr, rfl, ck⟩ := cc k hlk
                  have k1 : (k : Int) < ((rowOf g i).length : Int) := by omega
                  clear cc
                  cases h4 : inR (cellOf g i k) 0 50
                  · have HF : Hid (vGrid g u = false) := vGrid_no hlt (by unfold rowOK; rw [allR_no_cell hlk h4]; simp)
                    go_wp2_with (go_at_call 66; refine (inRange_spec _ _ _ _).mono ?_; rintro e w' ⟨rfl, rfl⟩)
                    go_ret
                    exact ⟨ret_bool HF.out.symm, hdk⟩
                  · go_wp2_with (go_at_call 66; refine (inRange_spec _ _ _ _).mono ?_; rintro e w' ⟨rfl, rfl⟩)
                    go_roundw
                    case rel =>
                      refine ⟨k + 1, by omega, by go_num, fun j hj => ?_, hdk⟩
                      by_cases hjk : j = k
                      · subst hjk; exact h4
                      · exact HCK.out j (by omega)
                    case measure => simp [intOf]; omega
                · have HR : Hid (rowOK g i = true) := by
                    show rowOK g i = true
                    unfold rowOK
                    rw [decide_eq_true HSM.out, h3, allR_of_cells (fun j hj => HCK.out j (by omega))]
                    rfl
                  clear cc
                  go_wp2
                  go_roundw
                  case rel =>
                    refine ⟨i + 1, by omega, by go_num, fun j hj => ?_, hdk⟩
                    by_cases hji : j = i
                    · subst hji; exact HR.out
                    · exact HOK.out j (by omega)
                  case measure => simp [intOf]; omega
          · have hne : (((rowOf g i).length : Int) != ((rowOf g 0).length : Int)) = true := by simp; omega
            have HF : Hid (vGrid g u = false) := vGrid_no hlt (by unfold rowOK; rw [decide_eq_false hsame]; simp)
            clear hsame
            go_wp2
            go_quiet (fail)
            go_wp2
            go_ret
            exact ⟨ret_bool HF.out.symm, hdr.more _⟩
        · have HV := Lib.hid (vGrid_yes h1 h2 (fun j hj => HOK.out j (by omega)))
          go_wp2
          go_ret
          exact ⟨ret_bool HV.out.symm, hdr⟩

set_option maxRecDepth 100000 in
set_option maxHeartbeats 3200000 in
theorem canRound_impl (v : Value) (g : List (List Int)) (u : Int) (w : World) (hv : IsGrid w v g) (hl : g.length ≤ 9223372036854775807) (hr : ∀ i, i < g.length → (rowOf g i).length ≤ 9223372036854775807) :
    Calls Try.prog 70 #[v, .int .i64 u] w fun e w' => e = .returned (.bool (vGrid g u)) ∧ w = w' := by
  obtain ⟨a, cap, rfl, _⟩ := id hv
  cases h1 : inR g.length 1 3
  · go_enter Try.func70, Try.ntmps70
    go_wp2_with (go_at_call 53; refine (inRange_impl _ _ _ _).mono ?_; rintro e w' ⟨rfl, rfl⟩)
    go_ret
    exact ⟨ret_bool (by rw [vGrid, h1]; rfl), rfl⟩
  · cases h2 : inR u 1 12
    · go_enter Try.func70, Try.ntmps70
      go_wp2_with (go_at_call 53; refine (inRange_impl _ _ _ _).mono ?_; rintro e w' ⟨rfl, rfl⟩)
      go_ret
      exact ⟨ret_bool (by rw [vGrid, h1, h2]; rfl), rfl⟩
    · have hn := inR_true h1
      go_enter Try.func70, Try.ntmps70
      go_wp2_with (go_at_call 53; refine (inRange_impl _ _ _ _).mono ?_; rintro e w' ⟨rfl, rfl⟩)
      go_loop [18] (fun s => ∃ i : Nat, i ≤ g.length ∧ s = .int .i64 i ∧ (∀ j, j < i → rowOK g j = true)) (fun s => g.length - (intOf s).toNat)
      case atStart => exact ⟨0, Nat.zero_le _, rfl, fun j hj => by omega⟩
      case round =>
        obtain ⟨i, hi, rfl, hok⟩ := hrel
        have HOK := Lib.hid hok
        clear hok
        by_cases hlt : i < g.length
        · obtain ⟨b, off, ar, cr, rfl, ci, cc⟩ := hv.row i hlt
          obtain ⟨b0, off0, ar0, cr0, e0, c0, _⟩ := hv.row 0 (by omega)
          simp only [Option.some.injEq, Addr.mk.injEq, and_true] at e0
          obtain ⟨rfl, rfl⟩ := e0
          rw [Nat.add_zero] at c0
          have hli := hr i hlt
          have i1 : (i : Int) < (g.length : Int) := by omega
          have i2 : 0 < g.length := by omega
          have i3 : g ≠ [] := by intro hg; rw [hg] at i2; exact absurd i2 (by decide)
          have hrow : IsInts w (.slice ar (rowOf g i).length cr) (rowOf g i) := ⟨ar, cr, rfl, cc⟩
          clear cc
          cases h3 : inR (rowOf g i).length 1 3
          · have HF : Hid (vGrid g u = false) := vGrid_no hlt (by unfold rowOK; rw [h3]; simp)
            go_wp2_with (go_at_call 53; refine (inRange_impl _ _ _ _).mono ?_; rintro e w' ⟨rfl, rfl⟩)
            go_ret
            exact ⟨ret_bool HF.out.symm, rfl⟩
          · by_cases hsame : (rowOf g i).length = (rowOf g 0).length
            · have hne : (((rowOf g i).length : Int) != ((rowOf g 0).length : Int)) = false := by simp; omega
              have HSM := Lib.hid hsame
              clear hsame
              cases h4 : allR (rowOf g i) 0 50
              · have HF : Hid (vGrid g u = false) := vGrid_no hlt (by unfold rowOK; rw [h4]; simp)
                go_wp2_with (first | (go_at_call 53; refine (inRange_impl _ _ _ _).mono ?_; rintro e w' ⟨rfl, rfl⟩) | (go_at_call 54; refine (allInRange_impl _ _ _ _ _ hrow hli).mono ?_; rintro e w' ⟨rfl, rfl⟩))
                go_ret
                exact ⟨ret_bool HF.out.symm, rfl⟩
              · have HR : Hid (rowOK g i = true) := by
                  show rowOK g i = true
                  unfold rowOK
                  rw [decide_eq_true HSM.out, h3, h4]
                  rfl
                go_wp2_with (first | (go_at_call 53; refine (inRange_impl _ _ _ _).mono ?_; rintro e w' ⟨rfl, rfl⟩) | (go_at_call 54; refine (allInRange_impl _ _ _ _ _ hrow hli).mono ?_; rintro e w' ⟨rfl, rfl⟩))
                go_round
                case rel =>
                  refine ⟨i + 1, by omega, by go_num, fun j hj => ?_⟩
                  by_cases hji : j = i
                  · subst hji; exact HR.out
                  · exact HOK.out j (by omega)
                case measure => simp [intOf]; omega
            · have hne : (((rowOf g i).length : Int) != ((rowOf g 0).length : Int)) = true := by simp; omega
              have HF : Hid (vGrid g u = false) := vGrid_no hlt (by unfold rowOK; rw [decide_eq_false hsame]; simp)
              clear hsame
              go_wp2_with (go_at_call 53; refine (inRange_impl _ _ _ _).mono ?_; rintro e w' ⟨rfl, rfl⟩)
              go_ret
              exact ⟨ret_bool HF.out.symm, rfl⟩
        · have HV := Lib.hid (vGrid_yes h1 h2 (fun j hj => HOK.out j (by omega)))
          go_wp2
          go_ret
          exact ⟨ret_bool HV.out.symm, rfl⟩

/-- Rows are as many and as long as others. -/
def sameB (g o : List (List Int)) : Bool := decide (g.length = o.length) && (List.range g.length).all (fun i => decide ((rowOf g i).length = (rowOf o i).length))

theorem sameB_iff (g o : List (List Int)) : sameB g o = true ↔ g.length = o.length ∧ ∀ i, i < g.length → (rowOf g i).length = (rowOf o i).length := by
  simp [sameB]

theorem sameB_no {g o : List (List Int)} {i : Nat} (hi : i < g.length) (h : ¬ (rowOf g i).length = (rowOf o i).length) : sameB g o = false := by
  cases hs : sameB g o
  · rfl
  · exact absurd ((sameB_iff g o).1 hs |>.2 i hi) h

set_option maxRecDepth 100000 in
set_option maxHeartbeats 3200000 in
theorem sameForm_impl (v z : Value) (g o : List (List Int)) (w : World) (hv : IsGrid w v g) (hz : IsGrid w z o) (hl : g.length ≤ 9223372036854775807) :
    Calls Try.prog 71 #[v, z] w fun e w' => e = .returned (.bool (sameB g o)) ∧ Drawn w w' := by
  obtain ⟨a, cap, rfl, _⟩ := id hv
  obtain ⟨a2, cap2, rfl, _⟩ := id hz
  by_cases hlen : g.length = o.length
  · have hne : ((g.length : Int) != (o.length : Int)) = false := by simp; omega
    have HL := Lib.hid hlen
    go_enter Try.func71, Try.ntmps71
    clear hlen
    go_wp2
    go_loopw [13] (fun s wr => ∃ i : Nat, i ≤ g.length ∧ s = .int .i64 i ∧ (∀ j, j < i → (rowOf g j).length = (rowOf o j).length) ∧ Drawn w wr) (fun s _ => g.length - (intOf s).toNat)
    case atStart => exact ⟨0, Nat.zero_le _, rfl, fun j hj => by omega, Drawn.refl _⟩
    case round =>
      obtain ⟨i, hi, rfl, hok, hdr⟩ := hrel
      have HOK := Lib.hid hok
      clear hok
      by_cases hlt : i < g.length
      · have hlt2 : i < o.length := by rw [← HL.out]; exact hlt
        obtain ⟨b, off, ar, cr, rfl, ci, _⟩ := (hv.below hdr.below).row i hlt
        obtain ⟨b2, off2, ar2, cr2, rfl, c2, _⟩ := (hz.below hdr.below).row i hlt2
        have i1 : (i : Int) < (g.length : Int) := by omega
        have i2 : (i : Int) < (o.length : Int) := by omega
        by_cases hs : (rowOf g i).length = (rowOf o i).length
        · have hn : (((rowOf g i).length : Int) != ((rowOf o i).length : Int)) = false := by simp; omega
          have HS := Lib.hid hs
          clear hs
          go_wp2
          go_quiet (fail)
          go_wp2
          go_roundw
          case rel =>
            refine ⟨i + 1, by omega, by go_num, fun j hj => ?_, hdr.more _⟩
            by_cases hji : j = i
            · subst hji; exact HS.out
            · exact HOK.out j (by omega)
          case measure => simp [intOf]; omega
        · have hn : (((rowOf g i).length : Int) != ((rowOf o i).length : Int)) = true := by simp; omega
          have HS := Lib.hid (sameB_no hlt hs)
          clear hs
          go_wp2
          go_quiet (fail)
          go_wp2
          go_ret
          exact ⟨ret_bool HS.out.symm, hdr.more _⟩
      · have HS := Lib.hid ((sameB_iff g o).2 ⟨HL.out, fun j hj => HOK.out j (by omega)⟩)
        go_wp2
        go_ret
        exact ⟨ret_bool HS.out.symm, hdr⟩
  · have hne : ((g.length : Int) != (o.length : Int)) = true := by simp; omega
    go_enter Try.func71, Try.ntmps71
    go_wp2
    go_ret
    exact ⟨ret_bool (by unfold sameB; rw [decide_eq_false hlen]; rfl), Drawn.refl _⟩

end Go.Proofs.Ytlibfmbbchhjeaa
