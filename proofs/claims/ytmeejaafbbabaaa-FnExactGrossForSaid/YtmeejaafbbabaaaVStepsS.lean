/- The steps of a tax, in the model. -/
import Derived.Test.YtmeejaafbbabaaaTaxJ
import Derived.Test.YtmeejaafbbabaaaWorld
namespace Go.Proofs.Ytmeejaafbbabaaa
open Go.RowKit

theorem vSteps_end {st : List (Int × Int)} (h : ∀ i, i < st.length → okAt st i = true) : vSteps st = (inR st.length 1 5 && decide (frm st 0 = 0)) := by
  unfold vSteps
  rw [List.all_eq_true.2 (fun i hi => h i (List.mem_range.1 hi)), Bool.and_true]

set_option maxHeartbeats 1600000 in
theorem validSteps_spec (v : Value) (st : List (Int × Int)) (w : World) (hv : IsSteps w v st) (hl : st.length ≤ 9223372036854775807) :
    Calls Try.prog 53 #[v] w fun e w' => e = .returned (.bool (vSteps st)) ∧ Drawn w w' := by
  obtain ⟨a, cap, rfl, hc⟩ := hv
  go_enter Try.func53, Try.ntmps53
  go_wp2
  go_loopw [3] (fun s wr => ∃ k : Nat, k ≤ st.length ∧ s = .int .i64 k ∧ (∀ j, j < k → okAt st j = true) ∧ Drawn w wr) (fun s _ => st.length - (intOf s).toNat)
  case atStart => exact ⟨0, Nat.zero_le _, rfl, fun j hj => by omega, Drawn.refl _⟩
  case round =>
    obtain ⟨k, hk, rfl, hok, hdr⟩ := hrel
    have HOK := Lib.hid hok
    clear hok
    by_cases hlt : k < st.length
    · obtain ⟨b, off, rfl, c0, c1⟩ := hc k hlt
      have d0 : wr.cell? ⟨b, off + k * 2, none⟩ = some (.int .i64 (frm st k)) := (hdr.cell _).trans c0
      have d1 : wr.cell? ⟨b, off + k * 2 + 1, none⟩ = some (.int .i64 (rat st k)) := (hdr.cell _).trans c1
      have k1 : (k : Int) < (st.length : Int) := by omega
      have CQ : Hid (∀ q n lo hi, Calls Try.prog 57 #[.int .i64 n, .int .i64 lo, .int .i64 hi] (wr.drewN q) fun e w' => e = .returned (.bool (inR n lo hi)) ∧ ∃ m, w' = wr.drewN m) := fun q n lo hi => quiet_left (inRange_spec _ _ _ _)
      cases h1 : inR (frm st k) 0 2000
      · have CF := CQ.out
        have C1 : Hid (∀ q, Calls Try.prog 57 #[.int .i64 (frm st k), .int .i64 0, .int .i64 2000] (wr.drewN q) fun e w' => e = .returned (.bool false) ∧ ∃ m, w' = wr.drewN m) := fun q => by rw [← h1]; exact CF q _ _ _
        clear CF hc
        have HV := Lib.hid (vSteps_no hlt (by unfold okAt okStep; rw [h1]; rfl))
        go_wp2
        go_quiet ((go_at_call 57; exact C1.out _))
        go_wp2
        go_ret
        exact ⟨ret_bool HV.out.symm, hdr.more _⟩
      · cases h2 : inR (rat st k) 0 100
        · have CF := CQ.out
          have C1 : Hid (∀ q, Calls Try.prog 57 #[.int .i64 (frm st k), .int .i64 0, .int .i64 2000] (wr.drewN q) fun e w' => e = .returned (.bool true) ∧ ∃ m, w' = wr.drewN m) := fun q => by rw [← h1]; exact CF q _ _ _
          have C2 : Hid (∀ q, Calls Try.prog 57 #[.int .i64 (rat st k), .int .i64 0, .int .i64 100] (wr.drewN q) fun e w' => e = .returned (.bool false) ∧ ∃ m, w' = wr.drewN m) := fun q => by rw [← h2]; exact CF q _ _ _
          clear CF hc
          have HV := Lib.hid (vSteps_no hlt (by unfold okAt okStep; rw [h1, h2]; rfl))
          go_wp2
          go_quiet ((go_at_call 57; first | with_reducible exact C1.out _ | with_reducible exact C2.out _))
          go_wp2
          go_ret
          exact ⟨ret_bool HV.out.symm, hdr.more _⟩
        · have CF := CQ.out
          have C1 : Hid (∀ q, Calls Try.prog 57 #[.int .i64 (frm st k), .int .i64 0, .int .i64 2000] (wr.drewN q) fun e w' => e = .returned (.bool true) ∧ ∃ m, w' = wr.drewN m) := fun q => by rw [← h1]; exact CF q _ _ _
          have C2 : Hid (∀ q, Calls Try.prog 57 #[.int .i64 (rat st k), .int .i64 0, .int .i64 100] (wr.drewN q) fun e w' => e = .returned (.bool true) ∧ ∃ m, w' = wr.drewN m) := fun q => by rw [← h2]; exact CF q _ _ _
          clear CF
          have HS : Hid (okStep (frm st k) (rat st k) = true) := by show okStep (frm st k) (rat st k) = true; unfold okStep; rw [h1, h2]; rfl
          by_cases hk0 : 0 < k
          · have hkI : (0 : Int) < (k : Int) := by omega
            obtain ⟨b', off', e, cp0, cp1⟩ := hc (k - 1) (by omega)
            simp only [Option.some.injEq, Addr.mk.injEq, and_true] at e
            obtain ⟨rfl, rfl⟩ := e
            have dp : wr.cell? ⟨b, off + (k - 1) * 2, none⟩ = some (.int .i64 (frm st (k - 1))) := (hdr.cell _).trans cp0
            have m1 : 1 ≤ (k : Int) := by omega
            have m2 : (k : Int) - 1 < (st.length : Int) := by omega
            have m3 : ((k : Int) - 1).toNat = k - 1 := by omega
            clear hc
            by_cases hle : frm st k ≤ frm st (k - 1)
            · have HV := Lib.hid (vSteps_no hlt (by unfold okAt; rw [HS.out, decide_eq_false (show ¬ k = 0 by omega), decide_eq_false (show ¬ frm st (k - 1) < frm st k by omega)]; rfl))
              go_wp2
              go_quiet ((go_at_call 57; first | with_reducible exact C1.out _ | with_reducible exact C2.out _))
              go_wp2
              go_ret
              exact ⟨ret_bool HV.out.symm, hdr.more _⟩
            · go_wp2
              go_quiet ((go_at_call 57; first | with_reducible exact C1.out _ | with_reducible exact C2.out _))
              go_wp2
              go_roundw
              case rel =>
                refine ⟨k + 1, by omega, by go_num, fun j hj => ?_, hdr.more _⟩
                by_cases hjk : j = k
                · subst hjk; unfold okAt; rw [HS.out, decide_eq_true (show frm st (j - 1) < frm st j by omega), Bool.or_true]; rfl
                · exact HOK.out j (by omega)
              case measure => simp [intOf]; omega
          · have hkI : (k : Int) ≤ 0 := by omega
            clear hc
            go_wp2
            go_quiet ((go_at_call 57; first | with_reducible exact C1.out _ | with_reducible exact C2.out _))
            go_wp2
            go_roundw
            case rel =>
              refine ⟨k + 1, by omega, by go_num, fun j hj => ?_, hdr.more _⟩
              by_cases hjk : j = k
              · subst hjk; unfold okAt; rw [HS.out, decide_eq_true (show j = 0 by omega)]; rfl
              · exact HOK.out j (by omega)
            case measure => simp [intOf]; omega
    · have HE := Lib.hid (vSteps_end (st := st) (fun j hj => HOK.out j (by omega)))
      cases h1 : inR st.length 1 5
      · rw [h1] at HE
        go_wp2_with (go_at_call 57; refine (inRange_spec _ _ _ _).mono ?_; rintro e w' ⟨rfl, rfl⟩)
        go_ret
        exact ⟨ret_bool (by rw [HE.out]; rfl), hdr⟩
      · rw [h1] at HE
        have hn := inR_true h1
        have i2 : 0 < st.length := by omega
        have i3 : st ≠ [] := by intro hg; rw [hg] at i2; exact absurd i2 (by decide)
        obtain ⟨b, off, rfl, c0, c1⟩ := hc 0 i2
        have d0 : wr.cell? ⟨b, off, none⟩ = some (.int .i64 (frm st 0)) := (hdr.cell _).trans (by simpa using c0)
        clear hc c0
        go_wp2_with (go_at_call 57; refine (inRange_spec _ _ _ _).mono ?_; rintro e w' ⟨rfl, rfl⟩)
        go_ret
        exact ⟨ret_bool (by rw [HE.out, Bool.true_and]; first | rfl | (simp [BEq.beq]) ), hdr⟩

end Go.Proofs.Ytmeejaafbbabaaa
