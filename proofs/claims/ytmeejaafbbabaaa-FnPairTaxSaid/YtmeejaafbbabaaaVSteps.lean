/- The steps of a tax, in the program. -/
import Derived.Test.YtmeejaafbbabaaaQB
namespace Go.Proofs.Ytmeejaafbbabaaa
open Go.RowKit

set_option maxHeartbeats 1600000 in
theorem ValidSteps_impl (v : Value) (st : List (Int × Int)) (w : World) (hv : IsSteps w v st) (hl : st.length ≤ 9223372036854775807) :
    Calls Try.prog 20 #[v] w fun e w' => e = .returned (.bool (vSteps st)) ∧ Below w.heap.size w w' := by
  obtain ⟨a, cap, rfl, hc⟩ := hv
  cases h1 : inR st.length 1 5
  · go_enter Try.func20, Try.ntmps20
    go_wp2_with (go_at_call 51; refine (inRange_impl _ _ _ _).mono ?_; rintro e w' ⟨rfl, rfl⟩)
    go_ret
    exact ⟨ret_bool (by rw [vSteps, h1]; rfl), Below.refl _ _⟩
  have hn := inR_true h1
  have i2 : 0 < st.length := by omega
  have i3 : st ≠ [] := by intro hg; rw [hg] at i2; exact absurd i2 (by decide)
  obtain ⟨b0, off0, rfl, c00, c01⟩ := hc 0 (by omega)
  simp only [Nat.zero_mul, Nat.add_zero] at c00 c01
  have hbb : b0 < w.heap.size := World.block_lt_of_cell? w _ c00
  by_cases h2 : frm st 0 = 0
  · have hne : (frm st 0 != 0) = false := by simp [h2]
    have H2 := Lib.hid h2
    clear h2
    go_enter Try.func20, Try.ntmps20
    go_wp2_with (go_at_call 51; refine (inRange_impl _ _ _ _).mono ?_; rintro e w' ⟨rfl, rfl⟩)
    go_loopw [18] (fun s wr => ∃ k : Nat, k ≤ st.length ∧ s = .int .i64 k ∧ (∀ j, j < k → okAt st j = true) ∧ Below w.heap.size w wr) (fun s _ => st.length - (intOf s).toNat)
    case atStart => exact ⟨0, Nat.zero_le _, rfl, fun j hj => by omega, Below.refl _ _⟩
    case round =>
      obtain ⟨k, hk, rfl, hok, hbl⟩ := hrel
      have HOK := Lib.hid hok
      clear hok hne
      have hsz := hbl.size
      by_cases hlt : k < st.length
      · obtain ⟨b, off, e, ck0, ck1⟩ := hc k hlt
        simp only [Option.some.injEq, Addr.mk.injEq, and_true] at e
        obtain ⟨rfl, rfl⟩ := e
        have d0 : wr.cell? ⟨b0, off0 + k * 2, none⟩ = some (.int .i64 (frm st k)) := (hbl.cell (by exact hbb)).trans ck0
        have d1 : wr.cell? ⟨b0, off0 + k * 2 + 1, none⟩ = some (.int .i64 (rat st k)) := (hbl.cell (by exact hbb)).trans ck1
        have k1 : (k : Int) < (st.length : Int) := by omega
        have hbox := IsBox.new wr (frm st k) (rat st k)
        have hbw : Below w.heap.size w (wr.alloc (.cells #[.int .i64 (frm st k), .int .i64 (rat st k)] 33)) := hbl.alloc hsz _
        have hbs : wr.heap.size < (wr.alloc (.cells #[.int .i64 (frm st k), .int .i64 (rat st k)] 33)).heap.size := by simp
        have HX := Lib.hid hbox
        have HS := Lib.hid hbs
        have HW := Lib.hid hbw
        clear hbox hbs hbw
        cases hval : okStep (frm st k) (rat st k)
        · have HV := Lib.hid hval
          clear hval
          go_wp2
          generalize wr.alloc (.cells #[.int .i64 (frm st k), .int .i64 (rat st k)] 33) = W at *
          generalize wr.heap.size = bx at *
          have hcl : ∀ w', Below W.heap.size W w' → w'.cell? ⟨bx, 0, none⟩ = some (.int .i64 (frm st k)) ∧ w'.cell? ⟨bx, 0 + 1, none⟩ = some (.int .i64 (rat st k)) := fun w' hw' => by
            have h := (IsBox.below HX.out hw').cells
            exact ⟨h.1, h.2.1⟩
          have HC := Lib.hid hcl
          clear hcl
          refine wp_region_quiet_below (by kernel_rfl) (by kernel_rfl) ?_
          go_simp
          refine wpQuiet_val (sv (frm st k) (rat st k)) (by kernel_rfl) (quietAt_load_step _ rfl bx 0 _ _ rfl HC.out) ?_
          go_simp
          refine wpQuiet_val (.bool false) (by kernel_rfl) (quietAt_call 52 #[sv (frm st k) (rat st k)] (fun w' _ => by go_simp) (fun w' hw' => ?_)) ?_
          · refine (isValid_impl _ _ _).mono ?_
            rintro e w'' ⟨rfl, hb⟩
            exact ⟨ret_bool HV.out, hw'.trans (hb.mono hw'.size)⟩
          go_simp
          repeat (first | go_big_quiet_skip | (go_big_quiet_want; go_big_quiet_op; first | go_big_quiet_on | (refine ⟨_, fun _ _ => rfl, ?_⟩; go_big_quiet_on)))
          refine wpQuiet_nil ?_
          intro w' hw'
          go_wp2
          go_ret
          exact ⟨ret_bool (vSteps_no hlt (by unfold okAt; rw [HV.out]; rfl)).symm, HW.out.trans (hw'.mono HW.out.size)⟩
        · have HV := Lib.hid hval
          clear hval
          by_cases hk0 : 0 < k
          · have hkI : (0 : Int) < (k : Int) := by omega
            obtain ⟨b, off, e, cp0, cp1⟩ := hc (k - 1) (by omega)
            simp only [Option.some.injEq, Addr.mk.injEq, and_true] at e
            obtain ⟨rfl, rfl⟩ := e
            have hbw0 : b0 < w.heap.size := hbb
            have m1 : 1 ≤ (k : Int) := by omega
            have m2 : (k : Int) - 1 < (st.length : Int) := by omega
            have m3 : ((k : Int) - 1).toNat = k - 1 := by omega
            cases hle : decide (frm st k ≤ frm st (k - 1))
            · go_wp2
              generalize wr.alloc (.cells #[.int .i64 (frm st k), .int .i64 (rat st k)] 33) = W at *
              generalize wr.heap.size = bx at *
              have hcl : ∀ w', Below W.heap.size W w' → w'.cell? ⟨bx, 0, none⟩ = some (.int .i64 (frm st k)) ∧ w'.cell? ⟨bx, 0 + 1, none⟩ = some (.int .i64 (rat st k)) := fun w' hw' => by
                have h := (IsBox.below HX.out hw').cells
                exact ⟨h.1, h.2.1⟩
              have HC := Lib.hid hcl
              clear hcl
              refine wp_region_quiet_below (by kernel_rfl) (by kernel_rfl) ?_
              go_simp
              refine wpQuiet_val (sv (frm st k) (rat st k)) (by kernel_rfl) (quietAt_load_step _ rfl bx 0 _ _ rfl HC.out) ?_
              go_simp
              refine wpQuiet_val (.bool true) (by kernel_rfl) (quietAt_call 52 #[sv (frm st k) (rat st k)] (fun w' _ => by go_simp) (fun w' hw' => ?_)) ?_
              · refine (isValid_impl _ _ _).mono ?_
                rintro e w'' ⟨rfl, hb⟩
                exact ⟨ret_bool HV.out, hw'.trans (hb.mono hw'.size)⟩
              go_simp
              have hp : ∀ w', Below W.heap.size W w' → w'.cell? ⟨b0, off0 + (k - 1) * 2, none⟩ = some (.int .i64 (frm st (k - 1))) := fun w' hw' => ((HW.out.trans (hw'.mono HW.out.size)).cell (by exact hbw0)).trans cp0
              have HP := Lib.hid hp
              clear hp
              repeat (first | (refine wpQuiet_val (.int .i64 (frm st k)) (by kernel_rfl) (quietAt_load_int _ rfl ⟨bx, 0, none⟩ _ rfl (fun w' hw' => (HC.out w' hw').1)) ?_; go_simp) | (refine wpQuiet_val (.int .i64 (frm st (k - 1))) (by kernel_rfl) (quietAt_load_int _ rfl ⟨b0, off0 + (k - 1) * 2, none⟩ _ rfl HP.out) ?_; go_simp) | go_big_quiet_skip | (go_big_quiet_want; go_big_quiet_op; first | go_big_quiet_on | (refine ⟨_, fun _ _ => rfl, ?_⟩; go_big_quiet_on)))
              refine wpQuiet_nil ?_
              intro w' hw'
              go_wp2
              go_roundw
              case rel =>
                refine ⟨k + 1, by omega, by go_num, fun j hj => ?_, HW.out.trans (hw'.mono HW.out.size)⟩
                by_cases hjk : j = k
                · subst hjk; unfold okAt; rw [HV.out, decide_eq_true (show frm st (j - 1) < frm st j by have := of_decide_eq_false hle; omega), Bool.or_true]; rfl
                · exact HOK.out j (by omega)
              case measure => simp [intOf]; omega
            · go_wp2
              generalize wr.alloc (.cells #[.int .i64 (frm st k), .int .i64 (rat st k)] 33) = W at *
              generalize wr.heap.size = bx at *
              have hcl : ∀ w', Below W.heap.size W w' → w'.cell? ⟨bx, 0, none⟩ = some (.int .i64 (frm st k)) ∧ w'.cell? ⟨bx, 0 + 1, none⟩ = some (.int .i64 (rat st k)) := fun w' hw' => by
                have h := (IsBox.below HX.out hw').cells
                exact ⟨h.1, h.2.1⟩
              have HC := Lib.hid hcl
              clear hcl
              refine wp_region_quiet_below (by kernel_rfl) (by kernel_rfl) ?_
              go_simp
              refine wpQuiet_val (sv (frm st k) (rat st k)) (by kernel_rfl) (quietAt_load_step _ rfl bx 0 _ _ rfl HC.out) ?_
              go_simp
              refine wpQuiet_val (.bool true) (by kernel_rfl) (quietAt_call 52 #[sv (frm st k) (rat st k)] (fun w' _ => by go_simp) (fun w' hw' => ?_)) ?_
              · refine (isValid_impl _ _ _).mono ?_
                rintro e w'' ⟨rfl, hb⟩
                exact ⟨ret_bool HV.out, hw'.trans (hb.mono hw'.size)⟩
              go_simp
              have hp : ∀ w', Below W.heap.size W w' → w'.cell? ⟨b0, off0 + (k - 1) * 2, none⟩ = some (.int .i64 (frm st (k - 1))) := fun w' hw' => ((HW.out.trans (hw'.mono HW.out.size)).cell (by exact hbw0)).trans cp0
              have HP := Lib.hid hp
              clear hp
              repeat (first | (refine wpQuiet_val (.int .i64 (frm st k)) (by kernel_rfl) (quietAt_load_int _ rfl ⟨bx, 0, none⟩ _ rfl (fun w' hw' => (HC.out w' hw').1)) ?_; go_simp) | (refine wpQuiet_val (.int .i64 (frm st (k - 1))) (by kernel_rfl) (quietAt_load_int _ rfl ⟨b0, off0 + (k - 1) * 2, none⟩ _ rfl HP.out) ?_; go_simp) | go_big_quiet_skip | (go_big_quiet_want; go_big_quiet_op; first | go_big_quiet_on | (refine ⟨_, fun _ _ => rfl, ?_⟩; go_big_quiet_on)))
              refine wpQuiet_nil ?_
              intro w' hw'
              go_wp2
              go_ret
              exact ⟨ret_bool (vSteps_no hlt (by unfold okAt; rw [HV.out, decide_eq_false (show ¬ k = 0 by omega), decide_eq_false (show ¬ frm st (k - 1) < frm st k by have := of_decide_eq_true hle; omega)]; rfl)).symm, HW.out.trans (hw'.mono HW.out.size)⟩
          · have hkI : (k : Int) ≤ 0 := by omega
            go_wp2
            generalize wr.alloc (.cells #[.int .i64 (frm st k), .int .i64 (rat st k)] 33) = W at *
            generalize wr.heap.size = bx at *
            have hcl : ∀ w', Below W.heap.size W w' → w'.cell? ⟨bx, 0, none⟩ = some (.int .i64 (frm st k)) ∧ w'.cell? ⟨bx, 0 + 1, none⟩ = some (.int .i64 (rat st k)) := fun w' hw' => by
              have h := (IsBox.below HX.out hw').cells
              exact ⟨h.1, h.2.1⟩
            have HC := Lib.hid hcl
            clear hcl
            refine wp_region_quiet_below (by kernel_rfl) (by kernel_rfl) ?_
            go_simp
            refine wpQuiet_val (sv (frm st k) (rat st k)) (by kernel_rfl) (quietAt_load_step _ rfl bx 0 _ _ rfl HC.out) ?_
            go_simp
            refine wpQuiet_val (.bool true) (by kernel_rfl) (quietAt_call 52 #[sv (frm st k) (rat st k)] (fun w' _ => by go_simp) (fun w' hw' => ?_)) ?_
            · refine (isValid_impl _ _ _).mono ?_
              rintro e w'' ⟨rfl, hb⟩
              exact ⟨ret_bool HV.out, hw'.trans (hb.mono hw'.size)⟩
            go_simp
            repeat (first | go_big_quiet_skip | (go_big_quiet_want; go_big_quiet_op; first | go_big_quiet_on | (refine ⟨_, fun _ _ => rfl, ?_⟩; go_big_quiet_on)))
            refine wpQuiet_nil ?_
            intro w' hw'
            go_wp2
            go_roundw
            case rel =>
              refine ⟨k + 1, by omega, by go_num, fun j hj => ?_, HW.out.trans (hw'.mono HW.out.size)⟩
              by_cases hjk : j = k
              · subst hjk; unfold okAt; rw [HV.out, decide_eq_true (show j = 0 by omega)]; rfl
              · exact HOK.out j (by omega)
            case measure => simp [intOf]; omega
      · have HV := Lib.hid (vSteps_yes h1 H2.out (fun j hj => HOK.out j (by omega)))
        go_wp2
        go_ret
        exact ⟨ret_bool HV.out.symm, hbl⟩
  · have hne : (frm st 0 != 0) = true := by simp [h2]
    go_enter Try.func20, Try.ntmps20
    go_wp2_with (go_at_call 51; refine (inRange_impl _ _ _ _).mono ?_; rintro e w' ⟨rfl, rfl⟩)
    go_ret
    exact ⟨ret_bool (by rw [vSteps, h1, decide_eq_false h2]; rfl), Below.refl _ _⟩

end Go.Proofs.Ytmeejaafbbabaaa
