/- What the model answers: HundredTax, NetOf, RateAt, IsRising, PairTax, GrossFor. -/
import Derived.Test.YtmeejaafbbabaaaTaxS
namespace Go.Proofs.Ytmeejaafbbabaaa
open Go.RowKit

set_option maxHeartbeats 400000 in
theorem net_spec (v : Value) (st : List (Int × Int)) (x : Int) (w : World) (hv : IsSteps w v st) (hs : Steps st) (hx : 0 ≤ x ∧ x ≤ 2000) :
    Calls Try.prog 61 #[v, .int .i64 x] w fun e w' => e = .returned (.int .i64 (netT st x)) ∧ Drawn w w' := by
  have hb := hs.tax_bounds hx.1
  go_enter Try.func61, Try.ntmps61
  go_wp2_with fail
  refine (tax_spec _ _ _ _ hv hs hx).mono ?_
  rintro e w' ⟨rfl, hbl⟩
  go_wp2
  go_ret
  exact ⟨rfl, hbl⟩

theorem canT_no1 {st : List (Int × Int)} {x : Int} (h : vSteps st = false) : canT st x = false := by unfold canT; rw [h]; rfl
theorem canT_no2 {st : List (Int × Int)} {x : Int} (h : inR x 0 2000 = false) : canT st x = false := by unfold canT; rw [h, Bool.and_false]
theorem canT_yes {st : List (Int × Int)} {x : Int} (h : vSteps st = true) (h2 : inR x 0 2000 = true) : canT st x = true := by unfold canT; rw [h, h2]; rfl

set_option maxHeartbeats 800000 in
theorem HundredTax_spec (v : Value) (st : List (Int × Int)) (x : Int) (w : World) (hv : IsSteps w v st) (hl : st.length ≤ 9223372036854775807) :
    Calls Try.prog 24 #[v, .int .i64 x] w fun e w' => e = .returned (.int .i64 (hundA st x)) ∧ Drawn w w' := by
  cases h1 : vSteps st
  · go_enter Try.func24, Try.ntmps24
    go_wp2_with fail
    refine (validSteps_spec _ _ _ hv hl).mono ?_
    rintro e w' ⟨rfl, hb⟩
    rw [h1]
    go_wp2
    go_ret
    exact ⟨ret_int (by rw [hundA, canT_no1 h1]; rfl), hb⟩
  · cases h2 : inR x 0 2000
    · go_enter Try.func24, Try.ntmps24
      go_wp2_with fail
      refine (validSteps_spec _ _ _ hv hl).mono ?_
      rintro e w' ⟨rfl, hb⟩
      rw [h1]
      go_wp2_with (go_at_call 57; refine (inRange_spec _ _ _ _).mono ?_; rintro e w' ⟨rfl, rfl⟩)
      go_ret
      exact ⟨ret_int (by rw [hundA, canT_no2 h2]; rfl), hb⟩
    · obtain ⟨hs, hx⟩ := canT_true (canT_yes h1 h2)
      go_enter Try.func24, Try.ntmps24
      go_wp2_with fail
      refine (validSteps_spec _ _ _ hv hl).mono ?_
      rintro e w' ⟨rfl, hb⟩
      rw [h1]
      go_wp2_with (go_at_call 57; refine (inRange_spec _ _ _ _).mono ?_; rintro e w' ⟨rfl, rfl⟩)
      refine (tax_spec _ _ _ _ (hv.below hb.below) hs hx).mono ?_
      rintro e w'' ⟨rfl, hb2⟩
      go_wp2
      go_ret
      exact ⟨ret_int (by rw [hundA, canT_yes h1 h2]; rfl), hb.trans hb2⟩

set_option maxHeartbeats 800000 in
theorem NetOf_spec (v : Value) (st : List (Int × Int)) (x : Int) (w : World) (hv : IsSteps w v st) (hl : st.length ≤ 9223372036854775807) :
    Calls Try.prog 28 #[v, .int .i64 x] w fun e w' => e = .returned (.int .i64 (netA st x)) ∧ Drawn w w' := by
  cases h1 : vSteps st
  · go_enter Try.func28, Try.ntmps28
    go_wp2_with fail
    refine (validSteps_spec _ _ _ hv hl).mono ?_
    rintro e w' ⟨rfl, hb⟩
    rw [h1]
    go_wp2
    go_ret
    exact ⟨ret_int (by rw [netA, canT_no1 h1]; rfl), hb⟩
  · cases h2 : inR x 0 2000
    · go_enter Try.func28, Try.ntmps28
      go_wp2_with fail
      refine (validSteps_spec _ _ _ hv hl).mono ?_
      rintro e w' ⟨rfl, hb⟩
      rw [h1]
      go_wp2_with (go_at_call 57; refine (inRange_spec _ _ _ _).mono ?_; rintro e w' ⟨rfl, rfl⟩)
      go_ret
      exact ⟨ret_int (by rw [netA, canT_no2 h2]; rfl), hb⟩
    · obtain ⟨hs, hx⟩ := canT_true (canT_yes h1 h2)
      go_enter Try.func28, Try.ntmps28
      go_wp2_with fail
      refine (validSteps_spec _ _ _ hv hl).mono ?_
      rintro e w' ⟨rfl, hb⟩
      rw [h1]
      go_wp2_with (go_at_call 57; refine (inRange_spec _ _ _ _).mono ?_; rintro e w' ⟨rfl, rfl⟩)
      refine (net_spec _ _ _ _ (hv.below hb.below) hs hx).mono ?_
      rintro e w'' ⟨rfl, hb2⟩
      go_wp2
      go_ret
      exact ⟨ret_int (by rw [netA, canT_yes h1 h2]; rfl), hb.trans hb2⟩

set_option maxHeartbeats 800000 in
theorem RateAt_spec (v : Value) (st : List (Int × Int)) (x : Int) (w : World) (hv : IsSteps w v st) (hl : st.length ≤ 9223372036854775807) :
    Calls Try.prog 33 #[v, .int .i64 x] w fun e w' => e = .returned (.int .i64 (rateA st x)) ∧ Drawn w w' := by
  cases h1 : vSteps st
  · go_enter Try.func33, Try.ntmps33
    go_wp2_with fail
    refine (validSteps_spec _ _ _ hv hl).mono ?_
    rintro e w' ⟨rfl, hb⟩
    rw [h1]
    go_wp2
    go_ret
    exact ⟨ret_int (by rw [rateA, canT_no1 h1]; rfl), hb⟩
  · cases h2 : inR x 0 2000
    · go_enter Try.func33, Try.ntmps33
      go_wp2_with fail
      refine (validSteps_spec _ _ _ hv hl).mono ?_
      rintro e w' ⟨rfl, hb⟩
      rw [h1]
      go_wp2_with (go_at_call 57; refine (inRange_spec _ _ _ _).mono ?_; rintro e w' ⟨rfl, rfl⟩)
      go_ret
      exact ⟨ret_int (by rw [rateA, canT_no2 h2]; rfl), hb⟩
    · obtain ⟨hs, hx⟩ := canT_true (canT_yes h1 h2)
      go_enter Try.func33, Try.ntmps33
      go_wp2_with fail
      refine (validSteps_spec _ _ _ hv hl).mono ?_
      rintro e w' ⟨rfl, hb⟩
      rw [h1]
      go_wp2_with (go_at_call 57; refine (inRange_spec _ _ _ _).mono ?_; rintro e w' ⟨rfl, rfl⟩)
      have hv2 := hv.below hb.below
      obtain ⟨a, cap, rfl, hc⟩ := hv2
      have hl5 := hs.len5
      go_loopw [5, 6] (fun t s wr => ∃ k : Nat, k ≤ st.length ∧ s = .int .i64 k ∧ t = .int .i64 (rateI st x k) ∧ Drawn w' wr) (fun _ s _ => st.length - (intOf s).toNat)
      case atStart => exact ⟨0, Nat.zero_le _, rfl, rfl, Drawn.refl _⟩
      case round =>
        obtain ⟨k, hk, rfl, rfl, hdr⟩ := hrel
        by_cases hlt : k < st.length
        · obtain ⟨b, off, rfl, c0, c1⟩ := hc k hlt
          have d0 : wr.cell? ⟨b, off + k * 2, none⟩ = some (.int .i64 (frm st k)) := (hdr.cell _).trans c0
          have d1 : wr.cell? ⟨b, off + k * 2 + 1, none⟩ = some (.int .i64 (rat st k)) := (hdr.cell _).trans c1
          have k1 : (k : Int) < (st.length : Int) := by omega
          have HR : Hid (rateI st x (k + 1) = if frm st k ≤ x then rat st k else rateI st x k) := rfl
          clear hc c0 c1
          by_cases hle : frm st k ≤ x
          · rw [if_pos hle] at HR
            go_wp2
            go_roundw
            case rel => exact ⟨k + 1, by omega, by go_num, by rw [HR.out], hdr⟩
            case measure => simp [intOf]; omega
          · rw [if_neg hle] at HR
            go_wp2
            go_roundw
            case rel => exact ⟨k + 1, by omega, by go_num, by rw [HR.out], hdr⟩
            case measure => simp [intOf]; omega
        · have HK := Lib.hid (show k = st.length by omega)
          clear hc
          go_wp2
          go_ret
          exact ⟨ret_int (by rw [HK.out, hs.rateI_all hx.1, rateA, canT_yes h1 h2]; rfl), hb.trans hdr⟩

set_option maxHeartbeats 800000 in
theorem rising_spec (v : Value) (st : List (Int × Int)) (w : World) (hv : IsSteps w v st) (hl : st.length ≤ 9223372036854775807) :
    Calls Try.prog 63 #[v] w fun e w' => e = .returned (.bool (upB st)) ∧ Drawn w w' := by
  obtain ⟨a, cap, rfl, hc⟩ := hv
  go_enter Try.func63, Try.ntmps63
  go_wp2
  go_loopw [3] (fun s wr => ∃ k : Nat, 1 ≤ k ∧ k ≤ st.length + 1 ∧ s = .int .i64 k ∧ (∀ i, i < k → i < st.length → 0 < i → rat st (i - 1) ≤ rat st i) ∧ Drawn w wr) (fun s _ => st.length + 1 - (intOf s).toNat)
  case atStart => exact ⟨1, Nat.le_refl _, by omega, rfl, fun i hi _ h0 => by omega, Drawn.refl _⟩
  case round =>
    obtain ⟨k, hk1, hk, rfl, hup, hdr⟩ := hrel
    have HU := Lib.hid hup
    clear hup
    by_cases hlt : k < st.length
    · obtain ⟨b, off, rfl, c0, c1⟩ := hc k hlt
      obtain ⟨b', off', e, p0, p1⟩ := hc (k - 1) (by omega)
      simp only [Option.some.injEq, Addr.mk.injEq, and_true] at e
      obtain ⟨rfl, rfl⟩ := e
      have d1 : wr.cell? ⟨b, off + k * 2 + 1, none⟩ = some (.int .i64 (rat st k)) := (hdr.cell _).trans c1
      have dp : wr.cell? ⟨b, off + (k - 1) * 2 + 1, none⟩ = some (.int .i64 (rat st (k - 1))) := (hdr.cell _).trans p1
      have k1 : (k : Int) < (st.length : Int) := by omega
      have m1 : 1 ≤ (k : Int) := by omega
      have m2 : (k : Int) - 1 < (st.length : Int) := by omega
      have m3 : ((k : Int) - 1).toNat = k - 1 := by omega
      clear hc c0 c1 p0 p1
      by_cases hr : rat st k < rat st (k - 1)
      · have HV := Lib.hid (upB_no hlt (by omega) hr)
        go_wp2
        go_quiet (fail)
        go_wp2
        go_ret
        exact ⟨ret_bool HV.out.symm, hdr.more _⟩
      · go_wp2
        go_quiet (fail)
        go_wp2
        go_roundw
        case rel =>
          refine ⟨k + 1, by omega, by omega, by go_num, fun i hi hl h0 => ?_, hdr.more _⟩
          by_cases e : i = k
          · subst e; omega
          · exact HU.out i (by omega) hl h0
        case measure => simp [intOf]; omega
    · have HV := Lib.hid (upB_yes (st := st) (fun i hi h0 => HU.out i (by omega) hi h0))
      clear hc
      go_wp2
      go_ret
      exact ⟨ret_bool HV.out.symm, hdr⟩

set_option maxHeartbeats 400000 in
theorem IsRising_spec (v : Value) (st : List (Int × Int)) (w : World) (hv : IsSteps w v st) (hl : st.length ≤ 9223372036854775807) :
    Calls Try.prog 36 #[v] w fun e w' => e = .returned (.bool (riseA st)) ∧ Drawn w w' := by
  cases h1 : vSteps st
  · go_enter Try.func36, Try.ntmps36
    go_wp2_with fail
    refine (validSteps_spec _ _ _ hv hl).mono ?_
    rintro e w' ⟨rfl, hb⟩
    rw [h1]
    go_wp2
    go_ret
    exact ⟨ret_bool (by rw [riseA, h1]; rfl), hb⟩
  · go_enter Try.func36, Try.ntmps36
    go_wp2_with fail
    refine (validSteps_spec _ _ _ hv hl).mono ?_
    rintro e w' ⟨rfl, hb⟩
    rw [h1]
    go_wp2_with fail
    refine (rising_spec _ _ _ (hv.below hb.below) hl).mono ?_
    rintro e w'' ⟨rfl, hb2⟩
    go_wp2
    go_ret
    exact ⟨ret_bool (by rw [riseA, h1]; rfl), hb.trans hb2⟩

theorem canP_no1 {st : List (Int × Int)} {x y : Int} (h : vSteps st = false) : canP st x y = false := by unfold canP; rw [canT_no1 h]; rfl
theorem canP_no2 {st : List (Int × Int)} {x y : Int} (h : inR x 0 2000 = false) : canP st x y = false := by unfold canP; rw [canT_no2 h]; rfl
theorem canP_no3 {st : List (Int × Int)} {x y : Int} (_hx : 0 ≤ x) (h : inR y 0 (2000 - x) = false) : canP st x y = false := by
  have h := inR_false h
  cases h1 : canP st x y
  · rfl
  · have h2 : (canT st x = true ∧ canT st y = true) ∧ x + y ≤ 2000 := by simpa [canP] using h1
    have h3 := (canT_true h2.1.2).2
    omega
theorem canP_yes {st : List (Int × Int)} {x y : Int} (h : vSteps st = true) (hx : inR x 0 2000 = true) (hy : inR y 0 (2000 - x) = true) : canP st x y = true := by
  have h1 := inR_true hx
  have h2 := inR_true hy
  unfold canP
  rw [canT_yes h hx, canT_yes h (by unfold inR; rw [decide_eq_true_iff]; omega), decide_eq_true (by omega)]
  rfl

set_option maxHeartbeats 800000 in
theorem PairTax_spec (v : Value) (st : List (Int × Int)) (x y : Int) (w : World) (hv : IsSteps w v st) (hl : st.length ≤ 9223372036854775807) :
    Calls Try.prog 39 #[v, .int .i64 x, .int .i64 y] w fun e w' => e = .returned (.int .i64 (pairA st x y)) ∧ Drawn w w' := by
  cases h1 : vSteps st
  · go_enter Try.func39, Try.ntmps39
    go_wp2_with fail
    refine (validSteps_spec _ _ _ hv hl).mono ?_
    rintro e w' ⟨rfl, hb⟩
    rw [h1]
    go_wp2
    go_ret
    exact ⟨ret_int (by rw [pairA, canP_no1 h1]; rfl), hb⟩
  · cases h2 : inR x 0 2000
    · go_enter Try.func39, Try.ntmps39
      go_wp2_with fail
      refine (validSteps_spec _ _ _ hv hl).mono ?_
      rintro e w' ⟨rfl, hb⟩
      rw [h1]
      go_wp2_with (go_at_call 57; refine (inRange_spec _ _ _ _).mono ?_; rintro e w' ⟨rfl, rfl⟩)
      go_ret
      exact ⟨ret_int (by rw [pairA, canP_no2 h2]; rfl), hb⟩
    · have hx := inR_true h2
      cases h3 : inR y 0 (2000 - x)
      · go_enter Try.func39, Try.ntmps39
        go_wp2_with fail
        refine (validSteps_spec _ _ _ hv hl).mono ?_
        rintro e w' ⟨rfl, hb⟩
        rw [h1]
        go_wp2_with (go_at_call 57; refine (inRange_spec _ _ _ _).mono ?_; rintro e w' ⟨rfl, rfl⟩)
        go_ret
        exact ⟨ret_int (by rw [pairA, canP_no3 hx.1 h3]; rfl), hb⟩
      · have hy := inR_true h3
        have hs := vSteps_iff.1 h1
        have hm : 0 ≤ (x + y) / 2 ∧ (x + y) / 2 ≤ 2000 := by omega
        have ht := hs.tax_bounds hm.1
        go_enter Try.func39, Try.ntmps39
        go_wp2_with fail
        refine (validSteps_spec _ _ _ hv hl).mono ?_
        rintro e w' ⟨rfl, hb⟩
        rw [h1]
        go_wp2_with (go_at_call 57; refine (inRange_spec _ _ _ _).mono ?_; rintro e w' ⟨rfl, rfl⟩)
        refine (tax_spec _ _ _ _ (hv.below hb.below) hs hm).mono ?_
        rintro e w'' ⟨rfl, hb2⟩
        go_wp2
        go_ret
        exact ⟨ret_int (by rw [pairA, canP_yes h1 h2 h3]; rfl), hb.trans hb2⟩

end Go.Proofs.Ytmeejaafbbabaaa
