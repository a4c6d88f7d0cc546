/- Budgets and exchanges, in the program. -/
import Derived.Test.YtiffjeclpgcabaaAir
import Derived.Test.YtiffjeclpgcabaaCarV
import Derived.Test.YtiffjeclpgcabaaRatV
import Derived.Test.YtiffjeclpgcabaaOwnB
import Derived.Laws.CopyOwn
namespace Go.Proofs.Ytiffjeclpgcabaa
open Go.RowKit

theorem carV_length (g m : Int) (xs : List Int) : (carV g m xs).length ≤ xs.length := by
  unfold carV
  split
  · rw [carL_len]; exact Nat.le_refl _
  · exact Nat.zero_le _

/-- The first k months, and zeros. -/
theorem carL_set (g m : Int) (xs : List Int) {k : Nat} (h : k < xs.length) : (carL g m (xs.take k) ++ List.replicate (xs.length - k) 0).set k (leftC g m (xs.take (k + 1))) = carL g m (xs.take (k + 1)) ++ List.replicate (xs.length - (k + 1)) 0 := by
  have hl : (carL g m (xs.take k)).length = k := by rw [carL_len, List.length_take]; omega
  have e : xs.length - k = (xs.length - (k + 1)) + 1 := by omega
  rw [e, List.replicate_succ, List.set_append_right _ _ (by omega), hl, Nat.sub_self, List.set_cons_zero, ← carL_take g m xs h, List.append_assoc]
  rfl

set_option maxRecDepth 100000 in
set_option maxHeartbeats 3200000 in
theorem CarryOf_impl (g m : Int) (v : Value) (xs : List Int) (w : World) (hv : IsInts w v xs) (hl : xs.length ≤ 9223372036854775807) :
    Calls Try.prog 44 #[.int .i64 g, .int .i64 m, v] w fun e w' => ∃ v', e = .returned v' ∧ Own w' w.heap.size v' (carV g m xs) ∧ Below w.heap.size w w' := by
  have HAR := Lib.hid (allInRange_impl v xs 0 100000 w hv hl)
  have HNO : Hid (cCar g m xs = false → carV g m xs = []) := car_no
  obtain ⟨i0, hi, hz0, hz1, hz2⟩ := info_parts infoInt
  have hv' := hv
  obtain ⟨a, cap, rfl, hc⟩ := hv
  have HCI := Lib.hid inRange_impl
  cases h1 : inR g 0 100000
  · have E := Lib.hid (HNO.out (by unfold cCar; rw [h1]; rfl))
    go_enter Try.func44, Try.ntmps44
    go_wp2_with (go_at_call 58; refine (inRange_impl _ _ _ _).mono ?_; rintro e w' ⟨rfl, rfl⟩)
    go_ret
    exact ⟨_, rfl, by rw [E.out]; exact own_nilC _ _, Below.refl _ _⟩
  cases h2 : inR m 0 100000
  · have E := Lib.hid (HNO.out (by unfold cCar; rw [h1, h2]; rfl))
    go_enter Try.func44, Try.ntmps44
    go_wp2_with (go_at_call 58; refine (inRange_impl _ _ _ _).mono ?_; rintro e w' ⟨rfl, rfl⟩)
    go_ret
    exact ⟨_, rfl, by rw [E.out]; exact own_nilC _ _, Below.refl _ _⟩
  by_cases h3 : (12 : Int) < (xs.length : Int)
  · have E := Lib.hid (HNO.out (by unfold cCar; rw [h1, h2, decide_eq_false (by omega)]; rfl))
    go_enter Try.func44, Try.ntmps44
    go_wp2_with (go_at_call 58; refine (inRange_impl _ _ _ _).mono ?_; rintro e w' ⟨rfl, rfl⟩)
    go_ret
    exact ⟨_, rfl, by rw [E.out]; exact own_nilC _ _, Below.refl _ _⟩
  have HE : Hid (cCar g m xs = allR xs 0 100000) := by show _ = _; unfold cCar; rw [h1, h2, decide_eq_true (by omega)]; rfl
  have hg := inR_true h1
  have hm := inR_true h2
  cases h4 : allR xs 0 100000
  · have E := Lib.hid (HNO.out (HE.out.trans h4))
    have h := HAR.out
    rw [h4] at h
    have HA2 := Lib.hid h
    clear h
    go_enter Try.func44, Try.ntmps44
    go_wp2_with (first | (go_at_call 58; refine (inRange_impl _ _ _ _).mono ?_; rintro e w' ⟨rfl, rfl⟩) | (go_at_call 73; refine HA2.out.mono ?_; rintro e w' ⟨rfl, rfl⟩))
    go_ret
    exact ⟨_, rfl, by rw [E.out]; exact own_nilC _ _, Below.refl _ _⟩
  have E : Hid (carV g m xs = carL g m xs) := by show _ = _; rw [carV, if_pos (HE.out.trans h4)]
  have hx := allR_true h4
  have HX := Lib.hid hx
  have h := HAR.out
  rw [h4] at h
  have HA2 := Lib.hid h
  clear h hx h4
  go_enter Try.func44, Try.ntmps44
  go_wp2_with (first | (go_at_call 58; refine (inRange_impl _ _ _ _).mono ?_; rintro e w' ⟨rfl, rfl⟩) | (go_at_call 73; refine HA2.out.mono ?_; rintro e w' ⟨rfl, rfl⟩) | (at_make; refine wpList_make_full _ rfl _ _ 39 rfl w.heap.size 3 i0 (.int .i64 0) 1 Try.underlying39 hi hz0 hz1 _ _ _ _ xs.length rfl rfl rfl rfl ?b2 ?b3 (Nat.le_refl _) ?_))
  case b2 => rw [hz2]; omega
  case b3 => unfold maxLen; omega
  intro w0 hown0 hgrow0
  have hb0 : Below w.heap.size w w0 := below_grown hgrow0 (Nat.le_refl _) (fun k h => by cases h)
  have oe : Own w0 w.heap.size (sl w.heap.size xs.length xs.length) (List.replicate xs.length 0) := own_made hown0
  clear hown0 hgrow0
  go_wp2
  go_loopw [7, 34] (fun lv iv wr => ∃ (k : Nat) (L : Int), k ≤ xs.length ∧ iv = .int .i64 k ∧ lv = .int .i64 L ∧ L = leftC g m (xs.take k) ∧ (-(100000 * (k : Int)) ≤ L ∧ L ≤ 100000) ∧ Own wr w.heap.size (sl w.heap.size xs.length xs.length) (carL g m (xs.take k) ++ List.replicate (xs.length - k) 0) ∧ Below w.heap.size w wr) (fun _ iv _ => xs.length - (intOf iv).toNat)
  case atStart => exact ⟨0, 0, Nat.zero_le _, rfl, rfl, rfl, by omega, by simpa [carL] using oe, hb0⟩
  case round =>
    obtain ⟨k, L, hk, rfl, rfl, hL, hLb, own, hbl⟩ := hrel
    have HL := Lib.hid hL
    clear hL oe hb0
    by_cases hlt : k < xs.length
    · obtain ⟨b, off, rfl, c0⟩ := hc k hlt
      have hcell := (hbl.cell (by exact World.block_lt_of_cell? w _ c0)).trans c0
      have hz := HX.out (xs.getD k 0) (by rw [getD_is hlt]; exact List.getElem_mem _)
      have H1 := Lib.hid (leftC_succ g m xs hlt)
      have hll : (carL g m (xs.take k) ++ List.replicate (xs.length - k) 0).length = xs.length := by rw [List.length_append, carL_len, List.length_take, List.length_replicate]; omega
      have hcd := own.cell hll k hlt
      have hfd := own.frozen hll k
      have hst := own.set hll k (leftC g m (xs.take (k + 1)))
      rw [carL_set g m xs hlt] at hst
      have HS1 := Lib.hid hst.1
      have HS2 := Lib.hid (hbl.trans (below_grown (B := w.heap.size) hst.2 hbl.size (fun q hq => by cases hq; exact Nat.le_refl _)))
      have i1 : (k : Int) < (xs.length : Int) := by omega
      clear hc c0 hst hll own
      have HZ : Hid (leftC g m (xs.take (k + 1)) = min (L + g - xs.getD k 0) m) := by show _ = _; rw [H1.out, HL.out]
      clear H1
      generalize hL2 : leftC g m (xs.take (k + 1)) = L2 at *
      have HL2 := Lib.hid hL2
      clear hL2
      generalize xs.getD k 0 = z at *
      by_cases hmin : L + g - z ≤ m
      · have e2 : L2 = L + g - z := by rw [HZ.out, Int.min_eq_left hmin]
        have hnm : ¬ m < L + g - z := by omega
        subst e2
        go_wp2
        go_roundw
        case rel => exact ⟨k + 1, _, by omega, by go_num, rfl, by rw [HL2.out], by omega, HS1.out, HS2.out⟩
        case measure => simp [intOf]; omega
      · have e2 : L2 = m := by rw [HZ.out, Int.min_eq_right (by omega)]
        have hnm : m < L + g - z := by omega
        subst e2
        go_wp2
        go_roundw
        case rel => exact ⟨k + 1, _, by omega, by go_num, rfl, by rw [HL2.out], by omega, HS1.out, HS2.out⟩
        case measure => simp [intOf]; omega
    · have ek : k = xs.length := by omega
      subst ek
      rw [List.take_length, Nat.sub_self, List.replicate_zero, List.append_nil] at own
      go_wp2
      go_ret
      exact ⟨_, rfl, by rw [E.out]; exact own, hbl⟩

/-! ### Exchange -/

set_option maxHeartbeats 1600000 in
theorem isValid_implR (u d : Int) (w : World) :
    Calls Try.prog 59 #[rv u d] w fun e w' => e = .returned (.bool (vRat u d)) ∧ Below w.heap.size w w' := by
  have hb : Below w.heap.size w (w.alloc (.cells #[.int .i64 u, .int .i64 d] 31)) := (Below.refl _ _).alloc (Nat.le_refl _) _
  cases h1 : inR u 1 20
  · have E : Hid (vRat u d = false) := by show _ = _; unfold vRat; rw [h1]; rfl
    go_enter Try.func59, Try.ntmps59
    go_wp2_with (go_at_call 58; refine (inRange_impl _ _ _ _).mono ?_; rintro e w' ⟨rfl, rfl⟩)
    go_ret
    exact ⟨ret_bool E.out.symm, hb⟩
  · have E : Hid (vRat u d = inR d 1 20) := by show _ = _; unfold vRat; rw [h1]; rfl
    go_enter Try.func59, Try.ntmps59
    go_wp2_with (go_at_call 58; refine (inRange_impl _ _ _ _).mono ?_; rintro e w' ⟨rfl, rfl⟩)
    go_ret
    exact ⟨ret_bool E.out.symm, hb⟩

theorem isValid_atR (u d : Int) (r : Bool) (w : World) (h : vRat u d = r) :
    Calls Try.prog 59 #[rv u d] w fun e w' => e = .returned (.bool r) ∧ Below w.heap.size w w' := by
  subst h; exact isValid_implR _ _ _

set_option maxHeartbeats 1600000 in
theorem Exchange_impl (a u d : Int) (w : World) :
    Calls Try.prog 33 #[.int .i64 a, rv u d] w fun e w' => e = .returned (.int .i64 (exchV a u d)) ∧ Below w.heap.size w w' := by
  have HV := Lib.hid (isValid_atR u d)
  have hh : (w.alloc (.cells #[.int .i64 u, .int .i64 d] 31)).heap.size = w.heap.size + 1 := by simp
  have HH := Lib.hid hh
  clear hh
  have hb : Below w.heap.size w (w.alloc (.cells #[.int .i64 u, .int .i64 d] 31)) := (Below.refl _ _).alloc (Nat.le_refl _) _
  have HNO : Hid ((inR a 0 100000 && vRat u d) = false → exchV a u d = -1) := fun h => by unfold exchV; rw [h]; rfl
  cases h1 : inR a 0 100000
  · have E := Lib.hid (HNO.out (by rw [h1]; rfl))
    go_enter Try.func33, Try.ntmps33
    go_wp2_with (go_at_call 58; refine (inRange_impl _ _ _ _).mono ?_; rintro e w' ⟨rfl, rfl⟩)
    go_ret
    exact ⟨ret_int E.out.symm, hb⟩
  have hn := IsBoxR.new w u d
  cases h2 : vRat u d
  · have E := Lib.hid (HNO.out (by rw [h1, h2]; rfl))
    go_enter Try.func33, Try.ntmps33
    go_wp2_with (go_at_call 58; refine (inRange_impl _ _ _ _).mono ?_; rintro e w' ⟨rfl, rfl⟩)
    refine (HV.out _ _ h2).mono ?_
    rintro e w2 ⟨rfl, b2⟩
    have b3 := hb.trans (b2.mono hb.size)
    clear hn b2 hb
    go_wp2
    go_ret
    exact ⟨ret_int E.out.symm, b3⟩
  · have E : Hid (exchV a u d = a * u / d) := by show _ = _; unfold exchV; rw [h1, h2]; rfl
    obtain ⟨hu, hd⟩ := vRat_iff.1 h2
    have ha := inR_true h1
    have m1 : 0 ≤ a * u := Int.mul_nonneg ha.1 (by omega)
    have m2 : a * u ≤ 100000 * 20 := Int.mul_le_mul ha.2 hu.2 (by omega) (by omega)
    have W1 : IntKind.i64.wrap (a * u) = a * u := IntWalk.i64_in _ (by omega)
    have q0 := Int.ediv_nonneg m1 (show 0 ≤ d by omega)
    have q1 := Int.ediv_le_self d m1
    have hd0 : d ≠ 0 := by omega
    go_enter Try.func33, Try.ntmps33
    go_wp2_with (go_at_call 58; refine (inRange_impl _ _ _ _).mono ?_; rintro e w' ⟨rfl, rfl⟩)
    refine (HV.out _ _ h2).mono ?_
    rintro e w2 ⟨rfl, b2⟩
    have b3 := hb.trans (b2.mono hb.size)
    obtain ⟨⟨c0, c1⟩, _⟩ := (hn.below b2).cells
    clear hn b2 hb
    go_wp2
    go_ret
    exact ⟨ret_int E.out.symm, b3⟩

end Go.Proofs.Ytiffjeclpgcabaa
