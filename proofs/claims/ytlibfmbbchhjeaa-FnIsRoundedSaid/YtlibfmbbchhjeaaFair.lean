/- Fair shares, in the program and in its model. -/
import Derived.Test.YtlibfmbbchhjeaaShare
import Derived.IntWalk
namespace Go.Proofs.Ytlibfmbbchhjeaa
open Go.RowKit

/-- The closest to n of the quotient a / b, rounded down or up. -/
def nearI (n a b : Int) : Int := min (max n (a / b)) ((a + b - 1) / b)

theorem div_up {a b : Int} (hb : 1 ≤ b) : a / b ≤ (a + b - 1) / b := Int.ediv_le_ediv (by omega) (by omega)

theorem nearI_eq {n a b : Int} (hb : 1 ≤ b) : (n = nearI n a b) ↔ inR n (a / b) ((a + b - 1) / b) = true := by
  have h := div_up (a := a) hb
  unfold nearI inR
  rw [decide_eq_true_iff]
  omega

set_option maxHeartbeats 400000 in
theorem nearest_any (n a b : Int) (w : World) (ha : 0 ≤ a ∧ a ≤ 100000000) (hb : 1 ≤ b ∧ b ≤ 100000000) :
    Calls Try.prog 62 #[.int .i64 n, .int .i64 a, .int .i64 b] w fun e w' => e = .returned (.int .i64 (nearI n a b)) ∧ ∃ m, w' = w.drewN m := by
  go_enter Try.func62, Try.ntmps62
  go_wp2
  go_quiet (fail)
  go_wp2
  all_goals
    go_ret
    refine ⟨ret_int ?_, _, rfl⟩
    unfold nearI
    omega

/-- A share is that of its part, rounded down or up. -/
def okAt (t : Int) (xs ys : List Int) (i : Nat) : Bool := inR (ys.getD i 0) (t * xs.getD i 0 / tot xs) ((t * xs.getD i 0 + tot xs - 1) / tot xs)

def fairL (t : Int) (xs ys : List Int) : Bool := cShare t xs && decide (ys.length = xs.length) && (List.range xs.length).all (okAt t xs ys) && decide (tot ys = t)

theorem fairL_no1 {t : Int} {xs ys : List Int} (h : cShare t xs = false) : fairL t xs ys = false := by rw [fairL, h]; rfl
theorem fairL_no2 {t : Int} {xs ys : List Int} (h : ¬ ys.length = xs.length) : fairL t xs ys = false := by rw [fairL, decide_eq_false h]; simp
theorem fairL_no3 {t : Int} {xs ys : List Int} {k : Nat} (hk : k < xs.length) (h : okAt t xs ys k = false) : fairL t xs ys = false := by
  have : (List.range xs.length).all (okAt t xs ys) = false := by
    rw [List.all_eq_false]
    exact ⟨k, by simpa using hk, by simp [h]⟩
  rw [fairL, this]; simp
theorem fairL_yes {t : Int} {xs ys : List Int} (h : cShare t xs = true) (h2 : ys.length = xs.length) (h3 : ∀ k, k < xs.length → okAt t xs ys k = true) : fairL t xs ys = decide (tot ys = t) := by
  have : (List.range xs.length).all (okAt t xs ys) = true := by
    rw [List.all_eq_true]
    intro k hk
    exact h3 k (by simpa using hk)
  rw [fairL, h, this, decide_eq_true h2]; simp

/-- The products by which shares are reckoned. -/
theorem mul_facts {t : Int} {xs : List Int} (t0 : 0 ≤ t) (t1 : t ≤ 100000) (hall : ∀ x ∈ xs, 0 ≤ x ∧ x ≤ 50) (k : Nat) (hk : k < xs.length) : 0 ≤ t * xs[k] ∧ t * xs[k] ≤ 5000000 := by
  have h := hall xs[k] (List.getElem_mem hk)
  have a : 0 ≤ t * xs[k] := Int.mul_nonneg t0 h.1
  have b : t * xs[k] ≤ 100000 * 50 := Int.mul_le_mul t1 h.2 h.1 (by omega)
  exact ⟨a, by omega⟩

theorem okAt_bounds {t : Int} {xs ys : List Int} {k : Nat} (t0 : 0 ≤ t) (t1 : t ≤ 100000) (hall : ∀ x ∈ xs, 0 ≤ x ∧ x ≤ 50) (s0 : 1 ≤ tot xs) (s1 : tot xs ≤ 400) (hk : k < xs.length) (h : okAt t xs ys k = true) : 0 ≤ ys.getD k 0 ∧ ys.getD k 0 ≤ 5000400 := by
  have hm := mul_facts t0 t1 hall k hk
  have h' := inR_true h
  have e : xs.getD k 0 = xs[k] := by simp [List.getD, hk]
  rw [e] at h'
  have l1 : 0 ≤ t * xs[k] / tot xs := Int.ediv_nonneg hm.1 (by omega)
  have l2 := Int.ediv_le_self (tot xs) (show 0 ≤ t * xs[k] + tot xs - 1 by omega)
  omega

theorem fits_of_ok {t : Int} {xs ys : List Int} (t0 : 0 ≤ t) (t1 : t ≤ 100000) (hall : ∀ x ∈ xs, 0 ≤ x ∧ x ≤ 50) (s0 : 1 ≤ tot xs) (s1 : tot xs ≤ 400) (hl : ys.length = xs.length) (h : ∀ k, k < xs.length → okAt t xs ys k = true) : ∀ y ∈ ys, 0 ≤ y ∧ y ≤ 5000400 := by
  intro y hy
  obtain ⟨k, hk, rfl⟩ := List.getElem_of_mem hy
  have := okAt_bounds t0 t1 hall s0 s1 (by omega) (h k (by omega))
  simpa [List.getD, hk] using this

set_option maxHeartbeats 1600000 in
theorem IsFair_impl (t : Int) (v u : Value) (xs ys : List Int) (w : World) (hv : IsInts w v xs) (hl : xs.length ≤ 9223372036854775807) (hu : IsInts w u ys) (hl2 : ys.length ≤ 9223372036854775807) (hf : Fits ys) :
    Calls Try.prog 24 #[.int .i64 t, v, u] w fun e w' => e = .returned (.bool (fairL t xs ys)) ∧ Below w.heap.size w w' := by
  have hv' := hv
  have hu' := hu
  obtain ⟨a, cap, rfl, hc⟩ := hv
  obtain ⟨a2, cap2, rfl, hc2⟩ := hu
  cases h1 : cShare t xs
  · go_enter Try.func24, Try.ntmps24
    go_wp2_with (go_at_call 58; refine (canShare_impl _ _ _ _ hv' hl).mono ?_; rintro e w' ⟨rfl, rfl⟩)
    go_ret
    exact ⟨ret_bool (fairL_no1 h1).symm, Below.refl _ _⟩
  · by_cases h2 : ys.length = xs.length
    · have hne : ((ys.length : Int) != (xs.length : Int)) = false := by simp; omega
      obtain ⟨t0, t1, hvp⟩ := cShare_facts h1
      obtain ⟨hlen, hall, s0, s1, hsf⟩ := vParts_facts hvp
      have H2 := Lib.hid h2
      clear h2 hvp
      go_enter Try.func24, Try.ntmps24
      go_wp2_with (first | (go_at_call 58; refine (canShare_impl _ _ _ _ hv' hl).mono ?_; rintro e w' ⟨rfl, rfl⟩) | (go_at_call 55; refine (sum_impl _ _ _ hv' hl hsf).mono ?_; rintro e w' ⟨rfl, rfl⟩))
      go_loopw [25] (fun i wr => ∃ k : Nat, k ≤ xs.length ∧ i = .int .i64 k ∧ (∀ j, j < k → okAt t xs ys j = true) ∧ Below w.heap.size w wr)
        (fun i _ => xs.length - (intOf i).toNat)
      case atStart => exact ⟨0, Nat.zero_le _, rfl, fun j hj => by omega, Below.refl _ _⟩
      case round =>
        obtain ⟨k, hk, rfl, hok, hbel⟩ := hrel
        have HO := Lib.hid hok
        clear hok
        by_cases hlt : k < xs.length
        · obtain ⟨b, off, rfl, hcell0⟩ := hc k hlt
          have hlt2 : k < ys.length := by rw [H2.out]; exact hlt
          obtain ⟨b2, off2, rfl, hcell1⟩ := hc2 k hlt2
          have ex : xs.getD k 0 = xs[k] := by simp [List.getD, hlt]
          have ey : ys.getD k 0 = ys[k] := by simp [List.getD, hlt2]
          have hcx : wr.cell? ⟨b, off + k, none⟩ = some (.int .i64 xs[k]) := by
            rw [← ex]; exact (hbel.cell (by exact World.block_lt_of_cell? w _ hcell0)).trans hcell0
          have hcy : wr.cell? ⟨b2, off2 + k, none⟩ = some (.int .i64 ys[k]) := by
            rw [← ey]; exact (hbel.cell (by exact World.block_lt_of_cell? w _ hcell1)).trans hcell1
          have hm := mul_facts t0 t1 hall k hlt
          have hyb := hf ys[k] (List.getElem_mem hlt2)
          have hkl : (k : Int) < (xs.length : Int) := by omega
          have hkl2 : (k : Int) < (ys.length : Int) := by omega
          have ew : IntKind.i64.wrap (t * xs[k]) = t * xs[k] := IntWalk.i64_in _ (by omega)
          have EW := Lib.hid ew
          have hiff := nearI_eq (n := ys[k]) (a := t * xs[k]) s0
          have HE : Hid (okAt t xs ys k = inR ys[k] (t * xs[k] / tot xs) ((t * xs[k] + tot xs - 1) / tot xs)) := by unfold okAt; rw [ex, ey]; rfl
          clear hc hc2 hcell0 hcell1 hv' hu' hsf hall ex ey ew
          cases hr : inR ys[k] (t * xs[k] / tot xs) ((t * xs[k] + tot xs - 1) / tot xs)
          · have hn : (ys[k] != nearI ys[k] (t * xs[k]) (tot xs)) = true := by
              rw [bne_iff_ne]; intro h; rw [hiff.1 h] at hr; cases hr
            have HR := Lib.hid hr
            clear hiff hr
            go_wp2
            have ew := EW.out
            go_quiet ((go_at_call 62; exact Calls.quiet_of (nearest_any _ _ _ _ (by omega) (by omega))))
            clear ew
            go_wp2
            go_ret
            exact ⟨ret_bool (fairL_no3 hlt (by rw [HE.out, HR.out])).symm, below_drewN hbel _⟩
          · have hn : (ys[k] != nearI ys[k] (t * xs[k]) (tot xs)) = false := by
              have := hiff.2 hr
              rw [← this]
              simp
            have HR := Lib.hid hr
            clear hiff hr
            go_wp2
            have ew := EW.out
            go_quiet ((go_at_call 62; exact Calls.quiet_of (nearest_any _ _ _ _ (by omega) (by omega))))
            clear ew
            go_wp2
            go_roundw
            case rel =>
              refine ⟨k + 1, by omega, by go_num, fun j hj => ?_, below_drewN hbel _⟩
              by_cases hjk : j = k
              · subst hjk; rw [HE.out, HR.out]
              · exact HO.out j (by omega)
            case measure => simp [intOf]; omega
        · have hok : ∀ j, j < xs.length → okAt t xs ys j = true := fun j hj => HO.out j (by omega)
          have hfy := fits_of_ok t0 t1 hall s0 s1 H2.out hok
          have hsy := sumFits_of ys 5000400 hfy (by omega) (by have := H2.out; omega)
          have HY := Lib.hid (fairL_yes h1 H2.out hok)
          have hu2 := hu'.below hbel
          clear hok hfy
          go_wp2_with (go_at_call 55; refine (sum_impl _ _ _ hu2 hl2 hsy).mono ?_; rintro e w' ⟨rfl, rfl⟩)
          go_ret
          exact ⟨ret_bool (by rw [HY.out]; rfl), hbel⟩
    · have hne : ((ys.length : Int) != (xs.length : Int)) = true := by simp; omega
      go_enter Try.func24, Try.ntmps24
      go_wp2_with (go_at_call 58; refine (canShare_impl _ _ _ _ hv' hl).mono ?_; rintro e w' ⟨rfl, rfl⟩)
      go_ret
      exact ⟨ret_bool (fairL_no2 h2).symm, Below.refl _ _⟩

set_option maxHeartbeats 1600000 in
theorem IsFair_spec (t : Int) (v u : Value) (xs ys : List Int) (w : World) (hv : IsInts w v xs) (hl : xs.length ≤ 9223372036854775807) (hu : IsInts w u ys) (hf : Fits ys) :
    Calls Try.prog 33 #[.int .i64 t, v, u] w fun e w' => e = .returned (.bool (fairL t xs ys)) ∧ w = w' := by
  have hv' := hv
  obtain ⟨a, cap, rfl, hc⟩ := hv
  obtain ⟨a2, cap2, rfl, hc2⟩ := hu
  cases h1 : cShare t xs
  · go_enter Try.func33, Try.ntmps33
    go_wp2_with (go_at_call 60; refine (validTotal_spec _ _ _ _ hv' hl).mono ?_; rintro e w' ⟨rfl, rfl⟩)
    go_ret
    exact ⟨ret_bool (fairL_no1 h1).symm, rfl⟩
  · by_cases h2 : ys.length = xs.length
    · have hne : ((ys.length : Int) != (xs.length : Int)) = false := by simp; omega
      obtain ⟨t0, t1, hvp⟩ := cShare_facts h1
      obtain ⟨hlen, hall, s0, s1, hsf⟩ := vParts_facts hvp
      have H2 := Lib.hid h2
      clear h2 hvp
      go_enter Try.func33, Try.ntmps33
      go_wp2_with (first | (go_at_call 60; refine (validTotal_spec _ _ _ _ hv' hl).mono ?_; rintro e w' ⟨rfl, rfl⟩) | (go_at_call 68; refine (sum_spec _ _ _ hv' hl hsf).mono ?_; rintro e w' ⟨rfl, rfl⟩))
      go_loop [8, 9] (fun l i => ∃ k : Nat, k ≤ ys.length ∧ i = .int .i64 k ∧ l = .int .i64 (t - tot (ys.take k)) ∧ (∀ j, j < k → okAt t xs ys j = true) ∧ (0 ≤ tot (ys.take k) ∧ tot (ys.take k) ≤ 5000400 * k))
        (fun _ i => ys.length - (intOf i).toNat)
      case atStart => exact ⟨0, Nat.zero_le _, rfl, by simp [tot], fun j hj => by omega, by simp [tot]⟩
      case round =>
        obtain ⟨k, hk, rfl, rfl, hok, htk⟩ := hrel
        have HO := Lib.hid hok
        clear hok
        by_cases hlt2 : k < ys.length
        · have hlt : k < xs.length := by rw [← H2.out]; exact hlt2
          obtain ⟨b, off, rfl, hcell0⟩ := hc k hlt
          obtain ⟨b2, off2, rfl, hcell1⟩ := hc2 k hlt2
          have ex : xs.getD k 0 = xs[k] := by simp [List.getD, hlt]
          have ey : ys.getD k 0 = ys[k] := by simp [List.getD, hlt2]
          rw [ex] at hcell0
          rw [ey] at hcell1
          have hm := mul_facts t0 t1 hall k hlt
          have hyb := hf ys[k] (List.getElem_mem hlt2)
          have hsk := tot_take_succ ys k hlt2
          have hk8 : k < 8 := by have := H2.out; omega
          have HE : Hid (okAt t xs ys k = inR ys[k] (t * xs[k] / tot xs) ((t * xs[k] + tot xs - 1) / tot xs)) := by unfold okAt; rw [ex, ey]; rfl
          have HB := fun h : okAt t xs ys k = true => okAt_bounds t0 t1 hall s0 s1 hlt h
          rw [ey] at HB
          have HK := Lib.hid hsk
          have HBB := Lib.hid HB
          clear hc hc2 hv' hsf hall ex ey hsk HB
          by_cases hlow : ys[k] < t * xs[k] / tot xs
          · have hr : inR ys[k] (t * xs[k] / tot xs) ((t * xs[k] + tot xs - 1) / tot xs) = false := by unfold inR; rw [decide_eq_false_iff_not]; omega
            have HR := Lib.hid hr
            clear hr
            go_wp2
            go_ret
            exact ⟨ret_bool (fairL_no3 hlt (by rw [HE.out, HR.out])).symm, rfl⟩
          · have hd : decide (ys[k] < t * xs[k] / tot xs) = false := decide_eq_false hlow
            by_cases hhigh : (t * xs[k] + tot xs - 1) / tot xs < ys[k]
            · have hr : inR ys[k] (t * xs[k] / tot xs) ((t * xs[k] + tot xs - 1) / tot xs) = false := by unfold inR; rw [decide_eq_false_iff_not]; omega
              have HR := Lib.hid hr
              clear hr
              go_wp2
              go_ret
              exact ⟨ret_bool (fairL_no3 hlt (by rw [HE.out, HR.out])).symm, rfl⟩
            · have hr : inR ys[k] (t * xs[k] / tot xs) ((t * xs[k] + tot xs - 1) / tot xs) = true := by unfold inR; rw [decide_eq_true_iff]; omega
              have hd2 : decide ((t * xs[k] + tot xs - 1) / tot xs < ys[k]) = false := decide_eq_false hhigh
              have hyy := HBB.out (by rw [HE.out, hr])
              have HR := Lib.hid hr
              clear hr
              go_wp2
              go_round
              case rel =>
                refine ⟨k + 1, by omega, by go_num, by rw [HK.out]; go_num, fun j hj => ?_, by rw [HK.out]; omega⟩
                by_cases hjk : j = k
                · subst hjk; rw [HE.out, HR.out]
                · exact HO.out j (by omega)
              case measure => simp [intOf]; omega
        · have hk2 : k = ys.length := by omega
          have hok : ∀ j, j < xs.length → okAt t xs ys j = true := fun j hj => HO.out j (by rw [hk2, H2.out]; exact hj)
          have HY := Lib.hid (fairL_yes h1 H2.out hok)
          have HT : Hid (tot (ys.take k) = tot ys) := by rw [hk2, List.take_of_length_le (Nat.le_refl _)]; rfl
          clear hok hk2
          go_wp2
          go_ret
          refine ⟨ret_bool ?_, rfl⟩
          rw [HY.out, HT.out, Bool.eq_iff_iff]
          simp
          omega
    · have hne : ((ys.length : Int) != (xs.length : Int)) = true := by simp; omega
      go_enter Try.func33, Try.ntmps33
      go_wp2_with (go_at_call 60; refine (validTotal_spec _ _ _ _ hv' hl).mono ?_; rintro e w' ⟨rfl, rfl⟩)
      go_ret
      exact ⟨ret_bool (fairL_no2 h2).symm, rfl⟩

end Go.Proofs.Ytlibfmbbchhjeaa
