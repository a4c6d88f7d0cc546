/- Powers, streams of payments and doubling, in the model: the contracts. -/
import Derived.Test.YtfgafbjofkicdaaLoanT
import Derived.Test.YtfgafbjofkicdaaWorthM
import Derived.BigQuiet
namespace Go.Proofs.Ytfgafbjofkicdaa
open Go.RowKit

theorem pow_small {x : Int} (h : 0 ≤ x ∧ x ≤ 20) {n : Nat} (hn : n ≤ 12) : 0 ≤ x ^ n ∧ x ^ n ≤ 4096000000000000 := by
  have h1 := pow_bounds h.1 h.2 n
  have h2 := pow20 n hn
  omega

set_option maxHeartbeats 800000 in
theorem times_spec (x : Int) (n : Nat) (w : World) (hx : 0 ≤ x ∧ x ≤ 20) (hn : n ≤ 12) :
    Calls Try.prog 72 #[.int .i64 x, .int .i64 n] w fun e w' => e = .returned (.int .i64 (x ^ n)) ∧ w = w' := by
  have HP := Lib.hid (fun (k : Nat) (hk : k ≤ 12) => pow_small hx hk)
  go_enter Try.func72, Try.ntmps72
  go_wp2
  go_loopw [1, 5] (fun nv ov wr => ∃ k : Nat, k ≤ n ∧ nv = .int .i64 k ∧ ov = .int .i64 (x ^ (n - k)) ∧ w = wr) (fun nv _ _ => (intOf nv).toNat)
  case atStart => exact ⟨n, Nat.le_refl _, rfl, by rw [Nat.sub_self, Int.pow_zero], rfl⟩
  case round =>
    obtain ⟨k, hk, rfl, rfl, rfl⟩ := hrel
    by_cases h0 : 0 < k
    · have hk0 : (0 : Int) < (k : Int) := by omega
      have hb := HP.out (n - k + 1) (by omega)
      have he : x ^ (n - k) * x = x ^ (n - k + 1) := (Int.pow_succ x (n - k)).symm
      have hw : IntKind.i64.wrap (x ^ (n - k) * x) = x ^ (n - (k - 1)) := by
        rw [he, IntWalk.i64_in _ (by omega)]
        congr 1
        omega
      have HW := Lib.hid hw
      clear hw he hb
      generalize x ^ (n - k) = z at *
      have hw2 : IntKind.i64.wrap (z * x) = x ^ (n - (k - 1)) := HW.out
      go_wp2
      go_roundw
      case rel => exact ⟨k - 1, by omega, by go_num, rfl, trivial⟩
      case measure => simp [intOf]; omega
    · have hk0 : k = 0 := by omega
      subst hk0
      go_wp2
      go_ret
      exact ⟨rfl, rfl⟩

/-- Is it a stream of payments? -/
def vStream (xs : List Int) (p b : Int) : Bool := xs.all (fun x => inR x (-1000) 1000) && inR xs.length 1 8 && inR p 0 10 && inR b 1 10

theorem vStream_no {xs : List Int} {p b : Int} {k : Nat} (hk : k < xs.length) (h : inR (xs.getD k 0) (-1000) 1000 = false) : vStream xs p b = false := by
  have : xs.all (fun x => inR x (-1000) 1000) = false := by
    rw [List.all_eq_false]
    refine ⟨xs[k], List.getElem_mem hk, ?_⟩
    have e : xs.getD k 0 = xs[k] := by simp [List.getD, hk]
    rw [← e, h]; simp
  rw [vStream, this]; rfl

theorem vStream_all {xs : List Int} (h : ∀ j, j < xs.length → inR (xs.getD j 0) (-1000) 1000 = true) : xs.all (fun x => inR x (-1000) 1000) = true := by
  rw [List.all_eq_true]
  intro x hx
  obtain ⟨j, hj, rfl⟩ := List.getElem_of_mem hx
  have := h j hj
  have e : xs.getD j 0 = xs[j] := by simp [List.getD, hj]
  rw [e] at this
  exact this

theorem vStream_iff {xs : List Int} {p b : Int} : vStream xs p b = true ↔ (∀ x ∈ xs, -1000 ≤ x ∧ x ≤ 1000) ∧ (1 ≤ xs.length ∧ xs.length ≤ 8) ∧ (0 ≤ p ∧ p ≤ 10) ∧ 1 ≤ b ∧ b ≤ 10 := by
  unfold vStream
  simp only [Bool.and_eq_true, List.all_eq_true]
  constructor
  · rintro ⟨⟨⟨h1, h2⟩, h3⟩, h4⟩
    have h2' := inR_true h2
    exact ⟨fun x hx => inR_true (h1 x hx), by omega, inR_true h3, inR_true h4⟩
  · rintro ⟨h1, h2, h3, h4⟩
    refine ⟨⟨⟨fun x hx => ?_, ?_⟩, ?_⟩, ?_⟩
    · have := h1 x hx
      unfold inR; exact decide_eq_true (by omega)
    all_goals · unfold inR; exact decide_eq_true (by omega)

set_option maxHeartbeats 1600000 in
theorem validStream_spec (v : Value) (xs : List Int) (p b : Int) (w : World) (h : IsInts w v xs) (hl : xs.length ≤ 1048576) :
    Calls Try.prog 70 #[v, .int .i64 p, .int .i64 b] w fun e w' => e = .returned (.bool (vStream xs p b)) ∧ w = w' := by
  have HCC := Lib.hid inRange_at
  obtain ⟨a, cap, rfl, hc⟩ := h
  go_enter Try.func70, Try.ntmps70
  go_wp2
  go_loopw [7] (fun i wr => ∃ k : Nat, k ≤ xs.length ∧ i = .int .i64 k ∧ (∀ j, j < k → inR (xs.getD j 0) (-1000) 1000 = true) ∧ w = wr) (fun i _ => xs.length - (intOf i).toNat)
  case atStart => exact ⟨0, Nat.zero_le _, rfl, fun j hj => by omega, rfl⟩
  case round =>
    obtain ⟨k, hk, rfl, hok, rfl⟩ := hrel
    have HOK := Lib.hid hok
    clear hok
    by_cases hlt : k < xs.length
    · obtain ⟨bl, off, rfl, hcell⟩ := hc k hlt
      have k1 : (k : Int) < (xs.length : Int) := by omega
      clear hc
      have HNO : Hid (inR (xs.getD k 0) (-1000) 1000 = false → vStream xs p b = false) := fun h => vStream_no hlt h
      generalize hx : xs.getD k 0 = x at hcell HNO
      have HX := Lib.hid hx
      clear hx
      cases h4 : inR x (-1000) 1000
      · have HF : Hid (vStream xs p b = false) := HNO.out h4
        go_wp2_with (go_at_call 59; refine (HCC.out _ _ _ _ _ h4).mono ?_; rintro e w' ⟨rfl, rfl⟩)
        go_ret
        exact ⟨ret_bool HF.out.symm, rfl⟩
      · go_wp2_with (go_at_call 59; refine (HCC.out _ _ _ _ _ h4).mono ?_; rintro e w' ⟨rfl, rfl⟩)
        go_roundw
        case rel =>
          refine ⟨k + 1, by omega, by go_num, fun j hj => ?_, trivial⟩
          by_cases hjk : j = k
          · subst hjk; rw [HX.out]; exact h4
          · exact HOK.out j (by omega)
        case measure => simp [intOf]; omega
    · have hke : k = xs.length := by omega
      subst hke
      have ha := vStream_all HOK.out
      cases h1 : inR xs.length 1 8
      · have HF : Hid (vStream xs p b = false) := by show _ = _; rw [vStream, ha, h1]; rfl
        clear ha hc
        go_wp2_with (go_at_call 59; (with_reducible refine (HCC.out _ _ _ _ _ h1).mono ?_); rintro e w' ⟨rfl, rfl⟩)
        go_ret
        exact ⟨ret_bool HF.out.symm, rfl⟩
      cases h2 : inR p 0 10
      · have HF : Hid (vStream xs p b = false) := by show _ = _; rw [vStream, ha, h1, h2]; rfl
        clear ha hc
        go_wp2_with (go_at_call 59; (first | (with_reducible refine (HCC.out xs.length _ _ _ _ h1).mono ?_) | (with_reducible refine (HCC.out p _ _ _ _ h2).mono ?_)); rintro e w' ⟨rfl, rfl⟩)
        go_ret
        exact ⟨ret_bool HF.out.symm, rfl⟩
      · have HF : Hid (vStream xs p b = inR b 1 10) := by show _ = _; rw [vStream, ha, h1, h2]; rfl
        clear ha hc
        go_wp2_with (go_at_call 59; (first | (with_reducible refine (HCC.out xs.length _ _ _ _ h1).mono ?_) | (with_reducible refine (HCC.out p _ _ _ _ h2).mono ?_) | (with_reducible refine (HCC.out b _ _ _ _ rfl).mono ?_)); rintro e w' ⟨rfl, rfl⟩)
        go_ret
        exact ⟨ret_bool HF.out.symm, rfl⟩

theorem pw_bound {b q : Int} (hb : 0 ≤ b ∧ b ≤ 20) (hq : 0 ≤ q ∧ q ≤ 20) {n t : Nat} (ht : t < n) (hn : n ≤ 8) : 0 ≤ b ^ (t + 1) * q ^ (n - t - 1) ∧ b ^ (t + 1) * q ^ (n - t - 1) ≤ 25600000000 := by
  have h1 := pow_bounds hb.1 hb.2 (t + 1)
  have h2 := pow_bounds hq.1 hq.2 (n - t - 1)
  have h3 : (20 : Int) ^ (t + 1) * 20 ^ (n - t - 1) = 20 ^ n := by
    rw [← Int.pow_add]; congr 1; omega
  have h4 : (20 : Int) ^ n ≤ 25600000000 := by
    have : n = 1 ∨ n = 2 ∨ n = 3 ∨ n = 4 ∨ n = 5 ∨ n = 6 ∨ n = 7 ∨ n = 8 := by omega
    rcases this with rfl | rfl | rfl | rfl | rfl | rfl | rfl | rfl <;> decide
  have h5 := Int.mul_le_mul h1.2 h2.2 h2.1 (Int.le_trans h1.1 h1.2)
  exact ⟨Int.mul_nonneg h1.1 h2.1, by omega⟩

theorem mul_abs {x y M : Int} (hx : -1000 ≤ x ∧ x ≤ 1000) (hy : 0 ≤ y ∧ y ≤ M) : -(1000 * M) ≤ x * y ∧ x * y ≤ 1000 * M := by
  have h1 := Int.mul_le_mul_of_nonneg_right hx.1 hy.1
  have h2 := Int.mul_le_mul_of_nonneg_right hx.2 hy.1
  omega

theorem wAt_bound {xs : List Int} {b q : Int} (hx : ∀ x ∈ xs, -1000 ≤ x ∧ x ≤ 1000) (hb : 0 ≤ b ∧ b ≤ 20) (hq : 0 ≤ q ∧ q ≤ 20) {t : Nat} (ht : t < xs.length) (hn : xs.length ≤ 8) :
    -25600000000000 ≤ wAt xs b q xs.length t ∧ wAt xs b q xs.length t ≤ 25600000000000 := by
  have e : xs.getD t 0 = xs[t] := by simp [List.getD, ht]
  have h1 := hx _ (List.getElem_mem ht)
  rw [← e] at h1
  have h2 := mul_abs h1 (pw_bound hb hq ht hn)
  unfold wAt
  rw [Int.mul_assoc]
  omega

theorem wSum_bound {xs : List Int} {b q : Int} (hx : ∀ x ∈ xs, -1000 ≤ x ∧ x ≤ 1000) (hb : 0 ≤ b ∧ b ≤ 20) (hq : 0 ≤ q ∧ q ≤ 20) (hn : xs.length ≤ 8) :
    ∀ t : Nat, t ≤ xs.length → -(25600000000000 * (t : Int)) ≤ wSum xs b q xs.length t ∧ wSum xs b q xs.length t ≤ 25600000000000 * (t : Int)
  | 0, _ => by simp [wSum]
  | t + 1, h => by
    have h1 := wSum_bound hx hb hq hn t (by omega)
    have h2 := wAt_bound hx hb hq (show t < xs.length by omega) hn
    rw [wSum]
    push_cast
    omega

theorem worth_round {xs : List Int} {b q : Int} (hx : ∀ x ∈ xs, -1000 ≤ x ∧ x ≤ 1000) (hb : 0 ≤ b ∧ b ≤ 20) (hq : 0 ≤ q ∧ q ≤ 20) {t : Nat} (ht : t < xs.length) (hn : xs.length ≤ 8) :
    wrap64 (wSum xs b q xs.length t + wrap64 (wrap64 (xs[t] * b ^ (t + 1)) * q ^ (xs.length - t - 1))) = wSum xs b q xs.length (t + 1) := by
  have e : xs.getD t 0 = xs[t] := by simp [List.getD, ht]
  have h1 := hx _ (List.getElem_mem ht)
  have h2 := wAt_bound hx hb hq ht hn
  have h3 := wSum_bound hx hb hq hn t (by omega)
  have h4 := wSum_bound hx hb hq hn (t + 1) (by omega)
  have h5 := mul_abs h1 (pow_small hb (show t + 1 ≤ 12 by omega))
  rw [wSum] at *
  unfold wAt at *
  rw [e] at *
  have w1 : wrap64 (xs[t] * b ^ (t + 1)) = xs[t] * b ^ (t + 1) := IntWalk.wrap64_in _ (by omega)
  rw [w1]
  have w2 : wrap64 (xs[t] * b ^ (t + 1) * q ^ (xs.length - t - 1)) = xs[t] * b ^ (t + 1) * q ^ (xs.length - t - 1) := IntWalk.wrap64_in _ (by omega)
  rw [w2]
  exact IntWalk.wrap64_in _ (by omega)

set_option maxHeartbeats 3200000 in
theorem worth_spec (v : Value) (xs : List Int) (p b : Int) (w : World) (h : IsInts w v xs) (hx : ∀ x ∈ xs, -1000 ≤ x ∧ x ≤ 1000) (hl : 1 ≤ xs.length ∧ xs.length ≤ 8) (hp : 0 ≤ p ∧ p ≤ 10) (hb : 1 ≤ b ∧ b ≤ 10) :
    Calls Try.prog 71 #[v, .int .i64 p, .int .i64 b] w fun e w' => e = .returned (.int .i64 (worthI xs p b)) ∧ ∃ m, w' = w.drewN m := by
  obtain ⟨a, cap, rfl, hc⟩ := h
  have HS := Lib.hid (wSum_bound hx (show 0 ≤ b ∧ b ≤ 20 by omega) (show 0 ≤ b + p ∧ b + p ≤ 20 by omega) hl.2)
  have HA := Lib.hid (fun t (ht : t < xs.length) => wAt_bound hx (show 0 ≤ b ∧ b ≤ 20 by omega) (show 0 ≤ b + p ∧ b + p ≤ 20 by omega) ht hl.2)
  have HX := Lib.hid hx
  clear hx
  go_enter Try.func71, Try.ntmps71
  go_wp2
  go_loopw [9, 7] (fun i s wr => ∃ t : Nat, t ≤ xs.length ∧ i = .int .i64 t ∧ s = .int .i64 (wSum xs b (b + p) xs.length t) ∧ ∃ m, wr = w.drewN m) (fun i _ _ => xs.length - (intOf i).toNat)
  case atStart => exact ⟨0, Nat.zero_le _, rfl, rfl, 0, by first | rfl | simp⟩
  case round =>
    obtain ⟨t, ht, rfl, rfl, hm⟩ := hrel
    rename World => wr
    by_cases hlt : t < xs.length
    · obtain ⟨bl, off, rfl, hcell0⟩ := hc t hlt
      have k1 : (t : Int) < (xs.length : Int) := by omega
      have hcell : wr.cell? ⟨bl, off + t, none⟩ = some (.int .i64 (xs.getD t 0)) := by
        obtain ⟨m, rfl⟩ := hm
        rw [World.cell?_drewN]; exact hcell0
      have HM := Lib.hid hm
      clear hc hcell0 hm
      have C1 : Hid (∀ q, Calls Try.prog 72 #[.int .i64 b, .int .i64 ((t : Int) + 1)] (wr.drewN q) fun e w' => e = .returned (.int .i64 (b ^ (t + 1))) ∧ ∃ m2, w' = wr.drewN m2) := fun q => (times_spec b (t + 1) _ (by omega) (by omega)).mono (by rintro e w' ⟨rfl, rfl⟩; exact ⟨rfl, q, rfl⟩)
      have C2 : Hid (∀ q, Calls Try.prog 72 #[.int .i64 (b + p), .int .i64 ((xs.length : Int) - t - 1)] (wr.drewN q) fun e w' => e = .returned (.int .i64 ((b + p) ^ (xs.length - t - 1))) ∧ ∃ m2, w' = wr.drewN m2) := by
        intro q
        have e : ((xs.length : Int) - t - 1) = ((xs.length - t - 1 : Nat) : Int) := by omega
        rw [e]
        exact (times_spec (b + p) (xs.length - t - 1) _ (by omega) (by omega)).mono (by rintro e w' ⟨rfl, rfl⟩; exact ⟨rfl, q, rfl⟩)
      have hval := worth_round HX.out (show 0 ≤ b ∧ b ≤ 20 by omega) (show 0 ≤ b + p ∧ b + p ≤ 20 by omega) hlt hl.2
      have HV := Lib.hid hval
      clear hval
      go_wp2
      go_quiet ((go_at_call 72; (first | (with_reducible exact C1.out _) | (with_reducible exact C2.out _))))
      go_wp2
      go_roundw
      case rel => exact ⟨t + 1, by omega, by go_num, congrArg (Value.int .i64) HV.out, by obtain ⟨m, rfl⟩ := HM.out; exact ⟨m + nq, by first | rfl | (rw [World.drewN_drewN])⟩⟩
      case measure => simp [intOf]; omega
    · have hte : t = xs.length := by omega
      subst hte
      go_wp2
      go_ret
      exact ⟨rfl, hm⟩

/-- What WorthOf answers: the upper number, the lower number. -/
def worthU (xs : List Int) (p b : Int) : Int := if vStream xs p b = true then worthI xs p b else 0
def worthL (xs : List Int) (p b : Int) : Int := if vStream xs p b = true then (b + p) ^ xs.length else 0

theorem ret_two {a a' b b' : Int} (h1 : a = a') (h2 : b = b') : Ending.returned (.tuple #[.int .i64 a, .int .i64 b]) = Ending.returned (.tuple #[.int .i64 a', .int .i64 b']) := by rw [h1, h2]

set_option maxHeartbeats 1600000 in
theorem WorthOf_spec (v : Value) (xs : List Int) (p b : Int) (w : World) (h : IsInts w v xs) (hl : xs.length ≤ 1048576) :
    Calls Try.prog 41 #[v, .int .i64 p, .int .i64 b] w fun e w' => e = .returned (.tuple #[.int .i64 (worthU xs p b), .int .i64 (worthL xs p b)]) ∧ ∃ m, w' = w.drewN m := by
  have hv := validStream_spec v xs p b w h hl
  have hh := h
  obtain ⟨a, cap, rfl, hc⟩ := h
  cases h1 : vStream xs p b
  · have E1 : Hid (worthU xs p b = 0) := by show _ = _; rw [worthU, if_neg (by rw [h1]; simp)]
    have E2 : Hid (worthL xs p b = 0) := by show _ = _; rw [worthL, if_neg (by rw [h1]; simp)]
    rw [h1] at hv
    have HV := Lib.hid hv
    clear hv hc hh
    go_enter Try.func41, Try.ntmps41
    go_wp2_with (go_at_call 70; refine HV.out.mono ?_; rintro e w' ⟨rfl, rfl⟩)
    go_ret2
    exact ⟨ret_two E1.out.symm E2.out.symm, 0, rfl⟩
  · have E1 : Hid (worthU xs p b = worthI xs p b) := by show _ = _; rw [worthU, if_pos h1]
    have E2 : Hid (worthL xs p b = (b + p) ^ xs.length) := by show _ = _; rw [worthL, if_pos h1]
    obtain ⟨q1, q2, q3, q4⟩ := vStream_iff.1 h1
    have HW := Lib.hid (worth_spec _ xs p b w hh q1 q2 q3 q4)
    have HT := Lib.hid (fun m => times_spec (b + p) xs.length (w.drewN m) (by omega) (by omega))
    rw [h1] at hv
    have HV := Lib.hid hv
    clear hv hc hh q1
    go_enter Try.func41, Try.ntmps41
    go_wp2_with (first | (go_at_call 70; refine HV.out.mono ?_; rintro e w' ⟨rfl, rfl⟩) | (go_at_call 71; refine HW.out.mono ?_; rintro e w' ⟨rfl, m, rfl⟩) | (go_at_call 72; refine (HT.out _).mono ?_; rintro e w' ⟨rfl, rfl⟩))
    go_ret2
    exact ⟨ret_two E1.out.symm E2.out.symm, m, rfl⟩

/-- What DoublesAfter answers. -/
def dblV (p b : Int) : Int := if inR b 1 10 = true ∧ inR p 1 10 = true then dblF b (b + p) 11 1 else -1

theorem dblF_is {b q : Int} (k : Nat) (h0 : 1 ≤ k) (hk : k ≤ 10) (hn : ¬ q ^ k < 2 * b ^ k) (hl : ∀ j : Nat, 1 ≤ j → j < k → q ^ j < 2 * b ^ j) : dblF b q 11 1 = k := by
  obtain ⟨i1, i2, i3, i4⟩ := dblF_spec b q 11 1 ⟨k, h0, by omega, hn⟩
  generalize dblF b q 11 1 = z at *
  by_cases h1 : k < z
  · exact absurd (i4 k h0 h1) hn
  by_cases h2 : z < k
  · exact absurd (hl z i2 h2) i1
  omega

set_option maxHeartbeats 3200000 in
theorem DoublesAfter_spec (p b : Int) (w : World) :
    Calls Try.prog 45 #[.int .i64 p, .int .i64 b] w fun e w' => e = .returned (.int .i64 (dblV p b)) ∧ w = w' := by
  have HCC := Lib.hid inRange_at
  cases h1 : inR b 1 10
  · have E : Hid (dblV p b = -1) := by show _ = _; rw [dblV, if_neg (by rw [h1]; simp)]
    go_enter Try.func45, Try.ntmps45
    go_wp2_with (go_at_call 59; (with_reducible refine (HCC.out b _ _ _ _ h1).mono ?_); rintro e w' ⟨rfl, rfl⟩)
    go_ret
    exact ⟨ret_int E.out.symm, rfl⟩
  cases h2 : inR p 1 10
  · have E : Hid (dblV p b = -1) := by show _ = _; rw [dblV, if_neg (by rw [h2]; simp)]
    go_enter Try.func45, Try.ntmps45
    go_wp2_with (go_at_call 59; (first | (with_reducible refine (HCC.out b _ _ _ _ h1).mono ?_) | (with_reducible refine (HCC.out p _ _ _ _ h2).mono ?_)); rintro e w' ⟨rfl, rfl⟩)
    go_ret
    exact ⟨ret_int E.out.symm, rfl⟩
  · have E : Hid (dblV p b = dblF b (b + p) 11 1) := by show _ = _; rw [dblV, if_pos ⟨h1, h2⟩]
    have b1 := inR_true h1
    have b2 := inR_true h2
    have HTen := Lib.hid (dbl_ten b1 b2)
    go_enter Try.func45, Try.ntmps45
    go_wp2_with (go_at_call 59; (first | (with_reducible refine (HCC.out b _ _ _ _ h1).mono ?_) | (with_reducible refine (HCC.out p _ _ _ _ h2).mono ?_)); rintro e w' ⟨rfl, rfl⟩)
    go_loopw [5] (fun kv wr => ∃ k : Nat, 1 ≤ k ∧ k ≤ 10 ∧ kv = .int .i64 k ∧ (∀ j : Nat, 1 ≤ j → j < k → (b + p) ^ j < 2 * b ^ j) ∧ w = wr) (fun kv _ => 10 - (intOf kv).toNat)
    case atStart => exact ⟨1, Nat.le_refl _, by omega, rfl, fun j h hj => by omega, rfl⟩
    case round =>
      obtain ⟨k, h0, hk, rfl, hlow, rfl⟩ := hrel
      have HL := Lib.hid hlow
      have HT1 := Lib.hid (times_spec (b + p) k w (by omega) (by omega))
      have HT2 := Lib.hid (times_spec b k w (by omega) (by omega))
      have hq1 := pow_small (show 0 ≤ b + p ∧ b + p ≤ 20 by omega) (show k ≤ 12 by omega)
      have hq2 := pow_small (show 0 ≤ b ∧ b ≤ 20 by omega) (show k ≤ 12 by omega)
      clear hlow
      generalize hX : (b + p) ^ k = X at *
      generalize hY : b ^ k = Y at *
      by_cases hlt : X < 2 * Y
      · go_wp2_with (go_at_call 72; (first | (with_reducible refine HT1.out.mono ?_) | (with_reducible refine HT2.out.mono ?_)); rintro e w' ⟨rfl, rfl⟩)
        have hk9 : k < 10 := by
          rcases Nat.lt_or_ge k 10 with h | h
          · exact h
          · have hk10 : k = 10 := by omega
            rw [hk10] at hX hY
            have := HTen.out
            rw [hX, hY] at this
            omega
        go_roundw
        case rel =>
          refine ⟨k + 1, by omega, by omega, by go_num, fun j h hj => ?_, trivial⟩
          by_cases hjk : j = k
          · rw [hjk, hX, hY]; exact hlt
          · exact HL.out j h (by omega)
        case measure => simp [intOf]; omega
      · go_wp2_with (go_at_call 72; (first | (with_reducible refine HT1.out.mono ?_) | (with_reducible refine HT2.out.mono ?_)); rintro e w' ⟨rfl, rfl⟩)
        go_ret
        refine ⟨ret_int ?_, rfl⟩
        rw [E.out, dblF_is k h0 hk (by rw [hX, hY]; omega) HL.out]

end Go.Proofs.Ytfgafbjofkicdaa
