/- DoublesAfter: the program's contract. -/
import Derived.Test.YtfgafbjofkicdaaBkI
namespace Go.Proofs.Ytfgafbjofkicdaa
open Go.RowKit

theorem dblV_no {p b : Int} (h : p = 0 ∨ canB p b = false) : dblV p b = -1 := by
  rw [dblV, if_neg]
  rintro ⟨h1, h2⟩
  have b2 := inR_true h2
  rcases h with rfl | h
  · omega
  · have h3 : inR p 0 10 = true := decide_eq_true (by omega)
    rw [canB, h1, h3] at h
    cases h

set_option maxHeartbeats 3200000 in
theorem DoublesAfter_impl (p b : Int) (w : World) :
    Calls Try.prog 44 #[.int .i64 p, .int .i64 b] w fun e w' => e = .returned (.int .i64 (dblV p b)) ∧ w = w' := by
  have hcb := canBear_impl p b w
  by_cases hp0 : p = 0
  · have E : Hid (dblV p b = -1) := dblV_no (.inl hp0)
    subst hp0
    clear hcb
    go_enter Try.func44, Try.ntmps44
    go_wp2
    go_ret
    exact ⟨ret_int E.out.symm, rfl⟩
  have hp1 : (p == 0) = false := by simpa using hp0
  cases h2 : canB p b
  · have E : Hid (dblV p b = -1) := dblV_no (.inr h2)
    rw [h2] at hcb
    have HB := Lib.hid hcb
    clear hcb h2 hp0
    go_enter Try.func44, Try.ntmps44
    go_wp2_with (go_at_call 57; refine HB.out.mono ?_; rintro e w' ⟨rfl, rfl⟩)
    go_ret
    exact ⟨ret_int E.out.symm, rfl⟩
  · obtain ⟨i2, i3⟩ := canB_true h2
    have b2 := inR_true i2
    have b3 := inR_true i3
    have i4 : inR p 1 10 = true := decide_eq_true (by omega)
    have E : Hid (dblV p b = dblF b (b + p) 11 1) := by show _ = _; rw [dblV, if_pos ⟨i3, i4⟩]
    have HTen := Lib.hid (dbl_ten b3 (inR_true i4))
    have HX := Lib.hid (fun k (hk : k ≤ 12) => pow_small (show 0 ≤ b + p ∧ b + p ≤ 20 by omega) hk)
    have HY := Lib.hid (fun k (hk : k ≤ 12) => pow_small (show 0 ≤ b ∧ b ≤ 20 by omega) hk)
    rw [h2] at hcb
    have HB := Lib.hid hcb
    clear hcb h2 hp0 i2 i3 i4
    go_enter Try.func44, Try.ntmps44
    go_wp2_with (go_at_call 57; refine HB.out.mono ?_; rintro e w' ⟨rfl, rfl⟩)
    go_loopw [5, 6, 7] (fun uv dv kv wr => ∃ k : Nat, k ≤ 10 ∧ kv = .int .i64 k ∧ uv = .int .i64 ((b + p) ^ k) ∧ dv = .int .i64 (b ^ k) ∧ (∀ j : Nat, 1 ≤ j → j < k → (b + p) ^ j < 2 * b ^ j) ∧ w = wr) (fun _ _ kv _ => 10 - (intOf kv).toNat)
    case atStart => exact ⟨0, by omega, rfl, by rw [Int.pow_zero], by rw [Int.pow_zero], fun j h hj => by omega, rfl⟩
    case round =>
      obtain ⟨k, hk, rfl, rfl, rfl, hlow, rfl⟩ := hrel
      have HL := Lib.hid hlow
      have hq1 := HX.out k (by omega)
      have hq2 := HY.out k (by omega)
      have hq3 := HX.out (k + 1) (by omega)
      have hq4 := HY.out (k + 1) (by omega)
      have e3 : (b + p) ^ (k + 1) = (b + p) ^ k * (b + p) := Int.pow_succ _ _
      have e4 : b ^ (k + 1) = b ^ k * b := Int.pow_succ _ _
      rw [e3] at hq3
      rw [e4] at hq4
      have HE3 := Lib.hid e3
      have HE4 := Lib.hid e4
      clear hlow e3 e4
      generalize hX : (b + p) ^ k = X at *
      generalize hY : b ^ k = Y at *
      have u1 : IntKind.i64.wrap (X * (b + p)) = X * (b + p) := IntWalk.i64_in _ (by omega)
      have u2 : IntKind.i64.wrap (Y * b) = Y * b := IntWalk.i64_in _ (by omega)
      by_cases hlt : X < 2 * Y
      · have hk9 : k < 10 := by
          rcases Nat.lt_or_ge k 10 with h | h
          · exact h
          · have hk10 : k = 10 := by omega
            rw [hk10] at hX hY
            have := HTen.out
            rw [hX, hY] at this
            omega
        clear hq3 hq4
        go_wp2
        go_roundw
        case rel =>
          refine ⟨k + 1, by omega, by go_num, by rw [HE3.out], by rw [HE4.out], fun j h hj => ?_, trivial⟩
          by_cases hjk : j = k
          · rw [hjk, hX, hY]; exact hlt
          · exact HL.out j h (by omega)
        case measure => simp [intOf]; omega
      · have hk0 : 1 ≤ k := by
          rcases Nat.eq_zero_or_pos k with h | h
          · subst h
            rw [Int.pow_zero] at hX hY
            omega
          · exact h
        clear hq3 hq4
        go_wp2
        go_ret
        refine ⟨ret_int ?_, rfl⟩
        rw [E.out, dblF_is k hk0 hk (by rw [hX, hY]; omega) HL.out]

end Go.Proofs.Ytfgafbjofkicdaa
