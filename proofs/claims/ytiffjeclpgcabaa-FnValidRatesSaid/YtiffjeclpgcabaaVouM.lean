/- Sets of vouchers: the plain mathematics. -/
import Derived.Test.YtiffjeclpgcabaaOffV
namespace Go.Proofs.Ytiffjeclpgcabaa
open Go.RowKit

/-- Is the voucher j in the set s? -/
def bitN (s j : Nat) : Nat := s / 2 ^ j % 2

/-- The sum of the first vouchers that are in the set. -/
def sumV (xs : List Int) (s : Nat) : Nat → Int
  | 0 => 0
  | k + 1 => sumV xs s k + (if bitN s k = 1 then xs.getD k 0 else 0)
/-- How many of the first vouchers are in the set. -/
def cntV (s : Nat) : Nat → Nat
  | 0 => 0
  | k + 1 => cntV s k + (if bitN s k = 1 then 1 else 0)
/-- The best set of those below s, and its sum. -/
def vouK (xs : List Int) (p : Int) : Nat → Nat × Int
  | 0 => (0, 0)
  | s + 1 => if sumV xs s xs.length ≤ p ∧ ((vouK xs p s).2 < sumV xs s xs.length ∨ sumV xs s xs.length = (vouK xs p s).2 ∧ cntV s xs.length < cntV (vouK xs p s).1 xs.length) then (s, sumV xs s xs.length) else vouK xs p s
/-- What UseVouchers answers. -/
def vouV (p : Int) (xs : List Int) : Int × Int := if (vListB 1 200 8 xs && inR p 0 100000) = true then (((vouK xs p (2 ^ xs.length)).1 : Int), (vouK xs p (2 ^ xs.length)).2) else (-1, -1)

theorem bit8_01 (s i : Nat) : bitN s i = 0 ∨ bitN s i = 1 := by unfold bitN; omega

theorem pow_le8 {n : Nat} (h : n ≤ 8) : 1 ≤ 2 ^ n ∧ 2 ^ n ≤ 256 := by
  have : n = 0 ∨ n = 1 ∨ n = 2 ∨ n = 3 ∨ n = 4 ∨ n = 5 ∨ n = 6 ∨ n = 7 ∨ n = 8 := by omega
  rcases this with rfl | rfl | rfl | rfl | rfl | rfl | rfl | rfl | rfl <;> decide

theorem bit_add8_fin : ∀ s : Fin 256, ∀ c : Fin 8, bitN s.val c.val = 0 → ∀ j : Fin 8, bitN (s.val + 2 ^ c.val) j.val = if j.val = c.val then 1 else bitN s.val j.val := by decide +kernel
theorem bit_low8_fin : ∀ n : Fin 9, ∀ s : Fin 256, s.val < 2 ^ n.val → ∀ c : Fin 8, c.val < n.val → bitN s.val c.val = 0 → s.val + 2 ^ c.val < 2 ^ n.val := by decide +kernel

theorem sumV_zero (xs : List Int) : ∀ k, sumV xs 0 k = 0 := by
  intro k
  induction k with
  | zero => rfl
  | succ k ih => rw [sumV, ih]; simp [bitN]
theorem cntV_zero : ∀ k, cntV 0 k = 0 := by
  intro k
  induction k with
  | zero => rfl
  | succ k ih => rw [cntV, ih]; simp [bitN]
theorem cntV_le (s : Nat) : ∀ k, cntV s k ≤ k := by
  intro k
  induction k with
  | zero => exact Nat.le_refl _
  | succ k ih => rw [cntV]; split <;> omega

theorem sumV_bd {xs : List Int} (h : vListB 1 200 8 xs = true) (s : Nat) : ∀ k, k ≤ xs.length → 0 ≤ sumV xs s k ∧ sumV xs s k ≤ 200 * k := by
  obtain ⟨hx, _⟩ := vListB_iff.1 h
  intro k
  induction k with
  | zero => intro _; exact ⟨Int.le_refl _, by simp [sumV]⟩
  | succ k ih =>
    intro hk
    have i0 := ih (by omega)
    have := hx (xs.getD k 0) (by rw [getD_is (show k < xs.length by omega)]; exact List.getElem_mem _)
    rw [sumV]
    split <;> omega

theorem sumV_add {xs : List Int} {s c : Nat} (hs : s < 256) (hc : c < 8) (hb : bitN s c = 0) : ∀ k, k ≤ 8 → sumV xs (s + 2 ^ c) k = sumV xs s k + if c < k then xs.getD c 0 else 0 := by
  intro k
  induction k with
  | zero => intro _; simp [sumV]
  | succ k ih =>
    intro hk
    have h := bit_add8_fin ⟨s, hs⟩ ⟨c, hc⟩ hb ⟨k, by omega⟩
    simp only at h
    rw [sumV, sumV, ih (by omega), h]
    by_cases e : k = c
    · subst e
      simp [hb]
    · rw [if_neg e]
      by_cases e2 : c < k
      · rw [if_pos e2, if_pos (show c < k + 1 by omega)]; omega
      · rw [if_neg e2, if_neg (show ¬ c < k + 1 by omega)]; omega

/-- What stands of the best set. -/
theorem vouK_facts {xs : List Int} {p : Int} (hp : 0 ≤ p) : ∀ s, (vouK xs p s).2 = sumV xs (vouK xs p s).1 xs.length ∧ (vouK xs p s).2 ≤ p ∧ ((vouK xs p s).1 = 0 ∨ (vouK xs p s).1 < s) ∧ ∀ t, t < s → sumV xs t xs.length ≤ p → sumV xs t xs.length ≤ (vouK xs p s).2 := by
  intro s
  induction s with
  | zero => exact ⟨by simp [vouK, sumV_zero], by simpa [vouK] using hp, .inl rfl, fun t ht => by omega⟩
  | succ s ih =>
    obtain ⟨i1, i2, i3, i4⟩ := ih
    rw [vouK]
    split
    · rename_i hc
      refine ⟨rfl, hc.1, .inr (Nat.lt_succ_self _), fun t ht htp => ?_⟩
      show sumV xs t xs.length ≤ sumV xs s xs.length
      by_cases e : t = s
      · subst e; exact Int.le_refl _
      · have := i4 t (by omega) htp
        rcases hc.2 with h | h <;> omega
    · rename_i hc
      refine ⟨i1, i2, by omega, fun t ht htp => ?_⟩
      by_cases e : t = s
      · subst e
        refine Int.not_lt.1 (fun hlt => hc ⟨htp, .inl hlt⟩)
      · exact i4 t (by omega) htp

/-- With any other voucher more it is too much. -/
theorem vou_more {xs : List Int} (h : vListB 1 200 8 xs = true) {p : Int} (hp : 0 ≤ p) {i : Nat} (hi : i < xs.length) (hb : bitN (vouK xs p (2 ^ xs.length)).1 i = 0) : p < (vouK xs p (2 ^ xs.length)).2 + xs.getD i 0 := by
  obtain ⟨hx, hl⟩ := vListB_iff.1 h
  have hl8 : xs.length ≤ 8 := by omega
  obtain ⟨i1, i2, i3, i4⟩ := vouK_facts hp (2 ^ xs.length)
  have hp8 := pow_le8 hl8
  generalize hb0 : (vouK xs p (2 ^ xs.length)).1 = b at *
  have hbl : b < 2 ^ xs.length := by omega
  have hx0 := hx (xs.getD i 0) (by rw [getD_is hi]; exact List.getElem_mem _)
  have hlt := bit_low8_fin ⟨xs.length, by omega⟩ ⟨b, by omega⟩ hbl ⟨i, by omega⟩ hi hb
  have hs := sumV_add (xs := xs) (show b < 256 by omega) (show i < 8 by omega) hb xs.length hl8
  rw [if_pos hi] at hs
  refine Int.not_le.1 (fun hle => ?_)
  have := i4 (b + 2 ^ i) hlt (by rw [hs, ← i1]; exact hle)
  rw [hs, ← i1] at this
  omega

set_option maxHeartbeats 800000 in
theorem power8_spec (n : Nat) (w : World) (hn : n ≤ 8) :
    Calls Try.prog 65 #[.int .i64 n] w fun e w' => e = .returned (.int .i64 ((2 ^ n : Nat) : Int)) ∧ w = w' := by
  go_enter Try.func65, Try.ntmps65
  go_wp2
  go_loop [0, 3] (fun s p => ∃ k q : Nat, k ≤ n ∧ s = .int .i64 ((n - k : Nat) : Int) ∧ p = .int .i64 (q : Int) ∧ q = 2 ^ k) (fun s _ => (intOf s).toNat)
  case atStart => exact ⟨0, 1, Nat.zero_le _, rfl, rfl, rfl⟩
  case round =>
    obtain ⟨k, q, hk, rfl, rfl, hq⟩ := hrel
    have hb := pow_le8 (show k ≤ 8 by omega)
    rw [← hq] at hb
    have HQ := Lib.hid hq
    clear hq
    by_cases hlt : k < n
    · have h1 : (0 : Int) < ((n - k : Nat) : Int) := by omega
      have h2 : ((n - k : Nat) : Int) - 1 = ((n - (k + 1) : Nat) : Int) := by omega
      have HN := Lib.hid h2
      clear h2
      generalize hm : ((n - k : Nat) : Int) = m at *
      have hm6 : m ≤ 8 := by omega
      go_wp2
      go_round
      case rel => exact ⟨k + 1, 2 * q, by omega, by rw [← HN.out], by go_num, by rw [HQ.out, Nat.pow_succ, Nat.mul_comm]⟩
      case measure => simp [intOf]; omega
    · have hke : k = n := by omega
      have h1 : ¬ (0 : Int) < ((n - k : Nat) : Int) := by omega
      generalize hm : ((n - k : Nat) : Int) = m at *
      go_wp2
      go_ret
      exact ⟨ret_int (by have h := HQ.out; rw [hke] at h; rw [h]; try simp), rfl⟩

set_option maxHeartbeats 800000 in
theorem bit8_spec (s j : Nat) (w : World) (hj : j ≤ 8) (hs : s ≤ 256) :
    Calls Try.prog 79 #[.int .i64 s, .int .i64 j] w fun e w' => e = .returned (.int .i64 ((bitN s j : Nat) : Int)) ∧ w = w' := by
  have hb := pow_le8 hj
  have H := Lib.hid (power8_spec j w hj)
  go_enter Try.func79, Try.ntmps79
  go_wp2_with fail
  refine H.out.mono ?_
  rintro e w' ⟨rfl, rfl⟩
  have he : ((bitN s j : Nat) : Int) = (s : Int) / ((2 ^ j : Nat) : Int) % 2 := by unfold bitN; simp
  have HE := Lib.hid he
  clear he
  generalize 2 ^ j = p at *
  have hd0 : 0 ≤ (s : Int) / (p : Int) := Int.ediv_nonneg (by omega) (by omega)
  have hd1 : (s : Int) / (p : Int) ≤ s := Int.ediv_le_self _ (by omega)
  have hp : (p : Int) ≠ 0 := by omega
  go_wp2
  go_ret
  exact ⟨ret_int (by rw [HE.out]), rfl⟩

end Go.Proofs.Ytiffjeclpgcabaa
