/- Sets of friends as bits, in the model. -/
import Derived.Test.YtbedjebnllimpaaSM
import Derived.Test.YtbedjebnllimpaaWorld
namespace Go.Proofs.Ytbedjebnllimpaa
open Go.RowKit

/-- Is the friend j in the set s? -/
def bitN (s j : Nat) : Nat := s / 2 ^ j % 2

theorem pow_le6 {n : Nat} (h : n ≤ 6) : 1 ≤ 2 ^ n ∧ 2 ^ n ≤ 64 := by
  have : n = 0 ∨ n = 1 ∨ n = 2 ∨ n = 3 ∨ n = 4 ∨ n = 5 ∨ n = 6 := by omega
  rcases this with rfl | rfl | rfl | rfl | rfl | rfl | rfl <;> decide

set_option maxHeartbeats 800000 in
theorem power_spec (n : Nat) (w : World) (hn : n ≤ 6) :
    Calls Try.prog 97 #[.int .i64 n] w fun e w' => e = .returned (.int .i64 ((2 ^ n : Nat) : Int)) ∧ w = w' := by
  go_enter Try.func97, Try.ntmps97
  go_wp2
  go_loop [0, 3] (fun s p => ∃ k q : Nat, k ≤ n ∧ s = .int .i64 ((n - k : Nat) : Int) ∧ p = .int .i64 (q : Int) ∧ q = 2 ^ k) (fun s _ => (intOf s).toNat)
  case atStart => exact ⟨0, 1, Nat.zero_le _, rfl, rfl, rfl⟩
  case round =>
    obtain ⟨k, q, hk, rfl, rfl, hq⟩ := hrel
    have hb := pow_le6 (show k ≤ 6 by omega)
    rw [← hq] at hb
    have HQ := Lib.hid hq
    clear hq
    by_cases hlt : k < n
    · have h1 : (0 : Int) < ((n - k : Nat) : Int) := by omega
      have h2 : ((n - k : Nat) : Int) - 1 = ((n - (k + 1) : Nat) : Int) := by omega
      have HN := Lib.hid h2
      clear h2
      generalize hm : ((n - k : Nat) : Int) = m at *
      have hm6 : m ≤ 6 := by omega
      go_wp2
      go_round
      case rel => exact ⟨k + 1, 2 * q, by omega, by rw [← HN.out], by go_num, by rw [HQ.out, Nat.pow_succ, Nat.mul_comm]⟩
      case measure => simp [intOf]; omega
    · have hke : k = n := by omega
      have h1 : ¬ (0 : Int) < ((n - k : Nat) : Int) := by omega
      generalize hm : ((n - k : Nat) : Int) = m at *
      go_wp2
      go_ret
      exact ⟨ret_int (by have h := HQ.out; rw [hke] at h; rw [h]; try simp), rfl⟩

set_option maxHeartbeats 800000 in
theorem bit_spec (s j : Nat) (w : World) (hj : j ≤ 6) (hs : s ≤ 64) :
    Calls Try.prog 98 #[.int .i64 s, .int .i64 j] w fun e w' => e = .returned (.int .i64 ((bitN s j : Nat) : Int)) ∧ w = w' := by
  have hb := pow_le6 hj
  have H := Lib.hid (power_spec j w hj)
  go_enter Try.func98, Try.ntmps98
  go_wp2_with fail
  refine H.out.mono ?_
  rintro e w' ⟨rfl, rfl⟩
  have he : ((bitN s j : Nat) : Int) = (s : Int) / ((2 ^ j : Nat) : Int) % 2 := by unfold bitN; simp
  have HE := Lib.hid he
  clear he
  generalize 2 ^ j = p at *
  have hd0 : 0 ≤ (s : Int) / (p : Int) := Int.ediv_nonneg (by omega) (by omega)
  have hd1 : (s : Int) / (p : Int) ≤ s := Int.ediv_le_self _ (by omega)
  have hp : (p : Int) ≠ 0 := by omega
  go_wp2
  go_ret
  exact ⟨ret_int (by rw [HE.out]), rfl⟩

end Go.Proofs.Ytbedjebnllimpaa
