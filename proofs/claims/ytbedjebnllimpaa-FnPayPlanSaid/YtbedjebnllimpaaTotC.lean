/- Numbers added, and those that are not 0 counted, by the laws. -/
import Derived.Test.YtbedjebnllimpaaPlanM
namespace Go.Proofs.Ytbedjebnllimpaa
open Go.RowKit

set_option maxHeartbeats 400000 in
theorem total_any (v : Value) (xs : List Int) (w : World) (hv : IsInts w v xs) (hl : xs.length ≤ 9223372036854775807) (hs : SumFits xs) :
    Calls Try.prog 27 #[v] w fun e w' => e = .returned (.int .i64 (tot xs)) ∧ w = w' := by
  obtain ⟨a, cap, rfl, hc⟩ := hv
  go_enter Try.func27, Try.ntmps27
  go_wp2
  go_loop [3, 4] (fun t i => ∃ k : Nat, k ≤ xs.length ∧ i = .int .i64 k ∧ t = .int .i64 (tot (xs.take k))) (fun _ i => xs.length - (intOf i).toNat)
  case atStart => exact ⟨0, Nat.zero_le _, rfl, rfl⟩
  case round =>
    obtain ⟨k, hk, rfl, rfl⟩ := hrel
    by_cases hlt : k < xs.length
    · obtain ⟨b, off, rfl, hcell⟩ := hc k hlt
      have hsk := tot_take_succ xs k hlt
      have h1 := hs (k + 1)
      have h0 := hs k
      rw [hsk] at h1
      have HS := Lib.hid hsk
      clear hsk
      go_wp2
      go_round
      case rel => exact ⟨k + 1, by omega, by go_num, by rw [HS.out]⟩
      case measure => simp [intOf]; omega
    · go_wp2
      go_ret
      exact ⟨ret_int (by rw [List.take_of_length_le (by omega)]), rfl⟩

set_option maxHeartbeats 400000 in
theorem others_any (v : Value) (xs : List Int) (w : World) (hv : IsInts w v xs) (hl : xs.length ≤ 1048576) :
    Calls Try.prog 36 #[v] w fun e w' => e = .returned (.int .i64 (kC xs xs.length)) ∧ w = w' := by
  obtain ⟨a, cap, rfl, hc⟩ := hv
  go_enter Try.func36, Try.ntmps36
  go_wp2
  go_loop [3, 4] (fun t i => ∃ k : Nat, k ≤ xs.length ∧ i = .int .i64 k ∧ t = .int .i64 (kC xs k)) (fun _ i => xs.length - (intOf i).toNat)
  case atStart => exact ⟨0, Nat.zero_le _, rfl, rfl⟩
  case round =>
    obtain ⟨k, hk, rfl, rfl⟩ := hrel
    by_cases hlt : k < xs.length
    · obtain ⟨b, off, rfl, hcell⟩ := hc k hlt
      have hkb := kC_nonneg xs k
      have hkc : kC xs (k + 1) = kC xs k + if xs.getD k 0 = 0 then 0 else 1 := rfl
      have HK := Lib.hid hkc
      clear hkc hc
      generalize xs.getD k 0 = x at *
      by_cases hx : x = 0
      · have hxx : (x != 0) = false := by simp [hx]
        have HR : Hid (kC xs (k + 1) = kC xs k) := by show _ = _; rw [HK.out, if_pos hx, Int.add_zero]
        clear hx
        go_wp2
        go_round
        case rel => exact ⟨k + 1, by omega, by go_num, by rw [HR.out]⟩
        case measure => simp [intOf]; omega
      · have hxx : (x != 0) = true := by simp [hx]
        have HR : Hid (kC xs (k + 1) = kC xs k + 1) := by show _ = _; rw [HK.out, if_neg hx]
        clear hx
        go_wp2
        go_round
        case rel => exact ⟨k + 1, by omega, by go_num, by rw [HR.out]⟩
        case measure => simp [intOf]; omega
    · have hke : k = xs.length := by omega
      subst hke
      go_wp2
      go_ret
      exact ⟨rfl, rfl⟩

end Go.Proofs.Ytbedjebnllimpaa
