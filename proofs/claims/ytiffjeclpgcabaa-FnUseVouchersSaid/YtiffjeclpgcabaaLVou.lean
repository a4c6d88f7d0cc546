/- The law FnUseVouchers: the walk. -/
import Derived.Test.YtiffjeclpgcabaaVouI
import Derived.Test.YtiffjeclpgcabaaDrawC
namespace Go.Proofs.Ytiffjeclpgcabaa
open Go.RowKit

set_option maxHeartbeats 800000 in
theorem power8_law (n : Nat) (w : World) (hn : n ≤ 8) :
    Calls Try.prog 80 #[.int .i64 n] w fun e w' => e = .returned (.int .i64 ((2 ^ n : Nat) : Int)) ∧ w = w' := by
  go_enter Try.func80, Try.ntmps80
  go_wp2
  go_loop [0, 3] (fun s p => ∃ k q : Nat, k ≤ n ∧ s = .int .i64 ((n - k : Nat) : Int) ∧ p = .int .i64 (q : Int) ∧ q = 2 ^ k) (fun s _ => (intOf s).toNat)
  case atStart => exact ⟨0, 1, Nat.zero_le _, rfl, rfl, rfl⟩
  case round =>
    obtain ⟨k, q, hk, rfl, rfl, hq⟩ := hrel
    have hb := pow_le8 (show k ≤ 8 by omega)
    rw [← hq] at hb
    have HQ := Lib.hid hq
    clear hq
    by_cases hlt : k < n
    · have h1 : (0 : Int) < ((n - k : Nat) : Int) := by omega
      have h2 : ((n - k : Nat) : Int) - 1 = ((n - (k + 1) : Nat) : Int) := by omega
      have HN := Lib.hid h2
      clear h2
      generalize hm : ((n - k : Nat) : Int) = m at *
      have hm6 : m ≤ 8 := by omega
      go_wp2
      go_round
      case rel => exact ⟨k + 1, 2 * q, by omega, by rw [← HN.out], by go_num, by rw [HQ.out, Nat.pow_succ, Nat.mul_comm]⟩
      case measure => simp [intOf]; omega
    · have hke : k = n := by omega
      have h1 : ¬ (0 : Int) < ((n - k : Nat) : Int) := by omega
      generalize hm : ((n - k : Nat) : Int) = m at *
      go_wp2
      go_ret
      exact ⟨ret_int (by have h := HQ.out; rw [hke] at h; rw [h]; try simp), rfl⟩

set_option maxHeartbeats 800000 in
theorem bit8_law (s j : Nat) (w : World) (hj : j ≤ 8) (hs : s ≤ 256) :
    Calls Try.prog 42 #[.int .i64 s, .int .i64 j] w fun e w' => e = .returned (.int .i64 ((bitN s j : Nat) : Int)) ∧ w = w' := by
  have hb := pow_le8 hj
  have H := Lib.hid (power8_law j w hj)
  go_enter Try.func42, Try.ntmps42
  go_wp2_with fail
  refine H.out.mono ?_
  rintro e w' ⟨rfl, rfl⟩
  have he : ((bitN s j : Nat) : Int) = (s : Int) / ((2 ^ j : Nat) : Int) % 2 := by unfold bitN; simp
  have HE := Lib.hid he
  clear he
  generalize 2 ^ j = p at *
  have hd0 : 0 ≤ (s : Int) / (p : Int) := Int.ediv_nonneg (by omega) (by omega)
  have hd1 : (s : Int) / (p : Int) ≤ s := Int.ediv_le_self _ (by omega)
  have hp : (p : Int) ≠ 0 := by omega
  go_wp2
  go_ret
  exact ⟨ret_int (by rw [HE.out]), rfl⟩

set_option maxRecDepth 100000 in
set_option maxHeartbeats 3200000 in
theorem FnUseVouchers_walk (a : Option Addr) (n cap : Nat) (w : World) (h : IsBytes w a n) (hc : n ≤ cap) :
    Calls Try.prog 9 #[.slice a n cap] w fun e w' => e = .returned (.bool true) ∧ Below w.heap.size w w' := by
  by_cases hbig : (1048576 : Int) < (n : Int)
  · go_enter Try.func9, Try.ntmps9
    go_wp2
    go_ret
    exact ⟨rfl, Below.refl _ _⟩
  go_enter Try.func9, Try.ntmps9
  go_wp2_with fail
  refine (DrawUseVouchers_any a n cap _ h hc).mono ?_
  rintro e w1 ⟨v, xs, p, rfl, o1, hl9, hp9, b1⟩
  have hl : xs.length ≤ 9223372036854775807 := by omega
  clear h
  go_wp2_with fail
  refine (UseVouchers_impl _ xs p _ o1.ints hl).mono ?_
  rintro e w2 ⟨rfl, d2⟩
  have b2 := b1.trans (d2.mono b1.size)
  have o2 := o1.below d2
  clear o1 b1 d2
  go_wp2_with fail
  refine (UseVouchers_spec _ xs p _ o2.ints hl).mono ?_
  rintro e w3 ⟨rfl, d3⟩
  have b3 := b2.trans (d3.mono b2.size)
  have o3 := o2.below d3
  clear o2 b2 d3
  cases hv : (vListB 1 200 8 xs && inR p 0 100000)
  · have e1 : vouV p xs = (-1, -1) := by unfold vouV; rw [hv]; rfl
    rw [e1]
    clear e1
    go_wp2
    go_ret
    exact ⟨rfl, b3⟩
  have e1 : vouV p xs = (((vouK xs p (2 ^ xs.length)).1 : Int), (vouK xs p (2 ^ xs.length)).2) := by unfold vouV; rw [hv]; rfl
  rw [Bool.and_eq_true] at hv
  obtain ⟨hv1, hv2⟩ := hv
  have hp := inR_true hv2
  obtain ⟨hx, hl8⟩ := vListB_iff.1 hv1
  have hl8' : xs.length ≤ 8 := by omega
  have hpw := pow_le8 hl8'
  have HX := Lib.hid hx
  have hfa := vouK_facts (xs := xs) hp.1 (2 ^ xs.length)
  have HMO : Hid (∀ i, i < xs.length → bitN (vouK xs p (2 ^ xs.length)).1 i = 0 → p < (vouK xs p (2 ^ xs.length)).2 + xs.getD i 0) := fun i hi hb => vou_more hv1 hp.1 hi hb
  have HSB : Hid (∀ s k, k ≤ xs.length → 0 ≤ sumV xs s k ∧ sumV xs s k ≤ 200 * k) := fun s k hk => sumV_bd hv1 s k hk
  rw [e1]
  clear e1 hx hv1 hv2
  dsimp only
  generalize vouK xs p (2 ^ xs.length) = BM at *
  obtain ⟨b, m⟩ := BM
  simp only at *
  obtain ⟨f1, f2, f3, _⟩ := hfa
  have b256 : b ≤ 256 := by omega
  have hm0 := HSB.out b xs.length (Nat.le_refl _)
  rw [← f1] at hm0
  have HF1 := Lib.hid f1
  clear f1 f3 hpw
  have hne1 : ((b : Int) != (b : Int)) = false := by simp
  have hne2 : (m != m) = false := by simp
  have hb0 : ¬ ((b : Int) < 0) := by omega
  obtain ⟨av, cv, rfl, hcv⟩ := o3.ints
  clear o3
  go_wp2
  go_loopw [9, 10] (fun tv iv wr => ∃ i : Nat, i ≤ xs.length ∧ iv = .int .i64 i ∧ tv = .int .i64 (sumV xs b i) ∧ wr = w3) (fun _ iv _ => xs.length - (intOf iv).toNat)
  case atStart => exact ⟨0, Nat.zero_le _, rfl, rfl, rfl⟩
  case round =>
    obtain ⟨i, hi, rfl, rfl, rfl⟩ := hrel
    by_cases hil : i < xs.length
    · obtain ⟨bb, off, rfl, hcell⟩ := hcv i hil
      have i1 : (i : Int) < (xs.length : Int) := by omega
      have hz := HX.out (xs.getD i 0) (by rw [getD_is hil]; exact List.getElem_mem _)
      have hs0 := HSB.out b i (by omega)
      have HBS := Lib.hid (fun wy => bit8_law b i wy (by omega) b256)
      have HS1 : Hid (sumV xs b (i + 1) = sumV xs b i + (if bitN b i = 1 then xs.getD i 0 else 0)) := rfl
      have HMI := Lib.hid (HMO.out i hil)
      clear hcv
      generalize xs.getD i 0 = z at *
      generalize sumV xs b i = t at *
      rcases bit8_01 b i with hb | hb
      · have hm := HMI.out hb
        rw [hb] at HBS HS1
        have hn : ¬ m + z ≤ p := by omega
        go_wp2_with (go_at_call 42; refine (HBS.out _).mono ?_; rintro e w' ⟨rfl, rfl⟩)
        go_roundw
        case rel => exact ⟨i + 1, by omega, by go_num, by rw [HS1.out]; simp, trivial⟩
        case measure => simp [intOf]; omega
      · rw [hb] at HBS HS1
        go_wp2_with (go_at_call 42; refine (HBS.out _).mono ?_; rintro e w' ⟨rfl, rfl⟩)
        go_roundw
        case rel => exact ⟨i + 1, by omega, by go_num, by rw [HS1.out]; simp, trivial⟩
        case measure => simp [intOf]; omega
    · obtain rfl : i = xs.length := by omega
      rw [← HF1.out]
      go_wp2
      go_ret
      exact ⟨rfl, b3⟩

end Go.Proofs.Ytiffjeclpgcabaa
