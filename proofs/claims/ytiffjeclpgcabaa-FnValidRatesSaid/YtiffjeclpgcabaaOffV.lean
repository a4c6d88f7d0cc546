/- Discounts and vouchers, in the model; the price after discounts. -/
import Derived.Test.YtiffjeclpgcabaaNum
import Derived.Test.YtiffjeclpgcabaaWorld
import Derived.IntWalk
namespace Go.Proofs.Ytiffjeclpgcabaa
open Go.RowKit

/-- All numbers are from lo up to hi. -/
def allQ (xs : List Int) (lo hi : Int) : Bool := xs.all fun x => inR x lo hi

theorem allQ_true {xs : List Int} {lo hi : Int} (h : allQ xs lo hi = true) : ∀ x ∈ xs, lo ≤ x ∧ x ≤ hi := by
  intro x hx
  exact inR_true (List.all_eq_true.1 h x hx)

theorem allQ_take_succ (xs : List Int) (lo hi : Int) (k : Nat) (h : k < xs.length) : allQ (xs.take (k + 1)) lo hi = (allQ (xs.take k) lo hi && inR xs[k] lo hi) := by
  unfold allQ
  rw [List.take_succ_eq_append_getElem h, List.all_append]
  simp

theorem allQ_false_of (xs : List Int) (lo hi : Int) (k : Nat) (h : k < xs.length) (hf : inR xs[k] lo hi = false) : allQ xs lo hi = false := by
  unfold allQ
  rw [List.all_eq_false]
  exact ⟨xs[k], List.getElem_mem h, by simp [hf]⟩

/-- So many numbers at most, each of a range. -/
def vListB (lo hi m : Int) (xs : List Int) : Bool := allQ xs lo hi && decide ((xs.length : Int) ≤ m)

theorem vListB_iff {lo hi m : Int} {xs : List Int} : vListB lo hi m xs = true ↔ (∀ x ∈ xs, lo ≤ x ∧ x ≤ hi) ∧ (xs.length : Int) ≤ m := by
  unfold vListB
  rw [Bool.and_eq_true, decide_eq_true_iff]
  refine ⟨fun h => ⟨allQ_true h.1, h.2⟩, fun h => ⟨?_, h.2⟩⟩
  unfold allQ
  rw [List.all_eq_true]
  exact fun x hx => by unfold inR; exact decide_eq_true (h.1 x hx)

theorem getD_is {xs : List Int} {k : Nat} (h : k < xs.length) : xs.getD k 0 = xs[k] := by simp [List.getD, h]

set_option maxHeartbeats 400000 in
theorem validOffs_spec (v : Value) (xs : List Int) (w : World) (hv : IsInts w v xs) (hl : xs.length ≤ 9223372036854775807) :
    Calls Try.prog 75 #[v] w fun e w' => e = .returned (.bool (vListB 0 100 4 xs)) ∧ w = w' := by
  obtain ⟨a, cap, rfl, hc⟩ := hv
  go_enter Try.func75, Try.ntmps75
  go_wp2
  go_loop [3] (fun i => ∃ k : Nat, k ≤ xs.length ∧ i = .int .i64 k ∧ allQ (xs.take k) 0 100 = true) (fun i => xs.length - (intOf i).toNat)
  case atStart => exact ⟨0, Nat.zero_le _, rfl, rfl⟩
  case round =>
    obtain ⟨k, hk, rfl, hall⟩ := hrel
    have HA := Lib.hid hall
    clear hall
    by_cases hlt : k < xs.length
    · obtain ⟨b, off, rfl, hcell⟩ := hc k hlt
      have HK := Lib.hid (allQ_take_succ xs 0 100 k hlt)
      cases hr : inR xs[k] 0 100
      · go_wp2_with (go_at_call 63; refine (inRange_spec _ _ _ _).mono ?_; rintro e w' ⟨rfl, rfl⟩)
        go_ret
        exact ⟨ret_bool (by rw [vListB, allQ_false_of xs 0 100 k hlt hr]; simp), rfl⟩
      · go_wp2_with (go_at_call 63; refine (inRange_spec _ _ _ _).mono ?_; rintro e w' ⟨rfl, rfl⟩)
        go_round
        case rel => exact ⟨k + 1, by omega, by go_num, by rw [HK.out, HA.out, hr]; rfl⟩
        case measure => simp [intOf]; omega
    · have hall : allQ xs 0 100 = true := by rw [← HA.out, List.take_of_length_le (by omega)]
      have HB := Lib.hid hall
      clear hall
      go_wp2
      go_ret
      exact ⟨ret_bool (by rw [vListB, HB.out]; rfl), rfl⟩

set_option maxHeartbeats 400000 in
theorem validVouchers_spec (v : Value) (xs : List Int) (w : World) (hv : IsInts w v xs) (hl : xs.length ≤ 9223372036854775807) :
    Calls Try.prog 78 #[v] w fun e w' => e = .returned (.bool (vListB 1 200 8 xs)) ∧ w = w' := by
  obtain ⟨a, cap, rfl, hc⟩ := hv
  go_enter Try.func78, Try.ntmps78
  go_wp2
  go_loop [3] (fun i => ∃ k : Nat, k ≤ xs.length ∧ i = .int .i64 k ∧ allQ (xs.take k) 1 200 = true) (fun i => xs.length - (intOf i).toNat)
  case atStart => exact ⟨0, Nat.zero_le _, rfl, rfl⟩
  case round =>
    obtain ⟨k, hk, rfl, hall⟩ := hrel
    have HA := Lib.hid hall
    clear hall
    by_cases hlt : k < xs.length
    · obtain ⟨b, off, rfl, hcell⟩ := hc k hlt
      have HK := Lib.hid (allQ_take_succ xs 1 200 k hlt)
      cases hr : inR xs[k] 1 200
      · go_wp2_with (go_at_call 63; refine (inRange_spec _ _ _ _).mono ?_; rintro e w' ⟨rfl, rfl⟩)
        go_ret
        exact ⟨ret_bool (by rw [vListB, allQ_false_of xs 1 200 k hlt hr]; simp), rfl⟩
      · go_wp2_with (go_at_call 63; refine (inRange_spec _ _ _ _).mono ?_; rintro e w' ⟨rfl, rfl⟩)
        go_round
        case rel => exact ⟨k + 1, by omega, by go_num, by rw [HK.out, HA.out, hr]; rfl⟩
        case measure => simp [intOf]; omega
    · have hall : allQ xs 1 200 = true := by rw [← HA.out, List.take_of_length_le (by omega)]
      have HB := Lib.hid hall
      clear hall
      go_wp2
      go_ret
      exact ⟨ret_bool (by rw [vListB, HB.out]; rfl), rfl⟩

/-- The price after discounts, rounded each time. -/
def nowF (xs : List Int) (p : Int) : Int := xs.foldl (fun x o => (2 * x * (100 - o) + 100) / 200) p
/-- The price after discounts, exactly. -/
def exF (xs : List Int) (p : Int) : Int := xs.foldl (fun x o => x * (100 - o)) p

theorem nowF_succ (xs : List Int) (p : Int) {k : Nat} (h : k < xs.length) : nowF (xs.take (k + 1)) p = (2 * nowF (xs.take k) p * (100 - xs.getD k 0) + 100) / 200 := by
  unfold nowF
  rw [List.take_succ_eq_append_getElem h, List.foldl_append, getD_is h]
  rfl

theorem exF_succ (xs : List Int) (p : Int) {k : Nat} (h : k < xs.length) : exF (xs.take (k + 1)) p = exF (xs.take k) p * (100 - xs.getD k 0) := by
  unfold exF
  rw [List.take_succ_eq_append_getElem h, List.foldl_append, getD_is h]
  rfl

theorem off_step {x o : Int} (h0 : 0 ≤ x) (h1 : x ≤ 100000) (h2 : 0 ≤ o ∧ o ≤ 100) : (0 ≤ 2 * x * (100 - o) ∧ 2 * x * (100 - o) ≤ 20000000) ∧ 0 ≤ (2 * x * (100 - o) + 100) / 200 ∧ (2 * x * (100 - o) + 100) / 200 ≤ 100000 := by
  have a := Int.mul_nonneg (show 0 ≤ 2 * x by omega) (show 0 ≤ 100 - o by omega)
  have b := Int.mul_le_mul (show 2 * x ≤ 200000 by omega) (show 100 - o ≤ 100 by omega) (by omega) (by omega)
  omega

theorem ex_step {x o m : Int} (h0 : 0 ≤ x) (h1 : x ≤ m) (h2 : 0 ≤ o ∧ o ≤ 100) : 0 ≤ x * (100 - o) ∧ x * (100 - o) ≤ m * 100 := by
  have a := Int.mul_nonneg h0 (show 0 ≤ 100 - o by omega)
  have b := Int.mul_le_mul h1 (show 100 - o ≤ 100 by omega) (by omega) (by omega)
  exact ⟨a, b⟩

/-- What PriceAfter answers. -/
def priceV (p : Int) (xs : List Int) : Int × Int := if (inR p 0 100000 && vListB 0 100 4 xs) = true then (nowF xs p, exF xs p) else (-1, -1)

theorem ret_two {a a' b b' : Int} (h1 : a = a') (h2 : b = b') : Ending.returned (.tuple #[.int .i64 a, .int .i64 b]) = .returned (.tuple #[.int .i64 a', .int .i64 b']) := by rw [h1, h2]

end Go.Proofs.Ytiffjeclpgcabaa
