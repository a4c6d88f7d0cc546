/- Discounts, budgets and exchanges, in the program. -/
import Derived.Test.YtiffjeclpgcabaaAir
import Derived.Test.YtiffjeclpgcabaaOffP
import Derived.Test.YtiffjeclpgcabaaCarV
import Derived.Test.YtiffjeclpgcabaaRatV
namespace Go.Proofs.Ytiffjeclpgcabaa
open Go.RowKit

set_option maxHeartbeats 400000 in
theorem halvesUp_any (a b : Int) (w : World) (ha : 0 ≤ a ∧ a ≤ 100000000) (hb : 1 ≤ b ∧ b ≤ 100) :
    Calls Try.prog 74 #[.int .i64 a, .int .i64 b] w fun e w' => e = .returned (.int .i64 ((2 * a + b) / (2 * b))) ∧ w = w' := by
  have hb0 : 2 * b ≠ 0 := by omega
  have hd0 : 0 ≤ (2 * a + b) / (2 * b) := Int.ediv_nonneg (by omega) (by omega)
  have hd1 : (2 * a + b) / (2 * b) ≤ 2 * a + b := Int.ediv_le_self _ (by omega)
  go_enter Try.func74, Try.ntmps74
  go_wp2
  go_ret
  exact ⟨rfl, rfl⟩

theorem allQ_allR (xs : List Int) (lo hi : Int) : allQ xs lo hi = allR xs lo hi := rfl

theorem off_half {x o : Int} : (2 * (x * (100 - o)) + 100) / (2 * 100) = (2 * x * (100 - o) + 100) / 200 := by
  rw [Int.mul_assoc]; rfl

set_option maxRecDepth 100000 in
set_option maxHeartbeats 3200000 in
theorem PriceAfter_impl (p : Int) (v : Value) (xs : List Int) (w : World) (hv : IsInts w v xs) (hl : xs.length ≤ 9223372036854775807) :
    Calls Try.prog 36 #[.int .i64 p, v] w fun e w' => e = .returned (.tuple #[.int .i64 (priceV p xs).1, .int .i64 (priceV p xs).2]) ∧ Below w.heap.size w w' := by
  have HCC := Lib.hid inRange_impl
  have HAR := Lib.hid (allInRange_impl v xs 0 100 w hv hl)
  have HNO : Hid ((inR p 0 100000 && vListB 0 100 4 xs) = false → priceV p xs = (-1, -1)) := fun h => by unfold priceV; rw [h]; rfl
  obtain ⟨a, cap, rfl, hc⟩ := hv
  cases h1 : inR p 0 100000
  · have E := Lib.hid (HNO.out (by rw [h1]; rfl))
    go_enter Try.func36, Try.ntmps36
    go_wp2_with (go_at_call 58; refine (inRange_impl _ _ _ _).mono ?_; rintro e w' ⟨rfl, rfl⟩)
    go_ret2
    exact ⟨ret_two (by rw [E.out]) (by rw [E.out]), Below.refl _ _⟩
  by_cases h2 : (4 : Int) < (xs.length : Int)
  · have E := Lib.hid (HNO.out (by rw [vListB, decide_eq_false (by omega), Bool.and_false, Bool.and_false]))
    go_enter Try.func36, Try.ntmps36
    go_wp2_with (go_at_call 58; refine (inRange_impl _ _ _ _).mono ?_; rintro e w' ⟨rfl, rfl⟩)
    go_ret2
    exact ⟨ret_two (by rw [E.out]) (by rw [E.out]), Below.refl _ _⟩
  cases h3 : allR xs 0 100
  · have E := Lib.hid (HNO.out (by rw [vListB, allQ_allR, h3, Bool.false_and, Bool.and_false]))
    have h := HAR.out
    rw [h3] at h
    have HA2 := Lib.hid h
    clear h
    go_enter Try.func36, Try.ntmps36
    go_wp2_with (first | (go_at_call 58; refine (inRange_impl _ _ _ _).mono ?_; rintro e w' ⟨rfl, rfl⟩) | (go_at_call 73; refine HA2.out.mono ?_; rintro e w' ⟨rfl, rfl⟩))
    go_ret2
    exact ⟨ret_two (by rw [E.out]) (by rw [E.out]), Below.refl _ _⟩
  have hvl : vListB 0 100 4 xs = true := by rw [vListB, allQ_allR, h3, decide_eq_true (by omega)]; rfl
  have E : Hid (priceV p xs = (nowF xs p, exF xs p)) := by show _ = _; unfold priceV; rw [h1, hvl]; rfl
  obtain ⟨hx, hl4⟩ := vListB_iff.1 hvl
  have HX := Lib.hid hx
  have h := HAR.out
  rw [h3] at h
  have HA2 := Lib.hid h
  have hp := inR_true h1
  clear h hvl hx h3
  go_enter Try.func36, Try.ntmps36
  go_wp2_with (first | (go_at_call 58; refine (inRange_impl _ _ _ _).mono ?_; rintro e w' ⟨rfl, rfl⟩) | (go_at_call 73; refine HA2.out.mono ?_; rintro e w' ⟨rfl, rfl⟩))
  go_loopw [6, 7, 27] (fun nv ev iv wr => ∃ (k : Nat) (N X : Int), k ≤ xs.length ∧ iv = .int .i64 k ∧ nv = .int .i64 N ∧ ev = .int .i64 X ∧ N = nowF (xs.take k) p ∧ X = exF (xs.take k) p ∧ (0 ≤ N ∧ N ≤ 100000) ∧ (0 ≤ X ∧ X ≤ 100000 * 100 ^ k) ∧ Below w.heap.size w wr) (fun _ _ iv _ => xs.length - (intOf iv).toNat)
  case atStart => exact ⟨0, p, p, Nat.zero_le _, rfl, rfl, rfl, rfl, rfl, hp, by simpa using hp, Below.refl _ _⟩
  case round =>
    obtain ⟨k, N, X, hk, rfl, rfl, rfl, hN, hX, hNb, hXb, hbl⟩ := hrel
    have HN := Lib.hid hN
    have HXX := Lib.hid hX
    clear hN hX
    by_cases hlt : k < xs.length
    · obtain ⟨b, off, rfl, c0⟩ := hc k hlt
      have hcell := (hbl.cell (by exact World.block_lt_of_cell? w _ c0)).trans c0
      have hz := HX.out (xs.getD k 0) (by rw [getD_is hlt]; exact List.getElem_mem _)
      have H1 := Lib.hid (nowF_succ xs p hlt)
      have H2 := Lib.hid (exF_succ xs p hlt)
      have i1 : (k : Int) < (xs.length : Int) := by omega
      clear hc c0
      generalize xs.getD k 0 = z at *
      have s1 := off_step hNb.1 hNb.2 hz
      have s2 := ex_step hXb.1 hXb.2 hz
      have hk3 : k ≤ 3 := by omega
      have hpw : (100000 : Int) * 100 ^ k ≤ 100000000000 ∧ (100000 : Int) * 100 ^ k * 100 = 100000 * 100 ^ (k + 1) := by
        refine ⟨?_, by rw [Int.pow_succ, Int.mul_assoc]⟩
        have : k = 0 ∨ k = 1 ∨ k = 2 ∨ k = 3 := by omega
        rcases this with rfl | rfl | rfl | rfl <;> decide
      have HPW := Lib.hid hpw.2
      have hX2 : X ≤ 100000000000 := by omega
      have hs2 : 0 ≤ X * (100 - z) ∧ X * (100 - z) ≤ 10000000000000 := by omega
      have hn1 : 0 ≤ N * (100 - z) ∧ N * (100 - z) ≤ 10000000 := by
        have e : 2 * N * (100 - z) = 2 * (N * (100 - z)) := Int.mul_assoc _ _ _
        omega
      have HS := Lib.hid s1
      have HS2 := Lib.hid s2
      clear s1 s2 hpw
      have C := halvesUp_any (N * (100 - z)) 100 wr (by omega) (by omega)
      rw [off_half] at C
      have HC := Lib.hid C
      clear C
      go_wp2_with (go_at_call 74; refine HC.out.mono ?_; rintro e w' ⟨rfl, rfl⟩)
      go_roundw
      case rel => exact ⟨k + 1, _, _, by omega, by go_num, rfl, rfl, by rw [H1.out, ← HN.out], by rw [H2.out, ← HXX.out], HS.out.2, ⟨HS2.out.1, by have := HS2.out.2; rw [HPW.out] at this; exact this⟩, hbl⟩
      case measure => simp [intOf]; omega
    · have ek : xs.take k = xs := List.take_of_length_le (by omega)
      have E2 : Hid (N = nowF xs p ∧ X = exF xs p) := by have a1 := HN.out; have a2 := HXX.out; rw [ek] at a1 a2; exact ⟨a1, a2⟩
      clear ek
      go_wp2
      go_ret2
      exact ⟨ret_two (by rw [E.out]; exact E2.out.1) (by rw [E.out]; exact E2.out.2), hbl⟩

end Go.Proofs.Ytiffjeclpgcabaa
