/- PriceAfter, Exchange and CarryOf, in the model. -/
import Derived.Test.YtiffjeclpgcabaaOffV
import Derived.Test.YtiffjeclpgcabaaOwnB
import Derived.Test.YtiffjeclpgcabaaPush
namespace Go.Proofs.Ytiffjeclpgcabaa
open Go.RowKit

theorem inRange_at6 (x lo hi : Int) (r : Bool) (w : World) (h : inR x lo hi = r) : Calls Try.prog 63 #[.int .i64 x, .int .i64 lo, .int .i64 hi] w fun e w' => e = .returned (.bool r) ∧ w = w' := by
  subst h; exact inRange_spec _ _ _ _

theorem validOffs_at (v : Value) (xs : List Int) (r : Bool) (w : World) (hv : IsInts w v xs) (hl : xs.length ≤ 9223372036854775807) (h : vListB 0 100 4 xs = r) :
    Calls Try.prog 75 #[v] w fun e w' => e = .returned (.bool r) ∧ w = w' := by
  subst h; exact validOffs_spec _ _ _ hv hl

set_option maxHeartbeats 1600000 in
theorem PriceAfter_spec (p : Int) (v : Value) (xs : List Int) (w : World) (hv : IsInts w v xs) (hl : xs.length ≤ 9223372036854775807) :
    Calls Try.prog 37 #[.int .i64 p, v] w fun e w' => e = .returned (.tuple #[.int .i64 (priceV p xs).1, .int .i64 (priceV p xs).2]) ∧ w = w' := by
  have HCC := Lib.hid inRange_at6
  have HVO := Lib.hid (fun r => validOffs_at v xs r w hv hl)
  obtain ⟨a, cap, rfl, hc⟩ := hv
  have HNO : Hid ((inR p 0 100000 && vListB 0 100 4 xs) = false → (priceV p xs).1 = -1 ∧ (priceV p xs).2 = -1) := fun h => by unfold priceV; rw [h]; exact ⟨rfl, rfl⟩
  cases h1 : inR p 0 100000
  · have E := Lib.hid (HNO.out (by rw [h1]; rfl))
    go_enter Try.func37, Try.ntmps37
    go_wp2_with (go_at_call 63; refine (HCC.out _ _ _ _ _ h1).mono ?_; rintro e w' ⟨rfl, rfl⟩)
    go_ret2
    exact ⟨ret_two E.out.1.symm E.out.2.symm, rfl⟩
  cases h2 : vListB 0 100 4 xs
  · have E := Lib.hid (HNO.out (by rw [h1, h2]; rfl))
    go_enter Try.func37, Try.ntmps37
    go_wp2_with (first | (go_at_call 63; refine (HCC.out _ _ _ _ _ h1).mono ?_; rintro e w' ⟨rfl, rfl⟩) | (go_at_call 75; refine (HVO.out _ h2).mono ?_; rintro e w' ⟨rfl, rfl⟩))
    go_ret2
    exact ⟨ret_two E.out.1.symm E.out.2.symm, rfl⟩
  · have E : Hid (priceV p xs = (nowF xs p, exF xs p)) := by show _ = _; unfold priceV; rw [h1, h2]; rfl
    have hp := inR_true h1
    obtain ⟨hx, hl4⟩ := vListB_iff.1 h2
    go_enter Try.func37, Try.ntmps37
    go_wp2_with (first | (go_at_call 63; refine (HCC.out _ _ _ _ _ h1).mono ?_; rintro e w' ⟨rfl, rfl⟩) | (go_at_call 75; refine (HVO.out _ h2).mono ?_; rintro e w' ⟨rfl, rfl⟩))
    go_loop [6, 7, 8] (fun x e i => ∃ (k : Nat) (X Y : Int), k ≤ xs.length ∧ i = .int .i64 k ∧ x = .int .i64 X ∧ e = .int .i64 Y ∧ X = nowF (xs.take k) p ∧ Y = exF (xs.take k) p ∧ (0 ≤ X ∧ X ≤ 100000) ∧ 0 ≤ Y ∧ Y ≤ 100000 * 100 ^ k) (fun _ _ i => xs.length - (intOf i).toNat)
    case atStart => exact ⟨0, p, p, Nat.zero_le _, rfl, rfl, rfl, rfl, rfl, hp, hp.1, by omega⟩
    case round =>
      obtain ⟨k, X, Y, hk, rfl, rfl, rfl, hX, hY, hX2, hY0, hY1⟩ := hrel
      have HX := Lib.hid hX
      have HY := Lib.hid hY
      clear hX hY
      by_cases hlt : k < xs.length
      · obtain ⟨b, off, rfl, hcell⟩ := hc k hlt
        have ho := hx (xs.getD k 0) (by rw [getD_is hlt]; exact List.getElem_mem _)
        have H1 := Lib.hid (nowF_succ xs p hlt)
        have H2 := Lib.hid (exF_succ xs p hlt)
        have hpw : Hid (100000 * (100 : Int) ^ (k + 1) = 100000 * 100 ^ k * 100) := by show _ = _; rw [Int.pow_succ, Int.mul_assoc]
        have hp4 : 100000 * (100 : Int) ^ k ≤ 10000000000000 := by
          have : k = 0 ∨ k = 1 ∨ k = 2 ∨ k = 3 := by omega
          rcases this with rfl | rfl | rfl | rfl <;> decide
        generalize 100000 * (100 : Int) ^ k = M at *
        generalize xs.getD k 0 = o at *
        have f1 := off_step hX2.1 hX2.2 ho
        have f2 := ex_step hY0 hY1 ho
        have W1 : IntKind.i64.wrap (2 * X * (100 - o)) = 2 * X * (100 - o) := IntWalk.i64_in _ (by omega)
        have W2 : IntKind.i64.wrap (Y * (100 - o)) = Y * (100 - o) := IntWalk.i64_in _ (by omega)
        go_wp2
        go_round
        case rel => exact ⟨k + 1, _, _, by omega, by go_num, rfl, rfl, by rw [H1.out, HX.out], by rw [H2.out, HY.out], f1.2, f2.1, by rw [hpw.out]; exact f2.2⟩
        case measure => simp [intOf]; omega
      · go_wp2
        go_ret2
        have ek : xs.take k = xs := List.take_of_length_le (by omega)
        exact ⟨ret_two (by rw [E.out, HX.out, ek]) (by rw [E.out, HY.out, ek]), rfl⟩

end Go.Proofs.Ytiffjeclpgcabaa
