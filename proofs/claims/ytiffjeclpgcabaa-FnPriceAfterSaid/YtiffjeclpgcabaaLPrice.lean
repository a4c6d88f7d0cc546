/- The law FnPriceAfter, out of the program's contract. -/
import Derived.Test.YtiffjeclpgcabaaOffM
import Derived.Test.YtiffjeclpgcabaaOffP
import Derived.Test.YtiffjeclpgcabaaDrawC
import Derived.Test.YtiffjeclpgcabaaLCarry
namespace Go.Proofs.Ytiffjeclpgcabaa
open Go.RowKit

set_option maxHeartbeats 400000 in
theorem times_any (n : Nat) (w : World) (hn : n ≤ 8) : Calls Try.prog 38 #[.int .i64 100, .int .i64 n] w fun e w' => e = .returned (.int .i64 (100 ^ n)) ∧ w = w' := by
  go_enter Try.func38, Try.ntmps38
  go_wp2
  go_loop [1, 5] (fun m o => ∃ j : Nat, j ≤ n ∧ m = .int .i64 ((n : Int) - j) ∧ o = .int .i64 (100 ^ j)) (fun m _ => (intOf m).toNat)
  case atStart => exact ⟨0, Nat.zero_le _, by simp, rfl⟩
  case round =>
    obtain ⟨j, hj, rfl, rfl⟩ := hrel
    by_cases hlt : j < n
    · have hj8 : j < 8 := by omega
      have hb : 1 ≤ (100 : Int) ^ j ∧ (100 : Int) ^ j ≤ 100000000000000 := by
        have : j = 0 ∨ j = 1 ∨ j = 2 ∨ j = 3 ∨ j = 4 ∨ j = 5 ∨ j = 6 ∨ j = 7 := by omega
        rcases this with rfl | rfl | rfl | rfl | rfl | rfl | rfl | rfl <;> decide
      have HE : Hid ((100 : Int) ^ (j + 1) = 100 ^ j * 100) := Int.pow_succ _ _
      generalize (100 : Int) ^ j = K at *
      go_wp2
      go_round
      case rel => exact ⟨j + 1, by omega, by go_num, by rw [HE.out]⟩
      case measure => simp [intOf]; omega
    · have e : j = n := by omega
      subst e
      go_wp2
      go_ret
      exact ⟨rfl, rfl⟩

theorem ints_each {w : World} {av : Option Addr} {n cv : Nat} {xs : List Int} (h : IsInts w (.slice av n cv) xs) {j : Nat} (hj : j < xs.length) : ∃ b off, av = some ⟨b, off, none⟩ ∧ w.cell? ⟨b, off + j, none⟩ = some (.int .i64 (xs.getD j 0)) := by
  obtain ⟨a, c, e, hc⟩ := h
  simp only [Value.slice.injEq] at e
  obtain ⟨rfl, _, _⟩ := e
  exact hc j hj

theorem drop_rev {xs : List Int} {g : Nat} (h : g < xs.length) : (xs.drop (g + 1)).reverse ++ [xs.getD g 0] = (xs.drop g).reverse := by
  rw [List.drop_eq_getElem_cons h, List.reverse_cons, getD_is h]

set_option maxRecDepth 100000 in
set_option maxHeartbeats 3200000 in
theorem FnPriceAfter_of (himp : ∀ (p : Int) (v : Value) (xs : List Int) (wx : World), IsInts wx v xs → xs.length ≤ 9223372036854775807 → Calls Try.prog 36 #[.int .i64 p, v] wx fun e w' => e = .returned (.tuple #[.int .i64 (priceV p xs).1, .int .i64 (priceV p xs).2]) ∧ Below wx.heap.size wx w')
    (a : Option Addr) (n cap : Nat) (w : World) (h : IsBytes w a n) (hc : n ≤ cap) :
    Calls Try.prog 8 #[.slice a n cap] w fun e w' => e = .returned (.bool true) ∧ Below w.heap.size w w' := by
  by_cases hbig : (1048576 : Int) < (n : Int)
  · clear himp
    go_enter Try.func8, Try.ntmps8
    go_wp2
    go_ret
    exact ⟨rfl, Below.refl _ _⟩
  · have HI := Lib.hid himp
    clear himp
    go_enter Try.func8, Try.ntmps8
    go_wp2_with fail
    refine (DrawPriceAfter_any a n cap _ h hc).mono ?_
    rintro e w1 ⟨v, xs, p, rfl, o1, hl5, hp, b1⟩
    have hl : xs.length ≤ 9223372036854775807 := by omega
    clear h
    go_wp2_with fail
    refine (HI.out p _ xs _ o1.ints hl).mono ?_
    rintro e w2 ⟨rfl, d2⟩
    have b2 := b1.trans (d2.mono b1.size)
    have o2 := o1.below d2
    clear o1 b1 d2
    go_wp2_with fail
    refine (PriceAfter_spec p _ xs _ o2.ints hl).mono ?_
    rintro e w' ⟨rfl, rfl⟩
    cases hv : (inR p 0 100000 && vListB 0 100 4 xs)
    · have e1 : priceV p xs = (-1, -1) := by unfold priceV; rw [hv]; rfl
      rw [e1]
      clear e1
      go_wp2
      go_ret
      exact ⟨rfl, b2⟩
    · have e1 : priceV p xs = (nowF xs p, exF xs p) := by unfold priceV; rw [hv]; rfl
      have hv2 := hv
      rw [Bool.and_eq_true] at hv2
      have hp0 := inR_true hv2.1
      obtain ⟨hx, hl4⟩ := vListB_iff.1 hv2.2
      have hf := off_all hx hp0.1 xs.length (Nat.le_refl _)
      rw [List.take_length] at hf
      have HR : Hid (∀ ys, ys = xs.reverse → priceV p ys = (nowF xs.reverse p, exF xs p)) := fun ys e => by
        subst e
        unfold priceV
        rw [vListB_rev, hv, exF_rev]; rfl
      rw [e1]
      dsimp only
      have HRV := HR.out
      have hK : 1 ≤ (100 : Int) ^ xs.length ∧ (100 : Int) ^ xs.length ≤ 100000000 := by
        have : xs.length = 0 ∨ xs.length = 1 ∨ xs.length = 2 ∨ xs.length = 3 ∨ xs.length = 4 := by omega
        rcases this with e | e | e | e | e <;> rw [e] <;> decide
      have HTM := Lib.hid (fun wx => times_any xs.length wx (by omega))
      have hNK : 0 ≤ nowF xs p * 100 ^ xs.length ∧ nowF xs p * 100 ^ xs.length ≤ 100000 * 100000000 := ⟨Int.mul_nonneg hf.1.1 (by omega), Int.mul_le_mul (by omega) hK.2 (by omega) (by omega)⟩
      have hLK : 0 ≤ (xs.length : Int) * 100 ^ xs.length ∧ (xs.length : Int) * 100 ^ xs.length ≤ 4 * 100000000 := ⟨Int.mul_nonneg (by omega) (by omega), Int.mul_le_mul (by omega) hK.2 (by omega) (by omega)⟩
      have hneg : -(xs.length : Int) * 100 ^ xs.length = -((xs.length : Int) * 100 ^ xs.length) := Int.neg_mul _ _
      have hb0 : Below w2.heap.size w2 (w2.alloc (.cells #[] 3)) := (Below.refl _ _).alloc (Nat.le_refl _) _
      have ho0 := own_empty w2 w2.heap.size (Nat.le_refl _)
      have HO2 := Lib.hid o2
      have b3 : Below w.heap.size w (w2.alloc (.cells #[] 3)) := b2.alloc b2.size _
      have hz2 := b2.size
      clear HR e1 hv hv2 o2 b2
      generalize exF xs p = X at *
      generalize nowF xs p = N at *
      have hN0 : ¬ N < 0 := by omega
      have hN1 : N ≤ p := hf.1.2
      obtain ⟨av, cv, rfl, _⟩ := id HO2.out.ints
      go_wp2
      go_loopg [9, 10] xs.length (fun g u i wr => g ≤ xs.length ∧ i = .int .i64 ((g : Int) - 1) ∧ Own wr w2.heap.size u (xs.drop g).reverse ∧ Below w2.heap.size w2 wr ∧ Below w.heap.size w wr)
      case atStart => exact ⟨Nat.le_refl _, rfl, by rw [List.drop_length]; exact ho0, hb0, b3⟩
      case round =>
        obtain ⟨hgl, rfl, own, hbl, hbw⟩ := hrel
        clear ho0 hb0 b3
        have hs2 := hbl.size
        have hyl : (xs.drop gk).reverse.length ≤ 1048576 := by rw [List.length_reverse, List.length_drop]; omega
        obtain ⟨bv, dv, rfl, _⟩ := id own.ints
        cases gk with
        | succ g =>
          have hg0 : g < xs.length := by omega
          obtain ⟨b, off, rfl, hcell⟩ := ints_each (HO2.out.below hbl).ints hg0
          have HD := Lib.hid (drop_rev hg0)
          have hg1 : (g : Int) < (xs.length : Int) := by omega
          rw [show ((g + 1 : Nat) : Int) - 1 = (g : Int) by omega]
          have HG0 := Lib.hid hg0
          generalize xs.getD g 0 = z at *
          generalize (xs.drop (g + 1)).reverse = ys at *
          clear hg0
          go_wp2_with (at_builtin; refine wpList_push own hyl hs2 (h := ?_))
          intro v6 w6 o6 g6 m6
          have b6 : Below w2.heap.size w2 w6 := hbl.trans (below_grown g6 hs2 (fun q hq => (own.lt q hq).1))
          have c6 : Below w.heap.size w w6 := hbw.trans (below_grown g6 hbw.size (fun q hq => by have := (own.lt q hq).1; omega))
          clear own hbl hbw g6 m6
          go_wp2
          go_roundg g
          case measure => omega
          case rel => exact ⟨by have := HG0.out; omega, by go_num, by rw [← HD.out]; exact o6, b6, c6⟩
        | zero =>
          rw [List.drop_zero] at own
          rw [show (((xs.drop 0).reverse).length) = xs.length by rw [List.drop_zero, List.length_reverse]]
          have oi := own.ints
          rw [List.length_reverse] at oi
          have hlr : xs.reverse.length ≤ 9223372036854775807 := by rw [List.length_reverse]; exact hl
          clear own hyl hgl
          go_wp2_with fail
          refine (HI.out p _ xs.reverse _ oi hlr).mono ?_
          rintro e w5 ⟨rfl, d5⟩
          rw [HRV _ rfl]
          dsimp only
          have b5 := hbw.trans (d5.mono hbw.size)
          clear oi hlr d5 hbw hbl HRV
          generalize nowF xs.reverse p = N2 at *
          go_wp2_with fail
          refine (HTM.out _).mono ?_
          rintro e w' ⟨rfl, rfl⟩
          generalize (100 : Int) ^ xs.length = K at *
          have W1 : IntKind.i64.wrap (N * K) = N * K := IntWalk.i64_in _ (by omega)
          have W2 : IntKind.i64.wrap ((xs.length : Int) * K) = (xs.length : Int) * K := IntWalk.i64_in _ (by omega)
          have W3 : IntKind.i64.wrap (-(xs.length : Int) * K) = -(xs.length : Int) * K := IntWalk.i64_in _ (by omega)
          have q1 : 2 * (N * K - X) ≤ (xs.length : Int) * K := hf.2.2
          have q2 : -(xs.length : Int) * K ≤ 2 * (N * K - X) := by rw [hneg]; exact hf.2.1
          have hX : -1000000000 ≤ X ∧ X ≤ 100000000000000 := by omega
          go_wp2
          go_ret
          exact ⟨rfl, b5⟩

end Go.Proofs.Ytiffjeclpgcabaa
