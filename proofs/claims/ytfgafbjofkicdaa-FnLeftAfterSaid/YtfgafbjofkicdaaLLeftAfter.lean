/- The law FnLeftAfter, out of the contracts of the program and of the drawing. -/
import Derived.Test.YtfgafbjofkicdaaLLeast
import Derived.Test.YtfgafbjofkicdaaEqQuiet
namespace Go.Proofs.Ytfgafbjofkicdaa
open Go.RowKit

theorem step_facts {A P B pay : Int} {t : Nat} (hA : 0 ≤ A ∧ A ≤ 1000) (hB : 1 ≤ B ∧ B ≤ 10) (hP : 0 ≤ P ∧ P ≤ B) (hpay : 0 ≤ pay) (ht : t + 1 ≤ 8) :
    (0 ≤ leftN P B pay A t ∧ leftN P B pay A t ≤ 256000) ∧ (0 ≤ leftN P B pay A (t + 1) ∧ leftN P B pay A (t + 1) ≤ 256000) ∧ (0 ≤ intr (leftN P B pay A t) P B ∧ intr (leftN P B pay A t) P B ≤ 256000) ∧ leftN P B pay A (t + 1) + paidN P B pay A t - leftN P B pay A t = intr (leftN P B pay A t) P B ∧ (0 ≤ paidN P B pay A t ∧ paidN P B pay A t ≤ pay) ∧ (0 < leftN P B pay A (t + 1) → paidN P B pay A t = pay) ∧ (0 ≤ 2 * leftN P B pay A t * P ∧ 2 * leftN P B pay A t * P ≤ 20000000) ∧ -B < 2 * intr (leftN P B pay A t) P B * B - 2 * leftN P B pay A t * P ∧ 2 * intr (leftN P B pay A t) P B * B - 2 * leftN P B pay A t * P ≤ B := by
  have h1 := left_bound hB.1 hP hA hpay (show t ≤ 8 by omega)
  have h2 := left_bound hB.1 hP hA hpay ht
  have h3 := paid_left P B pay A t
  have h4 := intr_nonneg (p := P) hB.1 hP.1 h1.1
  have h5 := intr_le hB.1 hP.2 h1.1
  have h6 : paidN P B pay A t = min (leftN P B pay A t + intr (leftN P B pay A t) P B) pay := rfl
  have h7 : leftN P B pay A (t + 1) = leftN P B pay A t + intr (leftN P B pay A t) P B - min (leftN P B pay A t + intr (leftN P B pay A t) P B) pay := rfl
  have h8 := prod_bounds (a := leftN P B pay A t) (p := P) (by omega) (by omega)
  have h9 := intr_bounds (a := leftN P B pay A t) (p := P) hB.1
  generalize leftN P B pay A (t + 1) = L1 at *
  generalize leftN P B pay A t = L at *
  generalize paidN P B pay A t = pd at *
  generalize intr L P B = iv at *
  have e1 : 2 * iv * B = 2 * B * iv := by rw [Int.mul_assoc, Int.mul_assoc, Int.mul_comm iv B]
  rw [e1]
  exact ⟨h1, h2, ⟨h4, by omega⟩, by omega, by omega, by omega, h8, by omega, by omega⟩

theorem leftV_no {A P B T pay : Int} (h : vPay A P B T pay = false) : leftV A P B T pay = [] := by rw [leftV, if_neg (by rw [h]; simp)]

set_option maxRecDepth 100000 in
set_option maxHeartbeats 6400000 in
theorem FnLeftAfter_of (hdraw : ∀ (a : Option Addr) (n cap : Nat) (w : World), IsBytes w a n → n ≤ cap → Calls Try.prog 25 #[.slice a n cap] w fun e w' => ∃ A P B T x, e = .returned (.tuple #[lv A P B T, .int .i64 x]) ∧ Below w.heap.size w w')
    (himl : ∀ (A P B T pay : Int) (wx : World), Calls Try.prog 26 #[lv A P B T, .int .i64 pay] wx fun e w' => ∃ v, e = .returned v ∧ Own w' wx.heap.size v (leftV A P B T pay) ∧ Below wx.heap.size wx w')
    (himp : ∀ (A P B T pay : Int) (wx : World), Calls Try.prog 29 #[lv A P B T, .int .i64 pay] wx fun e w' => ∃ v, e = .returned v ∧ Own w' wx.heap.size v (paidV A P B T pay) ∧ Below wx.heap.size wx w')
    (a : Option Addr) (n cap : Nat) (w : World) (h : IsBytes w a n) (hc : n ≤ cap) :
    Calls Try.prog 5 #[.slice a n cap] w fun e w' => e = .returned (.bool true) ∧ Below w.heap.size w w' := by
  by_cases hbig : (1048576 : Int) < (n : Int)
  · go_enter Try.func5, Try.ntmps5
    go_wp2
    go_ret
    exact ⟨rfl, Below.refl _ _⟩
  · have HI := Lib.hid himp
    have HL := Lib.hid himl
    have HD := Lib.hid (hdraw a n cap w h hc)
    clear himp himl hdraw h
    go_enter Try.func5, Try.ntmps5
    go_wp2_with fail
    refine HD.out.mono ?_
    rintro e w1 ⟨A, P, B, T, x, rfl, b1⟩
    clear HD
    have hh := IsBoxL.new w1 A P B T
    have bb : Below w.heap.size w (w1.alloc (.cells #[.int .i64 A, .int .i64 P, .int .i64 B, .int .i64 T] 24)) := b1.alloc b1.size _
    obtain ⟨⟨c0, c1, c2, c3⟩, _⟩ := hh.cells
    cases hv : vPay A P B T x
    · have E := Lib.hid (leftV_no hv)
      clear hv
      go_wp2_with fail
      generalize w1.alloc (.cells #[.int .i64 A, .int .i64 P, .int .i64 B, .int .i64 T] 24) = w2 at *
      generalize w1.heap.size = g3 at *
      refine (HL.out A P B T x _).mono ?_
      rintro e w3 ⟨v1, rfl, o1, hb3⟩
      rw [E.out] at o1
      have hh3 : IsBoxL w3 g3 A P B T := (hb3.block _ hh.lt).trans hh
      have b3 := bb.trans (hb3.mono bb.size)
      obtain ⟨av, cv, rfl, _⟩ := id o1.ints
      clear hh hb3 c0 c1 c2 c3
      obtain ⟨⟨c0, c1, c2, c3⟩, _⟩ := hh3.cells
      go_wp2_with fail
      refine (LeftAfter_spec A P B T x _).mono ?_
      rintro e w4 ⟨v2, rfl, o2, _, hb4⟩
      rw [E.out] at o2
      have hh4 : IsBoxL w4 g3 A P B T := (hb4.block _ hh3.lt).trans hh3
      have b4 := b3.trans (hb4.mono b3.size)
      have o1' := o1.below hb4
      clear hh3 hb4 c0 c1 c2 c3 b3 o1
      go_wp2_with fail
      refine (equalInts_quiet _ _ _ _ _ o1'.ints o2.ints (by simp)).mono ?_
      rintro e w5 ⟨rfl, q, rfl⟩
      rw [decide_eq_true rfl]
      have b5 := below_drewN b4 q
      have hh5 : IsBoxL (w4.drewN q) g3 A P B T := ((below_drewN (Below.refl w4.heap.size w4) q).block _ hh4.lt).trans hh4
      have o5 := o1'.below (below_drewN (Below.refl _ _) q)
      generalize w4.drewN q = w5 at *
      clear o2 o1' hh4 b4
      obtain ⟨⟨c0, c1, c2, c3⟩, _⟩ := hh5.cells
      go_wp2_with fail
      refine (LeftAfter_spec A P B T x _).mono ?_
      rintro e w6 ⟨v3, rfl, o6, _, hb6⟩
      rw [E.out] at o6
      have b6 := b5.trans (hb6.mono b5.size)
      have o7 := o5.below hb6
      clear hb6 c0 c1 c2 c3 b5 o5
      go_wp2_with fail
      refine (equalInts_quiet _ _ _ _ _ o7.ints o6.ints (by simp)).mono ?_
      rintro e w7 ⟨rfl, q2, rfl⟩
      rw [decide_eq_true rfl]
      have b7 := below_drewN b6 q2
      clear o6 o7 b6
      go_wp2
      go_ret
      exact ⟨rfl, b7⟩
    · obtain ⟨hvl, p1, p2⟩ := vPay_parts hv
      obtain ⟨hA, hB, hP, hT1, hT8⟩ := vLoan_iff.1 hvl
      obtain ⟨m, rfl⟩ : ∃ m : Nat, T = m := ⟨T.toNat, by omega⟩
      have hm1 : 1 ≤ m := by omega
      have E1 : Hid (leftV A P B m x = rowsL A P B x m) := by show _ = _; rw [leftV, if_pos hv, Int.toNat_natCast]
      have E2 : Hid (paidV A P B m x = paidL A P B x m) := by show _ = _; rw [paidV, if_pos hv, Int.toNat_natCast]
      have HS := Lib.hid (fun t (ht : t + 1 ≤ 8) => step_facts hA hB hP p1 (t := t) ht)
      have HR := Lib.hid (fun t (ht : t < m) => rowsL_at A P B x m t ht)
      have HQ := Lib.hid (fun t (ht : t < m) => paidL_at A P B x m t ht)
      have mn : ((m : Int) == 0) = false := beq_eq_false_iff_ne.2 (by omega)
      clear hv hvl
      go_wp2_with fail
      generalize w1.alloc (.cells #[.int .i64 A, .int .i64 P, .int .i64 B, .int .i64 (m : Int)] 24) = w2 at *
      generalize w1.heap.size = g3 at *
      refine (HL.out A P B m x _).mono ?_
      rintro e w3 ⟨v1, rfl, o1, hb3⟩
      rw [E1.out] at o1
      have hh3 : IsBoxL w3 g3 A P B m := (hb3.block _ hh.lt).trans hh
      have b3 := bb.trans (hb3.mono bb.size)
      obtain ⟨k1, cap1, rfl, _, _, _⟩ := own_shape o1 (rowsL_len _ _ _ _ _) hm1
      have o1 := o1.base bb.size
      clear hh hb3 c0 c1 c2 c3 bb
      obtain ⟨⟨c0, c1, c2, c3⟩, _⟩ := hh3.cells
      go_wp2_with fail
      refine (LeftAfter_spec A P B m x _).mono ?_
      rintro e w4 ⟨v2, rfl, o2, _, hb4⟩
      rw [E1.out] at o2
      have hh4 : IsBoxL w4 g3 A P B m := (hb4.block _ hh3.lt).trans hh3
      have b4 := b3.trans (hb4.mono b3.size)
      have o1' := o1.below hb4
      clear hh3 hb4 c0 c1 c2 c3 b3 o1
      go_wp2_with fail
      refine (equalInts_quiet _ _ _ _ _ o1'.ints o2.ints (by rw [rowsL_len]; omega)).mono ?_
      rintro e w5 ⟨rfl, q, rfl⟩
      rw [decide_eq_true rfl]
      have b5 := below_drewN b4 q
      have hh5 : IsBoxL (w4.drewN q) g3 A P B m := ((below_drewN (Below.refl w4.heap.size w4) q).block _ hh4.lt).trans hh4
      have o5 := o1'.below (below_drewN (Below.refl _ _) q)
      generalize w4.drewN q = w5 at *
      clear o2 o1' hh4 b4
      obtain ⟨⟨c0, c1, c2, c3⟩, _⟩ := hh5.cells
      go_wp2_with fail
      refine (HI.out A P B m x _).mono ?_
      rintro e w6 ⟨v3, rfl, o6, hb6⟩
      rw [E2.out] at o6
      have hh6 : IsBoxL w6 g3 A P B m := (hb6.block _ hh5.lt).trans hh5
      have b6 := b5.trans (hb6.mono b5.size)
      have o7 := o5.below hb6
      obtain ⟨k2, cap2, rfl, _, _, _⟩ := own_shape o6 (paidL_len _ _ _ _ _) hm1
      have o6 := o6.base b5.size
      clear hb6 c0 c1 c2 c3 b5 o5 hh5
      obtain ⟨⟨c0, c1, c2, c3⟩, _⟩ := hh6.cells
      go_wp2
      go_loopw [8, 7] (fun tv nv wr => ∃ t : Nat, t ≤ m ∧ tv = .int .i64 t ∧ nv = .int .i64 (leftN P B x A t) ∧ Own wr w.heap.size (sl k1 m cap1) (rowsL A P B x m) ∧ Own wr w.heap.size (sl k2 m cap2) (paidL A P B x m) ∧ IsBoxL wr g3 A P B m ∧ Below w.heap.size w wr) (fun tv _ _ => m - (intOf tv).toNat)
      case atStart => exact ⟨0, Nat.zero_le _, rfl, rfl, o7, o6, hh6, b6⟩
      case round =>
        obtain ⟨t, ht, rfl, rfl, ho, hp, hx, hbl⟩ := hrel
        rename World => wr
        clear o7 o6 hh6 b6 c0 c1 c2 c3
        obtain ⟨⟨c0, c1, c2, c3⟩, _⟩ := hx.cells
        have KO := Lib.hid ho
        have KP := Lib.hid hp
        have KX := Lib.hid hx
        have KB := Lib.hid hbl
        by_cases hlt : t < m
        · have t1 : (t : Int) < (m : Int) := by omega
          obtain ⟨s1, s2, s3, s4, s5, s6, s7, s8, s9⟩ := HS.out t (by omega)
          have cO := ho.cell (rowsL_len _ _ _ _ _) t hlt
          have cP := hp.cell (paidL_len _ _ _ _ _) t hlt
          rw [HR.out t hlt] at cO
          rw [HQ.out t hlt] at cP
          clear ho hp hx hbl
          generalize hE : leftN P B x A (t + 1) = L1 at *
          generalize leftN P B x A t = L at *
          generalize paidN P B x A t = pd at *
          generalize intr L P B = iv at *
          have u1 : IntKind.i64.wrap (2 * iv * B) = 2 * iv * B := IntWalk.i64_in _ (by omega)
          have u2 : IntKind.i64.wrap (2 * L * P) = 2 * L * P := IntWalk.i64_in _ (by omega)
          have u3 : IntKind.i64.wrap (2 * iv * B - 2 * L * P) = 2 * iv * B - 2 * L * P := IntWalk.i64_in _ (by omega)
          have u4 : ¬ x < pd := by omega
          by_cases hL1 : 0 < L1
          · have hpx := s6 hL1
            subst hpx
            go_wp2
            go_quiet (fail)
            go_wp2
            go_roundw
            case rel => exact ⟨t + 1, by omega, by go_num, by rw [hE], KO.out.below (below_drewN (Below.refl _ _) _), KP.out.below (below_drewN (Below.refl _ _) _), ((below_drewN (Below.refl wr.heap.size wr) _).block _ KX.out.lt).trans KX.out, below_drewN KB.out _⟩
            case measure => simp [intOf]; omega
          · have hz : L1 = 0 := by omega
            subst hz
            have s4' : pd - L = iv := by omega
            clear s4
            go_wp2
            go_quiet (fail)
            go_wp2
            go_roundw
            case rel => exact ⟨t + 1, by omega, by go_num, by rw [hE], KO.out.below (below_drewN (Below.refl _ _) _), KP.out.below (below_drewN (Below.refl _ _) _), ((below_drewN (Below.refl wr.heap.size wr) _).block _ KX.out.lt).trans KX.out, below_drewN KB.out _⟩
            case measure => simp [intOf]; omega
        · have hte : t = m := by omega
          subst hte
          clear ho hp hx hbl
          go_wp2
          go_ret
          exact ⟨rfl, KB.out⟩

end Go.Proofs.Ytfgafbjofkicdaa
