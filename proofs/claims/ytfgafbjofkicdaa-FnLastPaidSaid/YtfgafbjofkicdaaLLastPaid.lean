/- The law FnLastPaid, out of the program's contract. -/
import Derived.Test.YtfgafbjofkicdaaLoanV
import Derived.Test.YtfgafbjofkicdaaLoanD
import Derived.Test.YtfgafbjofkicdaaLLeast
import Derived.Test.YtfgafbjofkicdaaTotL
import Derived.Test.YtfgafbjofkicdaaSumN
import Derived.Test.YtfgafbjofkicdaaEqQuiet
namespace Go.Proofs.Ytfgafbjofkicdaa
open Go.RowKit

theorem lastL_sumT (a : Int) (n : Nat) : ∀ t, t ≤ n → sumT (lastL a n) t = sumF (lastAt a n) t
  | 0, _ => rfl
  | t + 1, h => by rw [sumT, sumF, lastL_sumT a n t (by omega), lastL_at a n t (by omega)]

theorem lastL_tot (a : Int) (n : Nat) (h : 0 < n) : tot (lastL a n) = a := by
  have h1 := sumT_tot (lastL a n) n (by rw [lastL_len]; exact Nat.le_refl _)
  rw [List.take_of_length_le (by rw [lastL_len]; exact Nat.le_refl _), lastL_sumT a n n (Nat.le_refl _), lastAt_sum a n n (Nat.le_refl _) h, if_pos rfl] at h1
  have h2 := Int.mul_ediv_add_emod a n
  rw [h1, Int.mul_comm]; exact h2

theorem last_facts {a n : Int} (h : ¬ (inR a 0 1000 = true ∧ inR n 1 8 = true) → False) : ∃ m : Nat, n = m ∧ 1 ≤ m ∧ m ≤ 8 ∧ (0 ≤ a ∧ a ≤ 1000) ∧ lastV a n = lastL a m ∧ (0 ≤ a / m ∧ a / m ≤ 1000) ∧ (0 ≤ a % m ∧ a % m < m) := by
  by_cases hc : inR a 0 1000 = true ∧ inR n 1 8 = true
  · have b1 := inR_true hc.1
    have b2 := inR_true hc.2
    obtain ⟨k, rfl⟩ : ∃ k : Nat, n = k := ⟨n.toNat, by omega⟩
    have hd0 := Int.ediv_nonneg b1.1 (show 0 ≤ (k : Int) by omega)
    have hd1 := Int.ediv_le_self (k : Int) b1.1
    have hm0 := Int.emod_nonneg a (show (k : Int) ≠ 0 by omega)
    have hm1 := Int.emod_lt_of_pos a (show 0 < (k : Int) by omega)
    exact ⟨k, rfl, by omega, by omega, b1, by rw [lastV, if_pos hc, Int.toNat_natCast], ⟨hd0, by omega⟩, hm0, hm1⟩
  · exact (h hc).elim

set_option maxRecDepth 100000 in
set_option maxHeartbeats 6400000 in
theorem FnLastPaid_of (himp : ∀ (x y : Int) (wx : World), Calls Try.prog 37 #[.int .i64 x, .int .i64 y] wx fun e w' => ∃ v, e = .returned v ∧ Own w' wx.heap.size v (lastV x y) ∧ Below wx.heap.size wx w')
    (a : Option Addr) (n cap : Nat) (w : World) (h : IsBytes w a n) (hc : n ≤ cap) :
    Calls Try.prog 8 #[.slice a n cap] w fun e w' => e = .returned (.bool true) ∧ Below w.heap.size w w' := by
  by_cases hbig : (1048576 : Int) < (n : Int)
  · go_enter Try.func8, Try.ntmps8
    go_wp2
    go_ret
    exact ⟨rfl, Below.refl _ _⟩
  · have HI := Lib.hid himp
    clear himp
    go_enter Try.func8, Try.ntmps8
    go_wp2_with fail
    refine (DrawLastPaid_any a n cap _ h hc).mono ?_
    rintro e w1 ⟨x, y, rfl, b1⟩
    clear h
    by_cases hok : inR x 0 1000 = true ∧ inR y 1 8 = true
    · obtain ⟨m, rfl, hm1, hm8, hx, hE, hq, hr⟩ := last_facts (fun h => h hok)
      have E := Lib.hid hE
      have TT := Lib.hid (lastL_tot x m (by omega))
      have LA := Lib.hid (fun i (hi : i < m) => lastL_at x m i hi)
      have LL := Lib.hid (lastL_len x m)
      clear hok hE
      go_wp2_with fail
      refine (HI.out x m _).mono ?_
      rintro e w2 ⟨v, rfl, o1, hb2⟩
      rw [E.out] at o1
      have b2 := b1.trans (hb2.mono b1.size)
      obtain ⟨g, cp, rfl, hg1, hg2, _⟩ := own_shape o1 LL.out hm1
      have o1 := o1.base b1.size
      clear hb2
      go_wp2_with fail
      refine (LastPaid_spec x m _).mono ?_
      rintro e w3 ⟨v3, rfl, o3, hb3⟩
      rw [E.out] at o3
      have b3 := b2.trans (hb3.mono b2.size)
      have o4 := o1.below hb3
      clear hb3 o1
      go_wp2_with fail
      refine (equalInts_quiet _ _ _ _ _ o4.ints o3.ints (by rw [LL.out]; omega)).mono ?_
      rintro e w4 ⟨rfl, q, rfl⟩
      rw [decide_eq_true rfl]
      have o5 := o4.below (below_drewN (Below.refl _ _) q)
      have b5 := below_drewN b3 q
      clear o3 o4 b3 b2
      have mn : ((m : Int) == 0) = false := beq_eq_false_iff_ne.2 (by omega)
      go_wp2
      go_loopw [6] (fun iv wr => ∃ i : Nat, i + 1 ≤ m ∧ iv = .int .i64 i ∧ Own wr w.heap.size (sl g m cp) (lastL x m) ∧ Below w.heap.size w wr) (fun iv _ => m - (intOf iv).toNat)
      case atStart => exact ⟨0, by omega, rfl, o5, b5⟩
      case round =>
        obtain ⟨i, hi, rfl, hown, hbl⟩ := hrel
        rename World => wr
        clear o5 b5
        have M1 : IntKind.i64.wrap ((m : Int) - 1) = ((m - 1 : Nat) : Int) := by rw [IntWalk.i64_in _ (by omega)]; omega
        have M2 : ((m - 1 : Nat) : Int) < (m : Int) := by omega
        have M3 : (0 : Int) < (m : Int) := by omega
        have ci := hown.cell LL.out i (by omega)
        have c0 := hown.cell LL.out 0 (by omega)
        have cl := hown.cell LL.out (m - 1) (by omega)
        rw [LA.out i (by omega)] at ci
        rw [LA.out 0 (by omega)] at c0
        rw [LA.out (m - 1) (by omega)] at cl
        have hl : lastAt x m (m - 1) = x / m + x % m := by unfold lastAt; rw [if_pos (by omega)]
        rw [hl] at cl
        have HB := Lib.hid hbl
        have HO := Lib.hid hown
        by_cases hlt : i + 1 < m
        · have i1 : (i : Int) + 1 < (m : Int) := by omega
          have i2 : (i : Int) < (m : Int) := by omega
          have h0 : lastAt x m 0 = x / m := by unfold lastAt; rw [if_neg (by omega)]
          have h1 : lastAt x m i = x / m := by unfold lastAt; rw [if_neg (by omega)]
          rw [h0] at c0
          rw [h1] at ci
          clear h0 h1 hl hown hbl
          generalize x / (m : Int) = qv at *
          generalize x % (m : Int) = rv at *
          have g1 : ¬ qv + rv < qv := by omega
          go_wp2
          go_quiet (fail)
          go_wp2
          go_roundw
          case rel => exact ⟨i + 1, by omega, by go_num, HO.out.below (below_drewN (Below.refl _ _) _), below_drewN HB.out _⟩
          case measure => simp [intOf]; omega
        · have hie : i = m - 1 := by omega
          have i1 : ¬ (i : Int) + 1 < (m : Int) := by omega
          have h0 : 0 ≤ lastAt x m 0 ∧ lastAt x m 0 ≤ 2000 ∧ x / m + x % m - lastAt x m 0 < m := by
            unfold lastAt
            by_cases h : 0 + 1 = m
            · rw [if_pos h]; omega
            · rw [if_neg h]; omega
          have C1 : Hid (∀ q, Calls Try.prog 35 #[sl g m cp] (wr.drewN q) fun e w' => e = .returned (.int .i64 x) ∧ ∃ m2, w' = wr.drewN m2) := fun q => by
            have ho := HO.out.below (below_drewN (Below.refl _ _) q)
            refine (total_any _ _ _ ho.ints (by rw [LL.out]; omega) (sumFits_abs _ 3000 (fun z hz => ?_) (by decide) (by rw [LL.out]; omega))).mono (by rintro e w' ⟨rfl, rfl⟩; rw [TT.out]; exact ⟨rfl, q, rfl⟩)
            obtain ⟨j, hj, rfl⟩ := List.getElem_of_mem hz
            have hj' : j < m := by rw [← LL.out]; exact hj
            have hz := LA.out j hj'
            have e : (lastL x m).getD j 0 = (lastL x m)[j] := by simp [List.getD, hj]
            rw [← e, hz]
            unfold lastAt
            by_cases h : j + 1 = m
            · rw [if_pos h]; omega
            · rw [if_neg h]; omega
          have h4 : 0 ≤ x / m + x % m ∧ x / m + x % m ≤ 2000 := by omega
          clear ci hl hown hbl
          generalize lastAt x m 0 = fv at *
          generalize x / (m : Int) + x % (m : Int) = lw at *
          have B2 := Lib.hid (fun q => below_drewN HB.out q)
          obtain ⟨h01, h02, h03⟩ := h0
          have h05 : decide (lw - fv < (m : Int)) = true := decide_eq_true h03
          go_wp2
          go_quiet ((go_at_call 35; with_reducible exact C1.out _))
          go_wp2
          go_ret
          exact ⟨rfl, B2.out _⟩
    · have E : Hid (lastV x y = []) := by show _ = _; rw [lastV, if_neg hok]
      clear hok
      go_wp2_with fail
      refine (HI.out x y _).mono ?_
      rintro e w2 ⟨v, rfl, o1, hb2⟩
      rw [E.out] at o1
      have b2 := b1.trans (hb2.mono b1.size)
      have o1 := o1.base b1.size
      clear hb2
      obtain ⟨av, cv, rfl, _⟩ := id o1.ints
      go_wp2_with fail
      refine (LastPaid_spec x y _).mono ?_
      rintro e w3 ⟨v3, rfl, o3, hb3⟩
      rw [E.out] at o3
      have b3 := b2.trans (hb3.mono b2.size)
      have o4 := o1.below hb3
      clear hb3 o1 b2
      go_wp2_with fail
      refine (equalInts_quiet _ _ _ _ _ o4.ints o3.ints (by simp)).mono ?_
      rintro e w4 ⟨rfl, q, rfl⟩
      rw [decide_eq_true rfl]
      have o5 := o4.below (below_drewN (Below.refl _ _) q)
      have b5 := below_drewN b3 q
      clear o3 o4 b3
      go_wp2_with fail
      refine (LastPaid_spec x y _).mono ?_
      rintro e w6 ⟨v6, rfl, o6, hb6⟩
      rw [E.out] at o6
      have b6 := b5.trans (hb6.mono b5.size)
      have o7 := o5.below hb6
      clear hb6 o5 b5
      go_wp2_with fail
      refine (equalInts_quiet _ _ _ _ _ o7.ints o6.ints (by simp)).mono ?_
      rintro e w8 ⟨rfl, q2, rfl⟩
      rw [decide_eq_true rfl]
      have b8 := below_drewN b6 q2
      clear o6 o7 b6
      go_wp2
      go_ret
      exact ⟨rfl, b8⟩

end Go.Proofs.Ytfgafbjofkicdaa
