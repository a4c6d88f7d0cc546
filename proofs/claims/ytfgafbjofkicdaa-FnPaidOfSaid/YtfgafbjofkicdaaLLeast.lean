/- The law FnLeastPay, out of the program's contracts. -/
import Derived.Test.YtfgafbjofkicdaaLoanT
import Derived.Test.YtfgafbjofkicdaaLoanE
namespace Go.Proofs.Ytfgafbjofkicdaa
open Go.RowKit

theorem least_facts {A P B T : Int} (h : ¬ leastV A P B T < 0) : vLoan A P B T = true ∧ ∃ z n : Nat, T = n ∧ leastV A P B T = z ∧ z ≤ 2000 ∧ 1 ≤ n ∧ n ≤ 8 ∧ leftN P B z A n = 0 ∧ (z ≠ 0 → 0 < leftN P B ((z : Int) - 1) A n) ∧ (z = 0 ↔ A = 0) := by
  by_cases hv : vLoan A P B T = true
  · obtain ⟨hA, hB, hP, hT1, hT8⟩ := vLoan_iff.1 hv
    obtain ⟨n, rfl⟩ : ∃ n : Nat, T = n := ⟨T.toNat, by omega⟩
    have hn1 : 1 ≤ n := by omega
    have hd : leastV A P B n = leastF P B A n 2001 0 := by rw [leastV, if_pos hv, Int.toNat_natCast]
    have he := left_end hB.1 hP hA hn1
    obtain ⟨i1, i2, i3⟩ := leastF_spec P B A n 2001 0 ⟨2000, by omega, by omega, by omega⟩
    have hle : leastF P B A n 2001 0 ≤ 2000 := by
      by_cases hx : 2000 < leastF P B A n 2001 0
      · have := i3 2000 (by omega) hx
        omega
      · omega
    generalize leastF P B A n 2001 0 = zz at *
    obtain ⟨z, rfl⟩ : ∃ z : Nat, zz = z := ⟨zz.toNat, by omega⟩
    have h0 := left_nonneg (pay := (z : Int)) hB.1 hP.1 hA.1 n
    refine ⟨hv, z, n, rfl, hd, by omega, hn1, by omega, by omega, fun hz => i3 _ (by omega) (by omega), ?_⟩
    constructor
    · intro hz
      subst hz
      have h1 := left_grow (p := P) (b := B) hB.1 hP.1 hA.1 n
      have h2 : leftN P B ((0 : Nat) : Int) A n = leftN P B 0 A n := rfl
      rw [h2] at i1 h0
      omega
    · intro ha
      subst ha
      by_cases hz : z = 0
      · exact hz
      · have h1 := i3 0 (by omega) (by omega)
        rw [left_zero hB.1 (by omega)] at h1
        omega
  · exact absurd (show leastV A P B T < 0 by rw [leastV, if_neg hv]; decide) h

theorem leftV_rows {A P B T pay : Int} {n : Nat} (hv : vLoan A P B T = true) (hT : T = n) (hp : 0 ≤ pay ∧ pay ≤ 2000) : leftV A P B T pay = rowsL A P B pay n := by
  have h : vPay A P B T pay = true := by
    unfold vPay
    rw [hv]
    unfold inR
    exact decide_eq_true (by omega)
  rw [leftV, if_pos h, hT, Int.toNat_natCast]

/-- The last number of a slice of the call's own. -/
theorem own_shape {w : World} {b n : Nat} {v : Value} {xs : List Int} (h : Own w b v xs) (hn : xs.length = n) (h1 : 1 ≤ n) : ∃ g cap, v = sl g n cap ∧ b ≤ g ∧ g < w.heap.size ∧ w.cell? ⟨g, n - 1, none⟩ = some (.int .i64 (xs.getD (n - 1) 0)) := by
  subst hn
  rcases id h.2 with ⟨_, hz⟩ | ⟨g, cap, cur, rfl, _⟩
  · omega
  have hl := h.lt g rfl
  exact ⟨g, cap, rfl, hl.1, hl.2, Own.cell (show Own w b (sl g xs.length cap) xs from h) rfl (xs.length - 1) (by omega)⟩

set_option maxRecDepth 100000 in
set_option maxHeartbeats 6400000 in
theorem FnLeastPay_of (himp : ∀ (A P B T : Int) (wx : World), Calls Try.prog 31 #[lv A P B T] wx fun e w' => e = .returned (.int .i64 (leastV A P B T)) ∧ Below wx.heap.size wx w')
    (himl : ∀ (A P B T pay : Int) (wx : World), Calls Try.prog 26 #[lv A P B T, .int .i64 pay] wx fun e w' => ∃ v, e = .returned v ∧ Own w' wx.heap.size v (leftV A P B T pay) ∧ Below wx.heap.size wx w')
    (a : Option Addr) (n cap : Nat) (w : World) (h : IsBytes w a n) (hc : n ≤ cap) :
    Calls Try.prog 6 #[.slice a n cap] w fun e w' => e = .returned (.bool true) ∧ Below w.heap.size w w' := by
  by_cases hbig : (1048576 : Int) < (n : Int)
  · go_enter Try.func6, Try.ntmps6
    go_wp2
    go_ret
    exact ⟨rfl, Below.refl _ _⟩
  · have HI := Lib.hid himp
    have HL := Lib.hid himl
    clear himp himl
    go_enter Try.func6, Try.ntmps6
    go_wp2_with fail
    refine (DrawLeastPay_any a n cap _ h hc).mono ?_
    rintro e w1 ⟨A, P, B, T, rfl, b1⟩
    clear h
    have hh := held_new w1 A P B T
    have bb : Below w.heap.size w (w1.alloc (.cells #[.int .i64 A, .int .i64 P, .int .i64 B, .int .i64 T] 24)) := b1.alloc b1.size _
    have hg : w1.heap.size < (w1.alloc (.cells #[.int .i64 A, .int .i64 P, .int .i64 B, .int .i64 T] 24)).heap.size := by simp
    obtain ⟨c0, c1, c2, c3⟩ := hh
    by_cases hneg : leastV A P B T < 0
    · generalize hd : leastV A P B T = d at *
      go_wp2_with fail
      generalize w1.alloc (.cells #[.int .i64 A, .int .i64 P, .int .i64 B, .int .i64 T] 24) = w2 at *
      generalize w1.heap.size = g3 at *
      have hh : Held w2 g3 A P B T := ⟨c0, c1, c2, c3⟩
      refine (HI.out A P B T _).mono ?_
      rintro e w3 ⟨rfl, hb3⟩
      rw [hd]
      have hh3 := hh.below hb3 hg
      have b3 := bb.trans (hb3.mono bb.size)
      have hg3 := Nat.lt_of_lt_of_le hg hb3.size
      clear hh hb3 c0 c1 c2 c3 bb hg
      obtain ⟨c0, c1, c2, c3⟩ := id hh3
      go_wp2_with fail
      refine (LeastPay_spec A P B T _).mono ?_
      rintro e w4 ⟨rfl, hb4⟩
      rw [hd]
      have hh4 := hh3.below hb4 hg3
      have b4 := b3.trans (hb4.mono b3.size)
      clear hh3 hb4 c0 c1 c2 c3 b3
      obtain ⟨c0, c1, c2, c3⟩ := id hh4
      go_wp2_with fail
      refine (LeastPay_spec A P B T _).mono ?_
      rintro e w5 ⟨rfl, hb5⟩
      rw [hd]
      have b5 := b4.trans (hb5.mono b4.size)
      clear hh4 hb5 c0 c1 c2 c3 b4
      go_wp2
      go_ret
      exact ⟨rfl, b5⟩
    · obtain ⟨hv, z, m, rfl, hd, hz, hm1, hm8, hl0, hl1, hza⟩ := least_facts hneg
      have E1 := Lib.hid (leftV_rows (pay := (z : Int)) hv rfl (by omega))
      have E2 := Lib.hid (fun (y : Int) (hy : 0 ≤ y ∧ y ≤ 2000) => leftV_rows (pay := y) hv rfl hy)
      have R1 := Lib.hid (fun (y : Int) => rowsL_at A P B y m (m - 1) (by omega))
      have hm : m - 1 + 1 = m := by omega
      rw [hm] at R1
      have dn : (0 : Int) ≤ (z : Int) := by omega
      clear hneg hv
      go_wp2_with fail
      generalize w1.alloc (.cells #[.int .i64 A, .int .i64 P, .int .i64 B, .int .i64 (m : Int)] 24) = w2 at *
      generalize w1.heap.size = g3 at *
      have hh : Held w2 g3 A P B m := ⟨c0, c1, c2, c3⟩
      refine (HI.out A P B m _).mono ?_
      rintro e w3 ⟨rfl, hb3⟩
      rw [hd]
      have hh3 := hh.below hb3 hg
      have b3 := bb.trans (hb3.mono bb.size)
      have hg3 := Nat.lt_of_lt_of_le hg hb3.size
      clear hh hb3 c0 c1 c2 c3 bb hg
      obtain ⟨c0, c1, c2, c3⟩ := id hh3
      go_wp2_with fail
      refine (LeastPay_spec A P B m _).mono ?_
      rintro e w4 ⟨rfl, hb4⟩
      rw [hd]
      have hh4 := hh3.below hb4 hg3
      have b4 := b3.trans (hb4.mono b3.size)
      have hg4 := Nat.lt_of_lt_of_le hg3 hb4.size
      clear hh3 hb4 c0 c1 c2 c3 b3
      obtain ⟨c0, c1, c2, c3⟩ := id hh4
      go_wp2_with fail
      refine (HL.out A P B m z _).mono ?_
      rintro e w5 ⟨v1, rfl, o1, hb5⟩
      rw [E1.out] at o1
      have hh5 := hh4.below hb5 hg4
      have b5 := b4.trans (hb5.mono b4.size)
      have hg5 := Nat.lt_of_lt_of_le hg4 hb5.size
      clear hh4 hb5 c0 c1 c2 c3 b4
      obtain ⟨c0, c1, c2, c3⟩ := id hh5
      obtain ⟨k1, cap1, rfl, _, hk1, hc1⟩ := own_shape o1 (rowsL_len _ _ _ _ _) hm1
      rw [R1.out, hl0] at hc1
      have M1 : IntKind.i64.wrap ((m : Int) - 1) = ((m - 1 : Nat) : Int) := by rw [IntWalk.i64_in _ (by omega)]; omega
      have M2 : ((m - 1 : Nat) : Int) < (m : Int) := by omega
      clear o1
      by_cases hz0 : z = 0
      · have ha0 := hza.1 hz0
        subst hz0
        subst ha0
        go_wp2_with fail
        refine (HL.out 0 P B m 0 _).mono ?_
        rintro e w6 ⟨v2, rfl, o2, hb6⟩
        rw [E2.out 0 (by omega)] at o2
        have hh6 := hh5.below hb6 hg5
        have b6 := b5.trans (hb6.mono b5.size)
        have hk6 := (hb6.cell (p := ⟨k1, m - 1, none⟩) hk1).trans hc1
        obtain ⟨k2, cap2, rfl, _, hk2, hc2⟩ := own_shape o2 (rowsL_len _ _ _ _ _) hm1
        rw [R1.out] at hc2
        obtain ⟨c0, c1, c2, c3⟩ := hh6
        clear o2 hh5 hb6 b5 hc1
        go_wp2
        go_ret
        exact ⟨rfl, b6⟩
      · have hz1 : (1 : Int) ≤ (z : Int) := by omega
        have ha0 : A ≠ 0 := fun e => hz0 (hza.2 e)
        have hpos := hl1 hz0
        have hzn : ¬ (z : Int) = 0 := by omega
        have mx : max ((z : Int) - 1) 0 = (z : Int) - 1 := by omega
        go_wp2_with fail
        refine (HL.out A P B m ((z : Int) - 1) _).mono ?_
        rintro e w6 ⟨v2, rfl, o2, hb6⟩
        rw [E2.out ((z : Int) - 1) (by omega)] at o2
        have hh6 := hh5.below hb6 hg5
        have b6 := b5.trans (hb6.mono b5.size)
        have hk6 := (hb6.cell (p := ⟨k1, m - 1, none⟩) hk1).trans hc1
        obtain ⟨k2, cap2, rfl, _, hk2, hc2⟩ := own_shape o2 (rowsL_len _ _ _ _ _) hm1
        rw [R1.out] at hc2
        obtain ⟨c0, c1, c2, c3⟩ := hh6
        clear o2 hh5 hb6 b5 hc1
        generalize leftN P B ((z : Int) - 1) A m = lz at *
        go_wp2
        go_ret
        refine ⟨?_, b6⟩
        show Ending.returned (.bool (((z : Int) == 0) == (A == 0))) = Ending.returned (.bool true)
        rw [beq_eq_false_iff_ne.2 hzn, beq_eq_false_iff_ne.2 ha0]
        rfl

end Go.Proofs.Ytfgafbjofkicdaa
