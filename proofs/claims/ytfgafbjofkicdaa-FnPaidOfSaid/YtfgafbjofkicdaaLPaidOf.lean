/- The law FnPaidOf, out of the contracts of the program and of the drawing. -/
import Derived.Test.YtfgafbjofkicdaaLLeftAfter
import Derived.Test.YtfgafbjofkicdaaPaidM
import Derived.Test.YtfgafbjofkicdaaTotL
import Derived.Test.YtfgafbjofkicdaaQK
namespace Go.Proofs.Ytfgafbjofkicdaa
open Go.RowKit

theorem paidV_no {A P B T pay : Int} (h : vPay A P B T pay = false) : paidV A P B T pay = [] := by rw [paidV, if_neg (by rw [h]; simp)]

theorem enter_total (args : Array Value) (w : World) : (callFunc 35 args).run Try.prog w = .ok (.enter 35 args) w := by rfl
theorem enter_LeastPay (args : Array Value) (w : World) : (callFunc 31 args).run Try.prog w = .ok (.enter 31 args) w := by rfl

theorem quietAt_load_loan {C : World → Prop} {o : Oper} {a : Act} (x : Operand) (ho : o.op = .load 24 x) (g : Nat) (A P B T : Int) (hx : a.eval x = .pointer (some ⟨g, 0, none⟩)) (hc : ∀ w, C w → IsBoxL w g A P B T) : ∀ w, C w → o.quietAt Try.prog a C w (lv A P B T) := by
  intro w hw
  unfold Oper.quietAt execOp
  simp only [ho, hx, Instr.loadAt, Instr.sureAddr, Sem.run_bind, Sem.run_pure, Result.andThen_ok, run_loadVar_row w g 24 24 _ (0, 0) _ (hc w hw) Try.underlying24 rfl (by kernel_rfl)]
  exact ⟨rfl, rfl⟩

set_option maxRecDepth 100000 in
set_option maxHeartbeats 6400000 in
theorem FnPaidOf_of (hdraw : ∀ (a : Option Addr) (n cap : Nat) (w : World), IsBytes w a n → n ≤ cap → Calls Try.prog 33 #[.slice a n cap] w fun e w' => ∃ A P B T x, e = .returned (.tuple #[lv A P B T, .int .i64 x]) ∧ Below w.heap.size w w')
    (himl : ∀ (A P B T pay : Int) (wx : World), Calls Try.prog 26 #[lv A P B T, .int .i64 pay] wx fun e w' => ∃ v, e = .returned v ∧ Own w' wx.heap.size v (leftV A P B T pay) ∧ Below wx.heap.size wx w')
    (himp : ∀ (A P B T pay : Int) (wx : World), Calls Try.prog 29 #[lv A P B T, .int .i64 pay] wx fun e w' => ∃ v, e = .returned v ∧ Own w' wx.heap.size v (paidV A P B T pay) ∧ Below wx.heap.size wx w')
    (himm : ∀ (A P B T : Int) (wx : World), Calls Try.prog 31 #[lv A P B T] wx fun e w' => e = .returned (.int .i64 (leastV A P B T)) ∧ Below wx.heap.size wx w')
    (a : Option Addr) (n cap : Nat) (w : World) (h : IsBytes w a n) (hc : n ≤ cap) :
    Calls Try.prog 7 #[.slice a n cap] w fun e w' => e = .returned (.bool true) ∧ Below w.heap.size w w' := by
  by_cases hbig : (1048576 : Int) < (n : Int)
  · go_enter Try.func7, Try.ntmps7
    go_wp2
    go_ret
    exact ⟨rfl, Below.refl _ _⟩
  · have HI := Lib.hid himp
    have HL := Lib.hid himl
    have HD := Lib.hid (hdraw a n cap w h hc)
    have HM := Lib.hid himm
    clear himp himl himm hdraw h
    go_enter Try.func7, Try.ntmps7
    go_wp2_with fail
    refine HD.out.mono ?_
    rintro e w1 ⟨A, P, B, T, x, rfl, b1⟩
    clear HD
    have hh := IsBoxL.new w1 A P B T
    have bb : Below w.heap.size w (w1.alloc (.cells #[.int .i64 A, .int .i64 P, .int .i64 B, .int .i64 T] 24)) := b1.alloc b1.size _
    obtain ⟨⟨c0, c1, c2, c3⟩, _⟩ := hh.cells
    cases hv : vPay A P B T x
    · have E := Lib.hid (paidV_no hv)
      clear hv
      go_wp2_with fail
      generalize w1.alloc (.cells #[.int .i64 A, .int .i64 P, .int .i64 B, .int .i64 T] 24) = w2 at *
      generalize w1.heap.size = g3 at *
      refine (HI.out A P B T x _).mono ?_
      rintro e w3 ⟨v1, rfl, o1, hb3⟩
      rw [E.out] at o1
      have hh3 : IsBoxL w3 g3 A P B T := (hb3.block _ hh.lt).trans hh
      have b3 := bb.trans (hb3.mono bb.size)
      obtain ⟨av, cv, rfl, _⟩ := id o1.ints
      clear hh hb3 c0 c1 c2 c3
      obtain ⟨⟨c0, c1, c2, c3⟩, _⟩ := hh3.cells
      go_wp2_with fail
      refine (PaidOf_spec A P B T x _).mono ?_
      rintro e w4 ⟨v2, rfl, o2, _, hb4⟩
      rw [E.out] at o2
      have hh4 : IsBoxL w4 g3 A P B T := (hb4.block _ hh3.lt).trans hh3
      have b4 := b3.trans (hb4.mono b3.size)
      have o1' := o1.below hb4
      clear hh3 hb4 c0 c1 c2 c3 b3 o1
      go_wp2_with fail
      refine (equalInts_quiet _ _ _ _ _ o1'.ints o2.ints (by simp)).mono ?_
      rintro e w5 ⟨rfl, q, rfl⟩
      rw [decide_eq_true rfl]
      have b5 := below_drewN b4 q
      have hh5 : IsBoxL (w4.drewN q) g3 A P B T := ((below_drewN (Below.refl w4.heap.size w4) q).block _ hh4.lt).trans hh4
      have o5 := o1'.below (below_drewN (Below.refl _ _) q)
      generalize w4.drewN q = w5 at *
      clear o2 o1' hh4 b4
      obtain ⟨⟨c0, c1, c2, c3⟩, _⟩ := hh5.cells
      go_wp2_with fail
      refine (PaidOf_spec A P B T x _).mono ?_
      rintro e w6 ⟨v3, rfl, o6, _, hb6⟩
      rw [E.out] at o6
      have b6 := b5.trans (hb6.mono b5.size)
      have o7 := o5.below hb6
      clear hb6 c0 c1 c2 c3 b5 o5
      go_wp2_with fail
      refine (equalInts_quiet _ _ _ _ _ o7.ints o6.ints (by simp)).mono ?_
      rintro e w7 ⟨rfl, q2, rfl⟩
      rw [decide_eq_true rfl]
      have b7 := below_drewN b6 q2
      clear o6 o7 b6
      go_wp2
      go_ret
      exact ⟨rfl, b7⟩
    · obtain ⟨hvl, p1, p2⟩ := vPay_parts hv
      obtain ⟨hA, hB, hP, hT1, hT8⟩ := vLoan_iff.1 hvl
      obtain ⟨m, rfl⟩ : ∃ m : Nat, T = m := ⟨T.toNat, by omega⟩
      have hm1 : 1 ≤ m := by omega
      have E1 : Hid (leftV A P B m x = rowsL A P B x m) := by show _ = _; rw [leftV, if_pos hv, Int.toNat_natCast]
      have E2 : Hid (paidV A P B m x = paidL A P B x m) := by show _ = _; rw [paidV, if_pos hv, Int.toNat_natCast]
      have hF := paid_facts (m := m) hA hB hP ⟨p1, p2⟩ (by omega)
      have hLV : leastV A P B m = leastF P B A m 2001 0 := by rw [leastV, if_pos hvl, Int.toNat_natCast]
      rw [← hLV] at hF
      have hlb := left_bound hB.1 hP hA p1 (show m ≤ 8 by omega)
      have HPB : Hid (∀ t, t < m → 0 ≤ paidN P B x A t ∧ paidN P B x A t ≤ 2000) := fun t ht => by have := (step_facts hA hB hP p1 (t := t) (by omega)).2.2.2.2.1; omega
      have HR := Lib.hid (fun t (ht : t < m) => rowsL_at A P B x m t ht)
      have HQ := Lib.hid (fun t (ht : t < m) => paidL_at A P B x m t ht)
      have mn : ((m : Int) == 0) = false := beq_eq_false_iff_ne.2 (by omega)
      clear hv hvl
      go_wp2_with fail
      generalize w1.alloc (.cells #[.int .i64 A, .int .i64 P, .int .i64 B, .int .i64 (m : Int)] 24) = w2 at *
      generalize w1.heap.size = g3 at *
      refine (HI.out A P B m x _).mono ?_
      rintro e w3 ⟨v1, rfl, o1, hb3⟩
      rw [E2.out] at o1
      have hh3 : IsBoxL w3 g3 A P B m := (hb3.block _ hh.lt).trans hh
      have b3 := bb.trans (hb3.mono bb.size)
      obtain ⟨k1, cap1, rfl, _, _, _⟩ := own_shape o1 (paidL_len _ _ _ _ _) hm1
      have o1 := o1.base bb.size
      clear hh hb3 c0 c1 c2 c3 bb
      obtain ⟨⟨c0, c1, c2, c3⟩, _⟩ := hh3.cells
      go_wp2_with fail
      refine (PaidOf_spec A P B m x _).mono ?_
      rintro e w4 ⟨v2, rfl, o2, _, hb4⟩
      rw [E2.out] at o2
      have hh4 : IsBoxL w4 g3 A P B m := (hb4.block _ hh3.lt).trans hh3
      have b4 := b3.trans (hb4.mono b3.size)
      have o1' := o1.below hb4
      clear hh3 hb4 c0 c1 c2 c3 b3 o1
      go_wp2_with fail
      refine (equalInts_quiet _ _ _ _ _ o1'.ints o2.ints (by rw [paidL_len]; omega)).mono ?_
      rintro e w5 ⟨rfl, q, rfl⟩
      rw [decide_eq_true rfl]
      have b5 := below_drewN b4 q
      have hh5 : IsBoxL (w4.drewN q) g3 A P B m := ((below_drewN (Below.refl w4.heap.size w4) q).block _ hh4.lt).trans hh4
      have o5 := o1'.below (below_drewN (Below.refl _ _) q)
      generalize w4.drewN q = w5 at *
      clear o2 o1' hh4 b4
      obtain ⟨⟨c0, c1, c2, c3⟩, _⟩ := hh5.cells
      go_wp2_with fail
      refine (HL.out A P B m x _).mono ?_
      rintro e w6 ⟨v3, rfl, o6, hb6⟩
      rw [E1.out] at o6
      have hh6 : IsBoxL w6 g3 A P B m := (hb6.block _ hh5.lt).trans hh5
      have b6 := b5.trans (hb6.mono b5.size)
      have o7 := o5.below hb6
      obtain ⟨k2, cap2, rfl, _, _, _⟩ := own_shape o6 (rowsL_len _ _ _ _ _) hm1
      have o6 := o6.base b5.size
      clear hb6 c0 c1 c2 c3 b5 o5 hh5
      obtain ⟨⟨c0, c1, c2, c3⟩, _⟩ := hh6.cells
      have cL := o6.cell (rowsL_len _ _ _ _ _) (m - 1) (by omega)
      rw [HR.out (m - 1) (by omega), Nat.sub_add_cancel hm1] at cL
      have hk2 : k2 < w6.heap.size := (o6.lt k2 rfl).2
      have M1 : IntKind.i64.wrap ((m : Int) - 1) = ((m - 1 : Nat) : Int) := by rw [IntWalk.i64_in _ (by omega)]; omega
      have M2 : ((m - 1 : Nat) : Int) < (m : Int) := by omega
      have hsf : SumFits (paidL A P B x m) := sumFits_abs _ 2000 (fun z hz => by
        obtain ⟨j, hj, rfl⟩ := List.getElem_of_mem hz
        rw [paidL_len] at hj
        have h1 := HQ.out j hj
        have h2 := HPB.out j hj
        have e : (paidL A P B x m).getD j 0 = (paidL A P B x m)[j]'(by rw [paidL_len]; exact hj) := by simp [List.getD, paidL_len, hj]
        rw [← e, h1]; omega) (by decide) (by rw [paidL_len]; omega)
      have htb := tot_abs (paidL A P B x m) 2000 (fun z hz => by
        obtain ⟨j, hj, rfl⟩ := List.getElem_of_mem hz
        rw [paidL_len] at hj
        have h1 := HQ.out j hj
        have h2 := HPB.out j hj
        have e : (paidL A P B x m).getD j 0 = (paidL A P B x m)[j]'(by rw [paidL_len]; exact hj) := by simp [List.getD, paidL_len, hj]
        rw [← e, h1]; omega)
      rw [paidL_len] at htb
      have HT : Hid (∀ wx, Below w6.heap.size w6 wx → Calls Try.prog 35 #[sl k1 m cap1] wx fun e w' => e = .returned (.int .i64 (tot (paidL A P B x m))) ∧ wx = w') := fun wx hb => total_any _ _ _ ((o7.below hb).ints) (by rw [paidL_len]; omega) hsf
      have HM2 := Lib.hid (HM.out A P B m)
      obtain ⟨f1, f2, f3⟩ := hF
      have KX := Lib.hid hh6
      have KB := Lib.hid b6
      clear o7 o6 HM hLV hsf
      generalize tot (paidL A P B x m) = TX at *
      generalize leftN P B x A m = LF at *
      generalize leastV A P B m = LV at *
      have HA0 : Hid (∀ w', Below w6.heap.size w6 w' → w'.cell? ⟨g3, 0, none⟩ = some (.int .i64 A)) := fun w' hb => ((show IsBoxL w' g3 A P B m from (hb.block _ KX.out.lt).trans KX.out).cells).1.1
      have HP0 : Hid (∀ w', Below w6.heap.size w6 w' → w'.cell? ⟨g3, 1, none⟩ = some (.int .i64 P)) := fun w' hb => ((show IsBoxL w' g3 A P B m from (hb.block _ KX.out.lt).trans KX.out).cells).1.2.1
      have HL0 : Hid (∀ w', Below w6.heap.size w6 w' → w'.cell? ⟨k2, m - 1, none⟩ = some (.int .i64 LF)) := fun w' hb => (hb.cell (p := ⟨k2, m - 1, none⟩) hk2).trans cL
      have HB0 : Hid (∀ w', Below w6.heap.size w6 w' → IsBoxL w' g3 A P B m) := fun w' hb => (hb.block _ KX.out.lt).trans KX.out
      have HTC : Hid (∀ w', Below w6.heap.size w6 w' → Calls Try.prog 35 #[sl k1 m cap1] w' fun e w'' => e = .returned (.int .i64 TX) ∧ Below w6.heap.size w6 w'') := fun w' hb => (HT.out w' hb).mono (by rintro e w'' ⟨rfl, rfl⟩; exact ⟨rfl, hb⟩)
      have HMC : Hid (∀ w', Below w6.heap.size w6 w' → Calls Try.prog 31 #[lv A P B m] w' fun e w'' => e = .returned (.int .i64 LV) ∧ Below w6.heap.size w6 w'') := fun w' hb => (HM2.out w').mono (by rintro e w'' ⟨rfl, hb2⟩; exact ⟨rfl, hb.trans (hb2.mono hb.size)⟩)
      have g1 : decide (A ≤ TX + LF) = true := decide_eq_true f1
      have u1 : IntKind.i64.wrap (TX + LF) = TX + LF := IntWalk.i64_in _ (by omega)
      clear cL HT HM2 htb
      by_cases hp0 : 0 < P
      · have g2 : decide (0 < P) = true := decide_eq_true hp0
        by_cases hxl : x < LV
        · have g3' : decide (x < LV) = true := decide_eq_true hxl
          go_wp2
          refine wp_region_quiet_below (by kernel_rfl) (by kernel_rfl) ?_
          go_simp
          repeat (first
            | go_big_quiet_skip
            | (refine wpQuiet_val (.int .i64 A) (by kernel_rfl) (quietAt_load_int _ rfl ⟨g3, 0, none⟩ _ rfl HA0.out) ?_; go_simp)
            | (refine wpQuiet_val (.int .i64 P) (by kernel_rfl) (quietAt_load_int _ rfl ⟨g3, 1, none⟩ _ rfl HP0.out) ?_; go_simp)
            | (refine wpQuiet_val (.int .i64 LF) (by kernel_rfl) (quietAt_load_int _ rfl ⟨k2, m - 1, none⟩ _ rfl HL0.out) ?_; go_simp)
            | (refine wpQuiet_val (lv A P B m) (by kernel_rfl) (quietAt_load_loan _ rfl g3 A P B m rfl HB0.out) ?_; go_simp)
            | (refine wpQuiet_val (.int .i64 TX) (by kernel_rfl) (quietAt_callf _ enter_total _ _ rfl #[sl k1 m cap1] (by simp [go_sem]) HTC.out) ?_; go_simp)
            | (refine wpQuiet_val (.int .i64 LV) (by kernel_rfl) (quietAt_callf _ enter_LeastPay _ _ rfl #[lv A P B m] (by simp [go_sem]) HMC.out) ?_; go_simp)
            | (go_big_quiet_want; go_big_quiet_op; first | go_big_quiet_on | (refine ⟨_, fun _ _ => rfl, ?_⟩; go_big_quiet_on)))
          refine wpQuiet_nil ?_
          intro w' hw'
          go_wp2
          go_ret
          exact ⟨rfl, KB.out.trans (hw'.mono KB.out.size)⟩
        · have g3' : decide (x < LV) = false := decide_eq_false hxl
          have g6 : (LF == 0) = true := beq_iff_eq.2 (f3 (by omega))
          have g7 : decide (LF = 0) = true := decide_eq_true (f3 (by omega))
          clear f3
          go_wp2
          refine wp_region_quiet_below (by kernel_rfl) (by kernel_rfl) ?_
          go_simp
          repeat (first
            | go_big_quiet_skip
            | (refine wpQuiet_val (.int .i64 A) (by kernel_rfl) (quietAt_load_int _ rfl ⟨g3, 0, none⟩ _ rfl HA0.out) ?_; go_simp)
            | (refine wpQuiet_val (.int .i64 P) (by kernel_rfl) (quietAt_load_int _ rfl ⟨g3, 1, none⟩ _ rfl HP0.out) ?_; go_simp)
            | (refine wpQuiet_val (.int .i64 LF) (by kernel_rfl) (quietAt_load_int _ rfl ⟨k2, m - 1, none⟩ _ rfl HL0.out) ?_; go_simp)
            | (refine wpQuiet_val (lv A P B m) (by kernel_rfl) (quietAt_load_loan _ rfl g3 A P B m rfl HB0.out) ?_; go_simp)
            | (refine wpQuiet_val (.int .i64 TX) (by kernel_rfl) (quietAt_callf _ enter_total _ _ rfl #[sl k1 m cap1] (by simp [go_sem]) HTC.out) ?_; go_simp)
            | (refine wpQuiet_val (.int .i64 LV) (by kernel_rfl) (quietAt_callf _ enter_LeastPay _ _ rfl #[lv A P B m] (by simp [go_sem]) HMC.out) ?_; go_simp)
            | (go_big_quiet_want; go_big_quiet_op; first | go_big_quiet_on | (refine ⟨_, fun _ _ => rfl, ?_⟩; go_big_quiet_on)))
          refine wpQuiet_nil ?_
          intro w' hw'
          go_wp2
          go_ret
          exact ⟨rfl, KB.out.trans (hw'.mono KB.out.size)⟩
      · have g2 : decide (0 < P) = false := decide_eq_false hp0
        have f2' := f2 (by omega)
        have g4 : decide (TX + LF = A) = true := decide_eq_true f2'
        have g5 : (TX + LF == A) = true := beq_iff_eq.2 f2'
        by_cases hxl : x < LV
        · have g3' : decide (x < LV) = true := decide_eq_true hxl
          go_wp2
          refine wp_region_quiet_below (by kernel_rfl) (by kernel_rfl) ?_
          go_simp
          repeat (first
            | go_big_quiet_skip
            | (refine wpQuiet_val (.int .i64 A) (by kernel_rfl) (quietAt_load_int _ rfl ⟨g3, 0, none⟩ _ rfl HA0.out) ?_; go_simp)
            | (refine wpQuiet_val (.int .i64 P) (by kernel_rfl) (quietAt_load_int _ rfl ⟨g3, 1, none⟩ _ rfl HP0.out) ?_; go_simp)
            | (refine wpQuiet_val (.int .i64 LF) (by kernel_rfl) (quietAt_load_int _ rfl ⟨k2, m - 1, none⟩ _ rfl HL0.out) ?_; go_simp)
            | (refine wpQuiet_val (lv A P B m) (by kernel_rfl) (quietAt_load_loan _ rfl g3 A P B m rfl HB0.out) ?_; go_simp)
            | (refine wpQuiet_val (.int .i64 TX) (by kernel_rfl) (quietAt_callf _ enter_total _ _ rfl #[sl k1 m cap1] (by simp [go_sem]) HTC.out) ?_; go_simp)
            | (refine wpQuiet_val (.int .i64 LV) (by kernel_rfl) (quietAt_callf _ enter_LeastPay _ _ rfl #[lv A P B m] (by simp [go_sem]) HMC.out) ?_; go_simp)
            | (go_big_quiet_want; go_big_quiet_op; first | go_big_quiet_on | (refine ⟨_, fun _ _ => rfl, ?_⟩; go_big_quiet_on)))
          refine wpQuiet_nil ?_
          intro w' hw'
          go_wp2
          go_ret
          exact ⟨rfl, KB.out.trans (hw'.mono KB.out.size)⟩
        · have g3' : decide (x < LV) = false := decide_eq_false hxl
          have g6 : (LF == 0) = true := beq_iff_eq.2 (f3 (by omega))
          have g7 : decide (LF = 0) = true := decide_eq_true (f3 (by omega))
          clear f3
          go_wp2
          refine wp_region_quiet_below (by kernel_rfl) (by kernel_rfl) ?_
          go_simp
          repeat (first
            | go_big_quiet_skip
            | (refine wpQuiet_val (.int .i64 A) (by kernel_rfl) (quietAt_load_int _ rfl ⟨g3, 0, none⟩ _ rfl HA0.out) ?_; go_simp)
            | (refine wpQuiet_val (.int .i64 P) (by kernel_rfl) (quietAt_load_int _ rfl ⟨g3, 1, none⟩ _ rfl HP0.out) ?_; go_simp)
            | (refine wpQuiet_val (.int .i64 LF) (by kernel_rfl) (quietAt_load_int _ rfl ⟨k2, m - 1, none⟩ _ rfl HL0.out) ?_; go_simp)
            | (refine wpQuiet_val (lv A P B m) (by kernel_rfl) (quietAt_load_loan _ rfl g3 A P B m rfl HB0.out) ?_; go_simp)
            | (refine wpQuiet_val (.int .i64 TX) (by kernel_rfl) (quietAt_callf _ enter_total _ _ rfl #[sl k1 m cap1] (by simp [go_sem]) HTC.out) ?_; go_simp)
            | (refine wpQuiet_val (.int .i64 LV) (by kernel_rfl) (quietAt_callf _ enter_LeastPay _ _ rfl #[lv A P B m] (by simp [go_sem]) HMC.out) ?_; go_simp)
            | (go_big_quiet_want; go_big_quiet_op; first | go_big_quiet_on | (refine ⟨_, fun _ _ => rfl, ?_⟩; go_big_quiet_on)))
          refine wpQuiet_nil ?_
          intro w' hw'
          go_wp2
          go_ret
          exact ⟨rfl, KB.out.trans (hw'.mono KB.out.size)⟩

end Go.Proofs.Ytfgafbjofkicdaa
