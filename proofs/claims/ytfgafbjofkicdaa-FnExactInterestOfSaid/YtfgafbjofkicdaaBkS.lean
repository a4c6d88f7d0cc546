/- LeastPay: the program's contract; sort.Search. -/
import Derived.Test.YtfgafbjofkicdaaBkX
namespace Go.Proofs.Ytfgafbjofkicdaa
open Go.RowKit

set_option maxHeartbeats 1600000 in
/-- Is enough paid by x? -/
theorem enough_impl (A P B : Int) (n g x : Nat) (w : World) (hl : IsBoxL w g A P B n) (hA : 0 ≤ A ∧ A ≤ 1000) (hB : 1 ≤ B ∧ B ≤ 10) (hP : 0 ≤ P ∧ P ≤ B) (hn : 1 ≤ n ∧ n ≤ 8) (hx : x ≤ 2000) :
    Calls Try.prog 66 #[.int .i64 x, .pointer (some ⟨g, 0, none⟩)] w fun e w' => e = .returned (.bool (decide (leftN P B x A n = 0))) ∧ Below w.heap.size w w' := by
  have HC := Lib.hid (bookOf_impl A P B n (wSame x) (leftN P B x A) (paidN P B x A) w (by omega) hB (by omega) (course_same hA hB hP (by omega) (by omega)))
  obtain ⟨⟨c0, c1, c2, c3⟩, _⟩ := hl.cells
  go_enter Try.func66, Try.ntmps66
  go_wp2_with fail
  refine HC.out.mono ?_
  rintro e w3 ⟨ev, pv, px, rfl, o1, o2, hb4⟩
  obtain ⟨a1, cp1, rfl, _⟩ := id o1.ints
  obtain ⟨a2, cp2, rfl, _⟩ := id o2.ints
  have k1 := field_left
  have k2 := field_now
  by_cases h0 : leftN P B x A n = 0
  · have E : Hid (decide (leftN P B x A n = 0) = true) := by show _ = _; exact decide_eq_true h0
    rw [h0]
    clear h0 o1 o2
    go_wp2
    go_ret
    exact ⟨ret_bool E.out.symm, hb4⟩
  · have E : Hid (decide (leftN P B x A n = 0) = false) := by show _ = _; exact decide_eq_false h0
    have h1 : (leftN P B x A n == 0) = false := by simpa using h0
    clear h0 o1 o2
    go_wp2
    go_ret
    exact ⟨ret_bool E.out.symm, hb4⟩

set_option maxRecDepth 100000 in
set_option maxHeartbeats 1600000 in
theorem search_impl (A P B : Int) (n g : Nat) (w : World) (hl : IsBoxL w g A P B n) (hA : 0 ≤ A ∧ A ≤ 1000) (hB : 1 ≤ B ∧ B ≤ 10) (hP : 0 ≤ P ∧ P ≤ B) (hn : 1 ≤ n ∧ n ≤ 8) :
    Calls Try.prog 65 #[.int .i64 2000, .func (.func 66) #[] #[.pointer (some ⟨g, 0, none⟩)]] w fun e w' => e = .returned (.int .i64 (leastF P B A n 2001 0)) ∧ Below w.heap.size w w' := by
  have HE := Lib.hid (fun (x : Nat) (hx : x ≤ 2000) (wx : World) (hb : Below w.heap.size w wx) => enough_impl A P B n g x wx ((hb.block _ hl.lt).trans hl) hA hB hP hn hx)
  have HM := Lib.hid (fun (x y : Nat) (h : x ≤ y) => left_mono (p := P) (b := B) (a := A) hB.1 hP.1 (show (x : Int) ≤ y by omega) n)
  have HN := Lib.hid (fun (x : Nat) => left_nonneg (pay := x) hB.1 hP.1 hA.1 n)
  have hend := left_end hB.1 hP hA hn.1
  have HL : Hid (∀ x : Nat, x ≤ 2000 → ¬ 0 < leftN P B x A n → (∀ y : Nat, y < x → 0 < leftN P B y A n) → leastF P B A n 2001 0 = x) := fun x hx h1 h2 => leastF_is x hx h1 h2
  clear hl hA hB hP hn
  go_enter Try.func65, Try.ntmps65
  go_wp2
  go_loopw [5, 6] (fun iv jv wr => ∃ i j : Nat, i ≤ j ∧ j ≤ 2000 ∧ iv = .int .i64 i ∧ jv = .int .i64 j ∧ (∀ y : Nat, y < i → 0 < leftN P B y A n) ∧ leftN P B j A n = 0 ∧ Below w.heap.size w wr) (fun iv jv _ => (intOf jv).toNat - (intOf iv).toNat)
  case atStart => exact ⟨0, 2000, by omega, by omega, rfl, rfl, fun y hy => by omega, hend, Below.refl _ _⟩
  case round =>
    obtain ⟨i, j, hij, hj, rfl, rfl, hlow, hhi, hbl⟩ := hrel
    rename World => wr
    have HLo := Lib.hid hlow
    have HHi := Lib.hid hhi
    clear hlow hhi hend
    by_cases hlt : i < j
    · have t1 : (i : Int) < (j : Int) := by omega
      obtain ⟨h, hh⟩ : ∃ h : Nat, h = (i + j) / 2 := ⟨_, rfl⟩
      have b1 : h < j := by omega
      have b2 : i ≤ h := by omega
      have hq := HE.out h (by omega) wr hbl
      have HH := Lib.hid (HM.out · h)
      have HNh := Lib.hid (HN.out h)
      have e1 : ((h : Nat) : Int) = ((i : Int) + (j : Int)) / 2 := by omega
      by_cases h0 : leftN P B h A n = 0
      · rw [decide_eq_true h0, e1] at hq
        have HQ := Lib.hid hq
        have H0 := Lib.hid h0
        clear hq h0 HHi
        go_wp2_with (go_at_call 66; refine HQ.out.mono ?_; rintro e w4 ⟨rfl, hb4⟩)
        have hb5 : Below w.heap.size w w4 := hbl.trans (hb4.mono hbl.size)
        clear hb4 HQ
        go_roundw
        case rel => exact ⟨i, h, b2, by omega, rfl, by rw [e1], HLo.out, H0.out, hb5⟩
        case measure => simp [intOf]; omega
      · rw [decide_eq_false h0, e1] at hq
        have HQ := Lib.hid hq
        have H0 := Lib.hid h0
        clear hq h0
        go_wp2_with (go_at_call 66; refine HQ.out.mono ?_; rintro e w4 ⟨rfl, hb4⟩)
        have hb5 : Below w.heap.size w w4 := hbl.trans (hb4.mono hbl.size)
        clear hb4 HQ
        go_roundw
        case rel =>
          refine ⟨h + 1, j, b1, hj, by rw [← e1]; go_num, rfl, fun y hy => ?_, HHi.out, hb5⟩
          have q1 := HH.out y (by omega)
          have q2 := H0.out
          have q3 := HNh.out
          omega
        case measure => simp [intOf]; omega
    · have hie : i = j := by omega
      subst hie
      have E : Hid (leastF P B A n 2001 0 = i) := HL.out i hj (by rw [HHi.out]; omega) HLo.out
      go_wp2
      go_ret
      exact ⟨ret_int E.out.symm, hbl⟩

set_option maxHeartbeats 1600000 in
theorem LeastPay_impl (A P B T : Int) (w : World) :
    Calls Try.prog 31 #[lv A P B T] w fun e w' => e = .returned (.int .i64 (leastV A P B T)) ∧ Below w.heap.size w w' := by
  have hb : Below w.heap.size w (w.alloc (.cells #[.int .i64 A, .int .i64 P, .int .i64 B, .int .i64 T] 24)) := (Below.refl _ _).alloc (Nat.le_refl _) _
  have hL := IsBoxL.new w A P B T
  have hv := ValidLoan_impl A P B T (w.alloc (.cells #[.int .i64 A, .int .i64 P, .int .i64 B, .int .i64 T] 24))
  cases h1 : vLoan A P B T
  · have E : Hid (leastV A P B T = -1) := by show _ = _; rw [leastV, if_neg (by rw [h1]; simp)]
    rw [h1] at hv
    have HV := Lib.hid hv
    clear hv h1
    go_enter Try.func31, Try.ntmps31
    go_wp2_with fail
    refine HV.out.mono ?_
    rintro e w2 ⟨rfl, hb2⟩
    have hb3 : Below w.heap.size w w2 := hb.trans (hb2.mono hb.size)
    go_wp2
    go_ret
    exact ⟨ret_int E.out.symm, hb3⟩
  · obtain ⟨hA, hB, hP, q4, q5⟩ := vLoan_iff.1 h1
    obtain ⟨n, rfl⟩ : ∃ n : Nat, T = n := ⟨T.toNat, by omega⟩
    have E : Hid (leastV A P B n = leastF P B A n 2001 0) := by show _ = _; rw [leastV, if_pos h1, Int.toNat_natCast]
    have hmf : ∀ (fn : Fn) (first cap : Array Value) (w : World), (Instr.makeFunc fn first cap).run Try.prog w = .ok (.func fn first cap) w := fun _ _ _ _ => rfl
    rw [h1] at hv
    have HV := Lib.hid hv
    have HA := Lib.hid hA
    have HB := Lib.hid hB
    have HP := Lib.hid hP
    have hn : 1 ≤ n ∧ n ≤ 8 := by omega
    clear hv h1 hA hB hP
    go_enter Try.func31, Try.ntmps31
    go_wp2_with fail
    refine HV.out.mono ?_
    rintro e w2 ⟨rfl, hb2⟩
    have hL2 : IsBoxL w2 w.heap.size A P B n := (hb2.block _ hL.lt).trans hL
    have hb3 : Below w.heap.size w w2 := hb.trans (hb2.mono hb.size)
    clear hb hb2 hL HV
    go_wp2_with fail
    refine (search_impl A P B n w.heap.size w2 hL2 HA.out HB.out HP.out hn).mono ?_
    rintro e w3 ⟨rfl, hb4⟩
    have B4 : Below w.heap.size w w3 := hb3.trans (hb4.mono hb3.size)
    go_wp2
    go_ret
    exact ⟨ret_int E.out.symm, B4⟩

end Go.Proofs.Ytfgafbjofkicdaa
