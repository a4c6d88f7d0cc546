/- LeftAfter, PaidOf, LastPaid: the program's contracts. -/
import Derived.Test.YtfgafbjofkicdaaBkO
import Derived.Test.YtfgafbjofkicdaaLoanV
namespace Go.Proofs.Ytfgafbjofkicdaa
open Go.RowKit

theorem seqL_at (f : Nat → Int) (n i : Nat) (h : i < n) : (seqL f n).getD i 0 = f i := by simp [seqL, List.getD, h]

theorem seqL_left (A P B pay : Int) (n : Nat) : seqL (fun t => leftN P B pay A (t + 1)) n = rowsL A P B pay n := rfl
theorem seqL_paid (A P B pay : Int) (n : Nat) : seqL (paidN P B pay A) n = paidL A P B pay n := rfl

/-- The course by the same pay. -/
theorem course_same {A P B pay : Int} {n : Nat} (hA : 0 ≤ A ∧ A ≤ 1000) (hB : 1 ≤ B ∧ B ≤ 10) (hP : 0 ≤ P ∧ P ≤ B) (hpay : 0 ≤ pay ∧ pay ≤ 2000) (hn : n ≤ 8) : Course P B A n (wSame pay) (leftN P B pay A) (paidN P B pay A) := by
  have hb : ∀ t, t ≤ n → 0 ≤ leftN P B pay A t ∧ leftN P B pay A t ≤ 256000 := fun t ht => left_bound hB.1 hP hA hpay.1 (by omega)
  refine ⟨rfl, fun t ht => ?_, fun t ht => ?_, fun t ht => ?_, fun t ht => ?_, fun t ht wx => ?_⟩
  · have := paid_left P B pay A t
    omega
  · have := hb t ht
    omega
  · have h1 := hb t (by omega)
    have h2 := intr_nonneg hB.1 hP.1 h1.1
    have h3 := intr_le hB.1 hP.2 h1.1
    omega
  · have h1 := hb t (by omega)
    have h2 := intr_nonneg hB.1 hP.1 h1.1
    unfold paidN dueL
    omega
  · have e : paidN P B pay A t = min pay (leftN P B pay A t + intr (leftN P B pay A t) P B) := by unfold paidN dueL; omega
    rw [e]
    exact payOfS_impl _ _ _ _

/-- What is left of equal parts. -/
def lfE (A : Int) (n t : Nat) : Int := if t = n then 0 else A - A / n * t

theorem lfE_facts {A : Int} {n t : Nat} (hA : 0 ≤ A ∧ A ≤ 1000) (hn : 1 ≤ n) (ht : t < n) : (0 ≤ lfE A n t ∧ lfE A n t ≤ 1000) ∧ lfE A n t - lastAt A n t = lfE A n (t + 1) ∧ lastAt A n t = (if t + 1 = n then lfE A n t else A / n) ∧ (0 ≤ lastAt A n t ∧ lastAt A n t ≤ 1000) := by
  have hn0 : (n : Int) ≠ 0 := by omega
  have d0 := Int.ediv_nonneg hA.1 (show 0 ≤ (n : Int) by omega)
  have m0 := Int.emod_nonneg A hn0
  have m1 := Int.emod_lt_of_pos A (show 0 < (n : Int) by omega)
  have dm := Int.mul_ediv_add_emod A n
  have l1 : A / n * t ≤ A / n * n := Int.mul_le_mul_of_nonneg_left (by omega) d0
  have l2 : A / n * t + A / n ≤ A / n * n := by
    have := Int.mul_le_mul_of_nonneg_left (show (t : Int) + 1 ≤ n by omega) d0
    rw [Int.mul_add, Int.mul_one] at this
    exact this
  have c1 : (n : Int) * (A / n) = A / n * n := Int.mul_comm _ _
  have l0 := Int.mul_nonneg d0 (show 0 ≤ (t : Int) by omega)
  have e1 : A / n * ((t + 1 : Nat) : Int) = A / n * t + A / n := by rw [Int.natCast_add, Int.mul_add]; simp
  unfold lfE lastAt
  rw [if_neg (show ¬ t = n by omega)]
  by_cases e : t + 1 = n
  · rw [if_pos e, if_pos e, if_pos e]
    have e2 : A / n * (n : Int) = A / n * t + A / n := by rw [← e1, e]
    refine ⟨⟨by omega, by omega⟩, by omega, by omega, by omega, by omega⟩
  · rw [if_neg e, if_neg e, if_neg e, e1]
    refine ⟨⟨by omega, by omega⟩, by omega, rfl, by omega, by omega⟩

theorem course_equal {A : Int} {n : Nat} (hA : 0 ≤ A ∧ A ≤ 1000) (hn : 1 ≤ n ∧ n ≤ 8) : Course 0 1 A n (wEqual A 0 1 n) (lfE A n) (lastAt A n) := by
  have hi : ∀ x, intr x 0 1 = 0 := fun x => intr_free (by omega)
  refine ⟨?_, fun t ht => ?_, fun t ht => ?_, fun t ht => ?_, fun t ht => ?_, fun t ht wx => ?_⟩
  · unfold lfE; rw [if_neg (by omega)]; simp
  · have := (lfE_facts hA hn.1 ht).2.1
    rw [hi]; omega
  · by_cases e : t = n
    · unfold lfE; rw [if_pos e]; omega
    · have := (lfE_facts hA hn.1 (show t < n by omega)).1
      omega
  · rw [hi]; omega
  · have := (lfE_facts hA hn.1 ht).2.2.2
    omega
  · have e := (lfE_facts hA hn.1 ht).2.2.1
    rw [hi, Int.add_zero, e]
    have h := payOfE_impl A 0 1 n (lfE A n t) (decide (t + 1 = n)) wx hA (by omega)
    by_cases e2 : t + 1 = n
    · rw [if_pos e2]
      simpa [e2] using h
    · rw [if_neg e2]
      simpa [e2] using h

theorem seqL_last (A : Int) (n : Nat) : seqL (lastAt A n) n = lastL A n := by
  have h1 := seqL_len (lastAt A n) n
  have h2 := lastL_len A n
  refine List.ext_getElem (by omega) fun i hi hj => ?_
  have a1 := seqL_at (lastAt A n) n i (by omega)
  have a2 := lastL_at A n i (by omega)
  simp only [List.getD, List.getElem?_eq_getElem hi, Option.getD_some] at a1
  simp only [List.getD, List.getElem?_eq_getElem hj, Option.getD_some] at a2
  rw [a1, a2]

theorem field_left (A P B T lf px : Int) (a1 a2 : Option Addr) (n1 c1 n2 c2 : Nat) (w : World) : (Instr.field 62 (bkv A P B T lf (.slice a1 n1 c1) px (.slice a2 n2 c2)) 1).run Try.prog w = .ok (.agg #[.int .i64 lf, .slice a1 n1 c1]) w := by rfl
theorem field_paid (A P B T lf px : Int) (a1 a2 : Option Addr) (n1 c1 n2 c2 : Nat) (w : World) : (Instr.field 62 (bkv A P B T lf (.slice a1 n1 c1) px (.slice a2 n2 c2)) 2).run Try.prog w = .ok (.agg #[.int .i64 px, .slice a2 n2 c2]) w := by rfl
theorem field_ends (lf : Int) (a1 : Option Addr) (n1 c1 : Nat) (w : World) : (Instr.field 60 (.agg #[.int .i64 lf, .slice a1 n1 c1]) 1).run Try.prog w = .ok (.slice a1 n1 c1) w := by rfl
theorem field_now (lf : Int) (a1 : Option Addr) (n1 c1 : Nat) (w : World) : (Instr.field 60 (.agg #[.int .i64 lf, .slice a1 n1 c1]) 0).run Try.prog w = .ok (.int .i64 lf) w := by rfl

set_option maxHeartbeats 1600000 in
theorem LeftAfter_impl (A P B T pay : Int) (w : World) :
    Calls Try.prog 26 #[lv A P B T, .int .i64 pay] w fun e w' => ∃ v, e = .returned v ∧ Own w' w.heap.size v (leftV A P B T pay) ∧ Below w.heap.size w w' := by
  have hb : Below w.heap.size w (w.alloc (.cells #[.int .i64 A, .int .i64 P, .int .i64 B, .int .i64 T] 24)) := (Below.refl _ _).alloc (Nat.le_refl _) _
  have hL := IsBoxL.new w A P B T
  have hv := canPayBack_impl A P B T pay (w.alloc (.cells #[.int .i64 A, .int .i64 P, .int .i64 B, .int .i64 T] 24))
  cases h1 : vPay A P B T pay
  · have E : Hid (leftV A P B T pay = []) := by show _ = _; rw [leftV, if_neg (by rw [h1]; simp)]
    rw [h1] at hv
    have HV := Lib.hid hv
    clear hv h1
    go_enter Try.func26, Try.ntmps26
    go_wp2_with fail
    refine HV.out.mono ?_
    rintro e w2 ⟨rfl, hb2⟩
    have hb3 : Below w.heap.size w w2 := hb.trans (hb2.mono hb.size)
    go_wp2
    go_ret
    exact ⟨_, rfl, by rw [E.out]; exact ⟨rfl, .inl ⟨rfl, rfl⟩⟩, hb3⟩
  · obtain ⟨p1, p2, p3⟩ := vPay_parts h1
    obtain ⟨hA, hB, hP, q4, q5⟩ := vLoan_iff.1 p1
    obtain ⟨n, rfl⟩ : ∃ n : Nat, T = n := ⟨T.toNat, by omega⟩
    have E : Hid (leftV A P B n pay = rowsL A P B pay n) := by show _ = _; rw [leftV, if_pos h1, Int.toNat_natCast]
    have HC := Lib.hid (fun wx => bookOf_impl A P B n (wSame pay) (leftN P B pay A) (paidN P B pay A) wx (by omega) hB (by omega) (course_same hA hB hP ⟨p2, p3⟩ (by omega)))
    rw [h1] at hv
    have HV := Lib.hid hv
    clear hv h1
    go_enter Try.func26, Try.ntmps26
    go_wp2_with fail
    refine HV.out.mono ?_
    rintro e w2 ⟨rfl, hb2⟩
    have hL2 : IsBoxL w2 w.heap.size A P B n := (hb2.block _ hL.lt).trans hL
    have hb3 : Below w.heap.size w w2 := hb.trans (hb2.mono hb.size)
    obtain ⟨⟨c0, c1, c2, c3⟩, _⟩ := hL2.cells
    clear hb hb2 hL HV
    go_wp2_with fail
    refine (HC.out _).mono ?_
    rintro e w3 ⟨ev, pv, px, rfl, o1, o2, hb4⟩
    rw [seqL_left] at o1
    rw [seqL_paid] at o2
    obtain ⟨a1, cp1, rfl, _⟩ := id o1.ints
    obtain ⟨a2, cp2, rfl, _⟩ := id o2.ints
    have B4 : Below w.heap.size w w3 := hb3.trans (hb4.mono hb3.size)
    have O1 := o1.base hb3.size
    have HO := Lib.hid O1
    clear o1 o2 O1 hb4
    have k1 := field_left
    have k2 := field_ends
    go_wp2
    go_ret
    exact ⟨_, rfl, by rw [E.out]; exact HO.out, B4⟩

set_option maxHeartbeats 1600000 in
theorem PaidOf_impl (A P B T pay : Int) (w : World) :
    Calls Try.prog 29 #[lv A P B T, .int .i64 pay] w fun e w' => ∃ v, e = .returned v ∧ Own w' w.heap.size v (paidV A P B T pay) ∧ Below w.heap.size w w' := by
  have hb : Below w.heap.size w (w.alloc (.cells #[.int .i64 A, .int .i64 P, .int .i64 B, .int .i64 T] 24)) := (Below.refl _ _).alloc (Nat.le_refl _) _
  have hL := IsBoxL.new w A P B T
  have hv := canPayBack_impl A P B T pay (w.alloc (.cells #[.int .i64 A, .int .i64 P, .int .i64 B, .int .i64 T] 24))
  cases h1 : vPay A P B T pay
  · have E : Hid (paidV A P B T pay = []) := by show _ = _; rw [paidV, if_neg (by rw [h1]; simp)]
    rw [h1] at hv
    have HV := Lib.hid hv
    clear hv h1
    go_enter Try.func29, Try.ntmps29
    go_wp2_with fail
    refine HV.out.mono ?_
    rintro e w2 ⟨rfl, hb2⟩
    have hb3 : Below w.heap.size w w2 := hb.trans (hb2.mono hb.size)
    go_wp2
    go_ret
    exact ⟨_, rfl, by rw [E.out]; exact ⟨rfl, .inl ⟨rfl, rfl⟩⟩, hb3⟩
  · obtain ⟨p1, p2, p3⟩ := vPay_parts h1
    obtain ⟨hA, hB, hP, q4, q5⟩ := vLoan_iff.1 p1
    obtain ⟨n, rfl⟩ : ∃ n : Nat, T = n := ⟨T.toNat, by omega⟩
    have E : Hid (paidV A P B n pay = paidL A P B pay n) := by show _ = _; rw [paidV, if_pos h1, Int.toNat_natCast]
    have HC := Lib.hid (fun wx => bookOf_impl A P B n (wSame pay) (leftN P B pay A) (paidN P B pay A) wx (by omega) hB (by omega) (course_same hA hB hP ⟨p2, p3⟩ (by omega)))
    rw [h1] at hv
    have HV := Lib.hid hv
    clear hv h1
    go_enter Try.func29, Try.ntmps29
    go_wp2_with fail
    refine HV.out.mono ?_
    rintro e w2 ⟨rfl, hb2⟩
    have hL2 : IsBoxL w2 w.heap.size A P B n := (hb2.block _ hL.lt).trans hL
    have hb3 : Below w.heap.size w w2 := hb.trans (hb2.mono hb.size)
    obtain ⟨⟨c0, c1, c2, c3⟩, _⟩ := hL2.cells
    clear hb hb2 hL HV
    go_wp2_with fail
    refine (HC.out _).mono ?_
    rintro e w3 ⟨ev, pv, px, rfl, o1, o2, hb4⟩
    rw [seqL_left] at o1
    rw [seqL_paid] at o2
    obtain ⟨a1, cp1, rfl, _⟩ := id o1.ints
    obtain ⟨a2, cp2, rfl, _⟩ := id o2.ints
    have B4 : Below w.heap.size w w3 := hb3.trans (hb4.mono hb3.size)
    have O1 := o2.base hb3.size
    have HO := Lib.hid O1
    clear o1 o2 O1 hb4
    have k1 := field_paid
    have k2 := field_ends
    go_wp2
    go_ret
    exact ⟨_, rfl, by rw [E.out]; exact HO.out, B4⟩

theorem vLoan_last (a n : Int) : vLoan a 0 1 n = true ↔ inR a 0 1000 = true ∧ inR n 1 8 = true := by
  constructor
  · intro h
    obtain ⟨h1, _, _, h4⟩ := vLoan_iff.1 h
    exact ⟨decide_eq_true (by omega), decide_eq_true (by omega)⟩
  · rintro ⟨h1, h2⟩
    have b1 := inR_true h1
    have b2 := inR_true h2
    exact vLoan_iff.2 (by omega)

set_option maxHeartbeats 1600000 in
theorem LastPaid_impl (a m : Int) (w : World) :
    Calls Try.prog 37 #[.int .i64 a, .int .i64 m] w fun e w' => ∃ v, e = .returned v ∧ Own w' w.heap.size v (lastV a m) ∧ Below w.heap.size w w' := by
  have hb : Below w.heap.size w (w.alloc (.cells #[.int .i64 a, .int .i64 0, .int .i64 1, .int .i64 m] 24)) := (Below.refl _ _).alloc (Nat.le_refl _) _
  have hL := IsBoxL.new w a 0 1 m
  have hv := ValidLoan_impl a 0 1 m (w.alloc (.cells #[.int .i64 a, .int .i64 0, .int .i64 1, .int .i64 m] 24))
  cases h1 : vLoan a 0 1 m
  · have E : Hid (lastV a m = []) := by show _ = _; rw [lastV, if_neg (fun h => by rw [(vLoan_last a m).2 h] at h1; cases h1)]
    rw [h1] at hv
    have HV := Lib.hid hv
    obtain ⟨⟨c0, c1, c2, c3⟩, _⟩ := hL.cells
    clear hv h1
    go_enter Try.func37, Try.ntmps37
    go_wp2_with fail
    refine HV.out.mono ?_
    rintro e w2 ⟨rfl, hb2⟩
    have hb3 : Below w.heap.size w w2 := hb.trans (hb2.mono hb.size)
    go_wp2
    go_ret
    exact ⟨_, rfl, by rw [E.out]; exact ⟨rfl, .inl ⟨rfl, rfl⟩⟩, hb3⟩
  · have h2 := (vLoan_last a m).1 h1
    have hA := inR_true h2.1
    have hM := inR_true h2.2
    obtain ⟨n, rfl⟩ : ∃ n : Nat, m = n := ⟨m.toNat, by omega⟩
    have E : Hid (lastV a n = lastL a n) := by show _ = _; rw [lastV, if_pos h2, Int.toNat_natCast]
    have HC := Lib.hid (fun wx => bookOf_impl a 0 1 n (wEqual a 0 1 n) (lfE a n) (lastAt a n) wx (by omega) (by omega) (by omega) (course_equal hA (by omega)))
    rw [h1] at hv
    have HV := Lib.hid hv
    obtain ⟨⟨d0, d1, d2, d3⟩, _⟩ := hL.cells
    clear hv h1 h2
    go_enter Try.func37, Try.ntmps37
    go_wp2_with fail
    refine HV.out.mono ?_
    rintro e w2 ⟨rfl, hb2⟩
    have hL2 : IsBoxL w2 w.heap.size a 0 1 n := (hb2.block _ hL.lt).trans hL
    have hb3 : Below w.heap.size w w2 := hb.trans (hb2.mono hb.size)
    obtain ⟨⟨c0, c1, c2, c3⟩, _⟩ := hL2.cells
    clear hb hb2 hL HV d0 d1 d2 d3
    go_wp2_with fail
    refine (HC.out _).mono ?_
    rintro e w3 ⟨ev, pv, px, rfl, o1, o2, hb4⟩
    rw [seqL_last] at o2
    obtain ⟨a1, cp1, rfl, _⟩ := id o1.ints
    obtain ⟨a2, cp2, rfl, _⟩ := id o2.ints
    have B4 : Below w.heap.size w w3 := hb3.trans (hb4.mono hb3.size)
    have HO := Lib.hid (o2.base hb3.size)
    clear o1 o2 hb4
    have k1 := field_paid
    have k2 := field_ends
    go_wp2
    go_ret
    exact ⟨_, rfl, by rw [E.out]; exact HO.out, B4⟩

end Go.Proofs.Ytfgafbjofkicdaa
