/- Loans, in the model: the contracts. -/
import Derived.Test.YtfgafbjofkicdaaLoanM
import Derived.Test.YtfgafbjofkicdaaPush
import Derived.Test.YtfgafbjofkicdaaWorld
import Derived.IntWalk
namespace Go.Proofs.Ytfgafbjofkicdaa
open Go.RowKit

/-- The value of a loan. -/
abbrev lv (A P B T : Int) : Value := .agg #[.int .i64 A, .int .i64 P, .int .i64 B, .int .i64 T]
def vLoan (A P B T : Int) : Bool := inR A 0 1000 && inR B 1 10 && inR P 0 B && inR T 1 8
def vPay (A P B T pay : Int) : Bool := vLoan A P B T && inR pay 0 2000
/-- What is left after each time. -/
def rowsL (A P B pay : Int) (T : Nat) : List Int := (List.range T).map fun t => leftN P B pay A (t + 1)
/-- What is paid in each time. -/
def paidL (A P B pay : Int) (T : Nat) : List Int := (List.range T).map fun t => paidN P B pay A t

theorem vLoan_iff {A P B T : Int} : vLoan A P B T = true ↔ (0 ≤ A ∧ A ≤ 1000) ∧ (1 ≤ B ∧ B ≤ 10) ∧ (0 ≤ P ∧ P ≤ B) ∧ 1 ≤ T ∧ T ≤ 8 := by
  unfold vLoan
  simp only [Bool.and_eq_true]
  constructor
  · rintro ⟨⟨⟨h1, h2⟩, h3⟩, h4⟩
    exact ⟨inR_true h1, inR_true h2, inR_true h3, inR_true h4⟩
  · rintro ⟨h1, h2, h3, h4⟩
    refine ⟨⟨⟨?_, ?_⟩, ?_⟩, ?_⟩ <;> · unfold inR; exact decide_eq_true (by omega)

theorem inRange_at (x lo hi : Int) (r : Bool) (w : World) (h : inR x lo hi = r) : Calls Try.prog 59 #[.int .i64 x, .int .i64 lo, .int .i64 hi] w fun e w' => e = .returned (.bool r) ∧ w = w' := by
  subst h; exact inRange_spec _ _ _ _

set_option maxHeartbeats 1600000 in
theorem validLoan_spec (A P B T : Int) (w : World) :
    Calls Try.prog 54 #[lv A P B T] w fun e w' => e = .returned (.bool (vLoan A P B T)) ∧ Below w.heap.size w w' := by
  have hb : Below w.heap.size w (w.alloc (.cells #[.int .i64 A, .int .i64 P, .int .i64 B, .int .i64 T] 24)) := (Below.refl _ _).alloc (Nat.le_refl _) _
  have HCC := Lib.hid inRange_at
  cases h1 : inR A 0 1000
  · have E : Hid (vLoan A P B T = false) := by show _ = _; unfold vLoan; rw [h1]; rfl
    go_enter Try.func54, Try.ntmps54
    go_wp2_with (go_at_call 59; refine (HCC.out _ _ _ _ _ h1).mono ?_; rintro e w' ⟨rfl, rfl⟩)
    go_ret
    exact ⟨ret_bool E.out.symm, hb⟩
  cases h2 : inR B 1 10
  · have E : Hid (vLoan A P B T = false) := by show _ = _; unfold vLoan; rw [h1, h2]; rfl
    go_enter Try.func54, Try.ntmps54
    go_wp2_with (go_at_call 59; (first | (with_reducible refine (HCC.out A _ _ _ _ h1).mono ?_) | (with_reducible refine (HCC.out B _ _ _ _ h2).mono ?_)); rintro e w' ⟨rfl, rfl⟩)
    go_ret
    exact ⟨ret_bool E.out.symm, hb⟩
  cases h3 : inR P 0 B
  · have E : Hid (vLoan A P B T = false) := by show _ = _; unfold vLoan; rw [h1, h2, h3]; rfl
    go_enter Try.func54, Try.ntmps54
    go_wp2_with (go_at_call 59; (first | (with_reducible refine (HCC.out A _ _ _ _ h1).mono ?_) | (with_reducible refine (HCC.out B _ _ _ _ h2).mono ?_) | (with_reducible refine (HCC.out P _ _ _ _ h3).mono ?_)); rintro e w' ⟨rfl, rfl⟩)
    go_ret
    exact ⟨ret_bool E.out.symm, hb⟩
  · have E : Hid (vLoan A P B T = inR T 1 8) := by show _ = _; unfold vLoan; rw [h1, h2, h3]; rfl
    go_enter Try.func54, Try.ntmps54
    go_wp2_with (go_at_call 59; (first | (with_reducible refine (HCC.out A _ _ _ _ h1).mono ?_) | (with_reducible refine (HCC.out B _ _ _ _ h2).mono ?_) | (with_reducible refine (HCC.out P _ _ _ _ h3).mono ?_) | (with_reducible refine (HCC.out T _ _ _ _ rfl).mono ?_)); rintro e w' ⟨rfl, rfl⟩)
    go_ret
    exact ⟨ret_bool E.out.symm, hb⟩

theorem prod_bounds {a p : Int} (ha : 0 ≤ a ∧ a ≤ 1000000) (hp : 0 ≤ p ∧ p ≤ 10) : 0 ≤ 2 * a * p ∧ 2 * a * p ≤ 20000000 := by
  have h1 := Int.mul_nonneg (show 0 ≤ 2 * a by omega) hp.1
  have h2 := Int.mul_le_mul (show 2 * a ≤ 2000000 by omega) hp.2 hp.1 (by omega)
  omega

set_option maxHeartbeats 800000 in
theorem interest_spec (a p b : Int) (w : World) (ha : 0 ≤ a ∧ a ≤ 1000000) (hp : 0 ≤ p ∧ p ≤ 10) (hb : 1 ≤ b ∧ b ≤ 10) :
    Calls Try.prog 60 #[.int .i64 a, .int .i64 p, .int .i64 b] w fun e w' => e = .returned (.int .i64 (intr a p b)) ∧ w = w' := by
  have hm := prod_bounds ha hp
  have hd0 := Int.ediv_nonneg (show 0 ≤ 2 * a * p + b by omega) (show 0 ≤ 2 * b by omega)
  have hd1 := Int.ediv_le_self (2 * b) (show 0 ≤ 2 * a * p + b by omega)
  have hb0 : 2 * b ≠ 0 := by omega
  have HI : Hid (intr a p b = (2 * a * p + b) / (2 * b)) := rfl
  have w1 : IntKind.i64.wrap (2 * a * p) = 2 * a * p := IntWalk.i64_in _ (by omega)
  have w2 : IntKind.i64.wrap (2 * a * p + b) = 2 * a * p + b := IntWalk.i64_in _ (by omega)
  go_enter Try.func60, Try.ntmps60
  go_wp2
  go_ret
  exact ⟨ret_int HI.out.symm, rfl⟩

/-- What InterestOf answers. -/
def interestV (a p b : Int) : Int := if inR a 0 1000 = true ∧ inR p 0 10 = true ∧ inR b 1 10 = true then intr a p b else -1

set_option maxHeartbeats 800000 in
theorem InterestOf_spec (a p b : Int) (w : World) :
    Calls Try.prog 24 #[.int .i64 a, .int .i64 p, .int .i64 b] w fun e w' => e = .returned (.int .i64 (interestV a p b)) ∧ w = w' := by
  have HCC := Lib.hid inRange_at
  cases h1 : inR a 0 1000
  · have E : Hid (interestV a p b = -1) := by show _ = _; rw [interestV, if_neg (by rw [h1]; simp)]
    go_enter Try.func24, Try.ntmps24
    go_wp2_with (go_at_call 59; refine (HCC.out _ _ _ _ _ h1).mono ?_; rintro e w' ⟨rfl, rfl⟩)
    go_ret
    exact ⟨ret_int E.out.symm, rfl⟩
  cases h2 : inR p 0 10
  · have E : Hid (interestV a p b = -1) := by show _ = _; rw [interestV, if_neg (by rw [h2]; simp)]
    go_enter Try.func24, Try.ntmps24
    go_wp2_with (go_at_call 59; (first | (with_reducible refine (HCC.out a _ _ _ _ h1).mono ?_) | (with_reducible refine (HCC.out p _ _ _ _ h2).mono ?_)); rintro e w' ⟨rfl, rfl⟩)
    go_ret
    exact ⟨ret_int E.out.symm, rfl⟩
  cases h3 : inR b 1 10
  · have E : Hid (interestV a p b = -1) := by show _ = _; rw [interestV, if_neg (by rw [h3]; simp)]
    go_enter Try.func24, Try.ntmps24
    go_wp2_with (go_at_call 59; (first | (with_reducible refine (HCC.out a _ _ _ _ h1).mono ?_) | (with_reducible refine (HCC.out p _ _ _ _ h2).mono ?_) | (with_reducible refine (HCC.out b _ _ _ _ h3).mono ?_)); rintro e w' ⟨rfl, rfl⟩)
    go_ret
    exact ⟨ret_int E.out.symm, rfl⟩
  · have E : Hid (interestV a p b = intr a p b) := by show _ = _; rw [interestV, if_pos ⟨h1, h2, h3⟩]
    have b1 := inR_true h1
    have b2 := inR_true h2
    have b3 := inR_true h3
    have HI := Lib.hid (interest_spec a p b w (by omega) b2 b3)
    go_enter Try.func24, Try.ntmps24
    go_wp2_with (first | (go_at_call 59; (first | (with_reducible refine (HCC.out a _ _ _ _ h1).mono ?_) | (with_reducible refine (HCC.out p _ _ _ _ h2).mono ?_) | (with_reducible refine (HCC.out b _ _ _ _ h3).mono ?_)); rintro e w' ⟨rfl, rfl⟩) | (go_at_call 60; refine HI.out.mono ?_; rintro e w' ⟨rfl, rfl⟩))
    go_ret
    exact ⟨ret_int E.out.symm, rfl⟩

set_option maxHeartbeats 800000 in
theorem ValidLoan_spec (A P B T : Int) (w : World) :
    Calls Try.prog 21 #[lv A P B T] w fun e w' => e = .returned (.bool (vLoan A P B T)) ∧ Below w.heap.size w w' := by
  have hb : Below w.heap.size w (w.alloc (.cells #[.int .i64 A, .int .i64 P, .int .i64 B, .int .i64 T] 24)) := (Below.refl _ _).alloc (Nat.le_refl _) _
  have HV := Lib.hid (validLoan_spec A P B T (w.alloc (.cells #[.int .i64 A, .int .i64 P, .int .i64 B, .int .i64 T] 24)))
  go_enter Try.func21, Try.ntmps21
  go_wp2_with fail
  refine HV.out.mono ?_
  rintro e w2 ⟨rfl, hb2⟩
  have hb3 : Below w.heap.size w w2 := hb.trans (hb2.mono hb.size)
  go_wp2
  go_ret
  exact ⟨rfl, hb3⟩

set_option maxHeartbeats 800000 in
theorem validPay_spec (A P B T pay : Int) (w : World) :
    Calls Try.prog 63 #[lv A P B T, .int .i64 pay] w fun e w' => e = .returned (.bool (vPay A P B T pay)) ∧ Below w.heap.size w w' := by
  have hb : Below w.heap.size w (w.alloc (.cells #[.int .i64 A, .int .i64 P, .int .i64 B, .int .i64 T] 24)) := (Below.refl _ _).alloc (Nat.le_refl _) _
  have hv := validLoan_spec A P B T (w.alloc (.cells #[.int .i64 A, .int .i64 P, .int .i64 B, .int .i64 T] 24))
  cases h1 : vLoan A P B T
  · have E : Hid (vPay A P B T pay = false) := by show _ = _; unfold vPay; rw [h1]; rfl
    rw [h1] at hv
    have HV := Lib.hid hv
    clear hv h1
    go_enter Try.func63, Try.ntmps63
    go_wp2_with fail
    refine HV.out.mono ?_
    rintro e w2 ⟨rfl, hb2⟩
    have hb3 : Below w.heap.size w w2 := hb.trans (hb2.mono hb.size)
    go_wp2
    go_ret
    exact ⟨ret_bool E.out.symm, hb3⟩
  · have E : Hid (vPay A P B T pay = inR pay 0 2000) := by show _ = _; unfold vPay; rw [h1]; rfl
    rw [h1] at hv
    have HV := Lib.hid hv
    clear hv h1
    go_enter Try.func63, Try.ntmps63
    go_wp2_with fail
    refine HV.out.mono ?_
    rintro e w2 ⟨rfl, hb2⟩
    have hb3 : Below w.heap.size w w2 := hb.trans (hb2.mono hb.size)
    go_wp2_with (go_at_call 59; refine (inRange_spec _ _ _ _).mono ?_; rintro e w' ⟨rfl, rfl⟩)
    go_ret
    exact ⟨ret_bool E.out.symm, hb3⟩

theorem rowsL_len (A P B pay : Int) (T : Nat) : (rowsL A P B pay T).length = T := by simp [rowsL]
theorem rowsL_succ (A P B pay : Int) (T : Nat) : rowsL A P B pay (T + 1) = rowsL A P B pay T ++ [leftN P B pay A (T + 1)] := by simp [rowsL, List.range_succ]
theorem rowsL_at (A P B pay : Int) (T t : Nat) (h : t < T) : (rowsL A P B pay T).getD t 0 = leftN P B pay A (t + 1) := by simp [rowsL, List.getD, h]
theorem paidL_len (A P B pay : Int) (T : Nat) : (paidL A P B pay T).length = T := by simp [paidL]
theorem paidL_succ (A P B pay : Int) (T : Nat) : paidL A P B pay (T + 1) = paidL A P B pay T ++ [paidN P B pay A T] := by simp [paidL, List.range_succ]
theorem paidL_at (A P B pay : Int) (T t : Nat) (h : t < T) : (paidL A P B pay T).getD t 0 = paidN P B pay A t := by simp [paidL, List.getD, h]

theorem left_bound {P B pay A : Int} (hB : 1 ≤ B) (hP : 0 ≤ P ∧ P ≤ B) (hA : 0 ≤ A ∧ A ≤ 1000) (hpay : 0 ≤ pay) {t : Nat} (ht : t ≤ 8) : 0 ≤ leftN P B pay A t ∧ leftN P B pay A t ≤ 256000 := by
  refine ⟨left_nonneg hB hP.1 hA.1 t, ?_⟩
  have h1 := left_le (pay := pay) hB hP.1 hP.2 hA.1 hpay t
  have h2 : (2 : Int) ^ t ≤ 256 := by
    have : t = 0 ∨ t = 1 ∨ t = 2 ∨ t = 3 ∨ t = 4 ∨ t = 5 ∨ t = 6 ∨ t = 7 ∨ t = 8 := by omega
    rcases this with rfl | rfl | rfl | rfl | rfl | rfl | rfl | rfl | rfl <;> decide
  have h3 : (0 : Int) ≤ 2 ^ t := Int.pow_nonneg (by decide)
  have h4 := Int.mul_le_mul h2 hA.2 hA.1 (by decide)
  omega

set_option maxRecDepth 100000 in
set_option maxHeartbeats 3200000 in
theorem rows_spec (A P B pay : Int) (T : Nat) (w : World) (hA : 0 ≤ A ∧ A ≤ 1000) (hB : 1 ≤ B ∧ B ≤ 10) (hP : 0 ≤ P ∧ P ≤ B) (hT : T ≤ 8) (hpay : 0 ≤ pay ∧ pay ≤ 2000) :
    Calls Try.prog 64 #[lv A P B T, .int .i64 pay] w fun e w' => ∃ v, e = .returned v ∧ Own w' w.heap.size v (rowsL A P B pay T) ∧ Below w.heap.size w w' := by
  have hxB : (w.alloc (.cells #[.int .i64 A, .int .i64 P, .int .i64 B, .int .i64 (T : Int)] 24)).heap[w.heap.size]? = some (.cells #[.int .i64 A, .int .i64 P, .int .i64 B, .int .i64 (T : Int)] 24 (0, 0)) := heap_alloc_new _ _
  have x0 : (w.alloc (.cells #[.int .i64 A, .int .i64 P, .int .i64 B, .int .i64 (T : Int)] 24)).cell? ⟨w.heap.size, 0, none⟩ = some (.int .i64 A) := by rw [cell_of_row _ _ 0 _ _ _ hxB]; rfl
  have x1 : (w.alloc (.cells #[.int .i64 A, .int .i64 P, .int .i64 B, .int .i64 (T : Int)] 24)).cell? ⟨w.heap.size, 1, none⟩ = some (.int .i64 P) := by rw [cell_of_row _ _ 1 _ _ _ hxB]; rfl
  have x2 : (w.alloc (.cells #[.int .i64 A, .int .i64 P, .int .i64 B, .int .i64 (T : Int)] 24)).cell? ⟨w.heap.size, 2, none⟩ = some (.int .i64 B) := by rw [cell_of_row _ _ 2 _ _ _ hxB]; rfl
  have x3 : (w.alloc (.cells #[.int .i64 A, .int .i64 P, .int .i64 B, .int .i64 (T : Int)] 24)).cell? ⟨w.heap.size, 3, none⟩ = some (.int .i64 (T : Int)) := by rw [cell_of_row _ _ 3 _ _ _ hxB]; rfl
  have hb0 : Below w.heap.size w (w.alloc (.cells #[.int .i64 A, .int .i64 P, .int .i64 B, .int .i64 (T : Int)] 24)) := (Below.refl _ _).alloc (Nat.le_refl _) _
  have hs0 : w.heap.size < (w.alloc (.cells #[.int .i64 A, .int .i64 P, .int .i64 B, .int .i64 (T : Int)] 24)).heap.size := by simp
  have hs1 : (w.alloc (.cells #[.int .i64 A, .int .i64 P, .int .i64 B, .int .i64 (T : Int)] 24)).heap.size = w.heap.size + 1 := by simp
  have HLB : Hid (∀ t, t ≤ 8 → 0 ≤ leftN P B pay A t ∧ leftN P B pay A t ≤ 256000) := fun t ht => left_bound hB.1 hP hA hpay.1 ht
  clear hxB
  go_enter Try.func64, Try.ntmps64
  go_wp2
  generalize w.alloc (.cells #[.int .i64 A, .int .i64 P, .int .i64 B, .int .i64 (T : Int)] 24) = wa at *
  have HX : Hid (∀ wx, Below (w.heap.size + 1) wa wx → wx.cell? ⟨w.heap.size, 1, none⟩ = some (.int .i64 P) ∧ wx.cell? ⟨w.heap.size, 2, none⟩ = some (.int .i64 B) ∧ wx.cell? ⟨w.heap.size, 3, none⟩ = some (.int .i64 (T : Int))) := fun wx h => ⟨(h.cell (by show w.heap.size < _; omega)).trans x1, (h.cell (by show w.heap.size < _; omega)).trans x2, (h.cell (by show w.heap.size < _; omega)).trans x3⟩
  have oe := own_empty wa (w.heap.size + 1) (by omega)
  rw [hs1] at oe
  have hbe : Below (w.heap.size + 1) wa (wa.alloc (.cells #[] 3)) := (Below.refl _ _).alloc (by omega) _
  clear x1 x2 x3
  go_loopw [5, 6, 7] (fun ov av tv wr => ∃ t : Nat, t ≤ T ∧ tv = .int .i64 t ∧ av = .int .i64 (leftN P B pay A t) ∧ Own wr (w.heap.size + 1) ov (rowsL A P B pay t) ∧ Below (w.heap.size + 1) wa wr) (fun _ _ tv _ => T - (intOf tv).toNat)
  case atStart => exact ⟨0, Nat.zero_le _, rfl, rfl, oe, hbe⟩
  case round =>
    obtain ⟨t, ht, rfl, rfl, hown, hbl⟩ := hrel
    rename World => wr
    obtain ⟨y1, y2, y3⟩ := HX.out wr hbl
    clear oe hbe
    by_cases hlt : t < T
    · have t1 : (t : Int) < (T : Int) := by omega
      have hlb := HLB.out t (by omega)
      have hnb := HLB.out (t + 1) (by omega)
      have hle : leftN P B pay A (t + 1) = leftN P B pay A t + intr (leftN P B pay A t) P B - min (leftN P B pay A t + intr (leftN P B pay A t) P B) pay := rfl
      have hi0 := intr_nonneg hB.1 hP.1 hlb.1
      have hi1 := intr_le hB.1 hP.2 hlb.1
      have HIN := Lib.hid (interest_spec (leftN P B pay A t) P B wr (by omega) (by omega) hB)
      have HRS := Lib.hid (rowsL_succ A P B pay t)
      have hrl := rowsL_len A P B pay t
      have HLE := Lib.hid hle
      have hsz : w.heap.size + 1 ≤ wr.heap.size := Nat.le_trans (by omega) hbl.size
      have hr6 : (rowsL A P B pay t).length ≤ 1048576 := by omega
      have HOW := Lib.hid hown
      clear hle hrl hown
      generalize hnE : leftN P B pay A (t + 1) = nl at *
      generalize intr (leftN P B pay A t) P B = iv at *
      generalize leftN P B pay A t = lf at *
      by_cases hpl : pay < lf + iv
      · have hnl : lf + iv - pay = nl := by have := HLE.out; omega
        go_wp2_with (first | (go_at_call 60; refine HIN.out.mono ?_; rintro e w' ⟨rfl, rfl⟩) | (at_builtin; refine wpList_push HOW.out hr6 hsz (h := ?_)))
        intro v' w' o g m
        have o2 : Own w' (w.heap.size + 1) v' (rowsL A P B pay (t + 1)) := by rw [HRS.out]; exact o
        have b2 : Below (w.heap.size + 1) wa w' := hbl.trans (HOW.out.pushed_below g hsz)
        have HN : Hid (leftN P B pay A (t + 1) = nl) := hnE
        clear o g m hnl hnE
        go_wp2
        go_roundw
        case rel => exact ⟨t + 1, by omega, by go_num, by rw [HN.out], o2, b2⟩
        case measure => simp [intOf]; omega
      · have hnl : nl = 0 := by have := HLE.out; omega
        have HRS2 : Hid (rowsL A P B pay (t + 1) = rowsL A P B pay t ++ [0]) := by have := HRS.out; rw [hnl] at this; exact this
        go_wp2_with (first | (go_at_call 60; refine HIN.out.mono ?_; rintro e w' ⟨rfl, rfl⟩) | (at_builtin; refine wpList_push HOW.out hr6 hsz (h := ?_)))
        intro v' w' o g m
        have o2 : Own w' (w.heap.size + 1) v' (rowsL A P B pay (t + 1)) := by rw [HRS2.out]; exact o
        have b2 : Below (w.heap.size + 1) wa w' := hbl.trans (HOW.out.pushed_below g hsz)
        have HN : Hid (leftN P B pay A (t + 1) = 0) := hnE.trans hnl
        clear o g m hnl hnE
        go_wp2
        go_roundw
        case rel => exact ⟨t + 1, by omega, by go_num, by rw [HN.out], o2, b2⟩
        case measure => simp [intOf]; omega
    · have hte : t = T := by omega
      subst hte
      have hb5 : Below w.heap.size w wr := hb0.trans (hbl.mono (Nat.le_succ _))
      have HO := Lib.hid (hown.base (Nat.le_succ w.heap.size))
      clear hown
      go_wp2
      go_ret
      exact ⟨_, rfl, HO.out, hb5⟩

end Go.Proofs.Ytfgafbjofkicdaa
