/- Loans, in the model: the contracts of the answers. -/
import Derived.Test.YtfgafbjofkicdaaLoanS
namespace Go.Proofs.Ytfgafbjofkicdaa
open Go.RowKit

/-- A loan that lies in a block. -/
def Held (w : World) (b : Nat) (A P B T : Int) : Prop :=
  w.cell? ⟨b, 0, none⟩ = some (.int .i64 A) ∧ w.cell? ⟨b, 1, none⟩ = some (.int .i64 P) ∧ w.cell? ⟨b, 2, none⟩ = some (.int .i64 B) ∧ w.cell? ⟨b, 3, none⟩ = some (.int .i64 T)

theorem held_new (w : World) (A P B T : Int) : Held (w.alloc (.cells #[.int .i64 A, .int .i64 P, .int .i64 B, .int .i64 T] 24)) w.heap.size A P B T := by
  have hxB : (w.alloc (.cells #[.int .i64 A, .int .i64 P, .int .i64 B, .int .i64 T] 24)).heap[w.heap.size]? = some (.cells #[.int .i64 A, .int .i64 P, .int .i64 B, .int .i64 T] 24 (0, 0)) := heap_alloc_new _ _
  exact ⟨by rw [cell_of_row _ _ 0 _ _ _ hxB]; rfl, by rw [cell_of_row _ _ 1 _ _ _ hxB]; rfl, by rw [cell_of_row _ _ 2 _ _ _ hxB]; rfl, by rw [cell_of_row _ _ 3 _ _ _ hxB]; rfl⟩

theorem Held.below {w w' : World} {b k : Nat} {A P B T : Int} (h : Held w b A P B T) (hb : Below k w w') (hk : b < k) : Held w' b A P B T :=
  ⟨(hb.cell (by show b < _; omega)).trans h.1, (hb.cell (by show b < _; omega)).trans h.2.1, (hb.cell (by show b < _; omega)).trans h.2.2.1, (hb.cell (by show b < _; omega)).trans h.2.2.2⟩

theorem vPay_parts {A P B T pay : Int} (h : vPay A P B T pay = true) : vLoan A P B T = true ∧ 0 ≤ pay ∧ pay ≤ 2000 := by
  unfold vPay at h
  simp only [Bool.and_eq_true] at h
  exact ⟨h.1, inR_true h.2⟩

/-- What LeftAfter answers. -/
def leftV (A P B T pay : Int) : List Int := if vPay A P B T pay = true then rowsL A P B pay T.toNat else []
/-- What PaidOf answers. -/
def paidV (A P B T pay : Int) : List Int := if vPay A P B T pay = true then paidL A P B pay T.toNat else []

set_option maxHeartbeats 1600000 in
theorem LeftAfter_spec (A P B T pay : Int) (w : World) :
    Calls Try.prog 28 #[lv A P B T, .int .i64 pay] w fun e w' => ∃ v, e = .returned v ∧ Own w' w.heap.size v (leftV A P B T pay) ∧ (vPay A P B T pay = false → v = .slice none 0 0) ∧ Below w.heap.size w w' := by
  have hb : Below w.heap.size w (w.alloc (.cells #[.int .i64 A, .int .i64 P, .int .i64 B, .int .i64 T] 24)) := (Below.refl _ _).alloc (Nat.le_refl _) _
  have hv := validPay_spec A P B T pay (w.alloc (.cells #[.int .i64 A, .int .i64 P, .int .i64 B, .int .i64 T] 24))
  cases h1 : vPay A P B T pay
  · have E : Hid (leftV A P B T pay = []) := by show _ = _; rw [leftV, if_neg (by rw [h1]; simp)]
    rw [h1] at hv
    have HV := Lib.hid hv
    clear hv h1
    go_enter Try.func28, Try.ntmps28
    go_wp2_with fail
    refine HV.out.mono ?_
    rintro e w2 ⟨rfl, hb2⟩
    have hb3 : Below w.heap.size w w2 := hb.trans (hb2.mono hb.size)
    go_wp2
    go_ret
    exact ⟨_, rfl, by rw [E.out]; exact ⟨rfl, .inl ⟨rfl, rfl⟩⟩, fun _ => rfl, hb3⟩
  · have E : Hid (leftV A P B T pay = rowsL A P B pay T.toNat) := by show _ = _; rw [leftV, if_pos h1]
    obtain ⟨p1, p2, p3⟩ := vPay_parts h1
    obtain ⟨q1, q2, q3, q4, q5⟩ := vLoan_iff.1 p1
    obtain ⟨n, rfl⟩ : ∃ n : Nat, T = n := ⟨T.toNat, by omega⟩
    have HR := Lib.hid (fun wx => rows_spec A P B pay n wx q1 q2 q3 (by omega) ⟨p2, p3⟩)
    rw [h1] at hv
    have HV := Lib.hid hv
    have hs1 : (w.alloc (.cells #[.int .i64 A, .int .i64 P, .int .i64 B, .int .i64 (n : Int)] 24)).heap.size = w.heap.size + 1 := by simp
    have hh := held_new w A P B (n : Int)
    clear hv h1 p1 q1 q2 q3
    go_enter Try.func28, Try.ntmps28
    go_wp2_with fail
    refine HV.out.mono ?_
    rintro e w2 ⟨rfl, hb2⟩
    have hb3 : Below w.heap.size w w2 := hb.trans (hb2.mono hb.size)
    obtain ⟨y0, y1, y2, y3⟩ := hh.below hb2 (by omega)
    have hsz := hb3.size
    clear hb hb2 hh
    go_wp2_with (go_at_call 64; refine (HR.out _).mono ?_; rintro e w3 ⟨v, rfl, hown, hb4⟩)
    have hb5 : Below w.heap.size w w3 := hb3.trans (hb4.mono hsz)
    have ho : Own w3 w.heap.size v (leftV A P B (n : Int) pay) := by rw [E.out]; exact hown.base hsz
    clear y0 y1 y2 y3 hb3 hb4 hown
    go_wp2
    go_ret
    exact ⟨_, rfl, ho, (fun h => by cases h), hb5⟩

set_option maxHeartbeats 800000 in
theorem last_at (w : World) (v : Value) (xs : List Int) (h : IsInts w v xs) (h0 : 0 < xs.length) (hl : xs.length ≤ 1000) :
    Calls Try.prog 67 #[v] w fun e w' => e = .returned (.int .i64 (xs.getD (xs.length - 1) 0)) ∧ w = w' := by
  obtain ⟨a, cap, rfl, hc⟩ := h
  obtain ⟨b, off, rfl, hcell⟩ := hc (xs.length - 1) (by omega)
  have e0 : ((xs.length : Int) - 1) = ((xs.length - 1 : Nat) : Int) := by omega
  have e1 : IntKind.i64.wrap ((xs.length : Int) - 1) = ((xs.length - 1 : Nat) : Int) := by rw [IntWalk.i64_in _ (by omega), e0]
  have hlt : ((xs.length - 1 : Nat) : Int) < (xs.length : Int) := by omega
  have hL := Lib.hid (show xs.length - 1 < xs.length by omega)
  clear hc e0 hl h0
  generalize hk : xs.length - 1 = k at *
  clear hk
  go_enter Try.func67, Try.ntmps67
  go_wp2
  go_ret
  exact ⟨rfl, rfl⟩

theorem left_end {P B A : Int} (hB : 1 ≤ B) (hP : 0 ≤ P ∧ P ≤ B) (hA : 0 ≤ A ∧ A ≤ 1000) {T : Nat} (hT : 1 ≤ T) : leftN P B 2000 A T = 0 := by
  obtain ⟨t, rfl⟩ : ∃ t, T = t + 1 := ⟨T - 1, by omega⟩
  have h1 := due_le hB hP.2 hA.1
  exact left_paid hB (by omega) (by omega) t

theorem last_rows {w : World} {b : Nat} {v : Value} {A P B x : Int} {n : Nat} (h : Own w b v (rowsL A P B x n)) (h1 : 1 ≤ n) (h8 : n ≤ 8) :
    Calls Try.prog 67 #[v] w fun e w' => e = .returned (.int .i64 (leftN P B x A n)) ∧ w = w' := by
  refine (last_at w v _ h.ints (by rw [rowsL_len]; omega) (by rw [rowsL_len]; omega)).mono ?_
  rintro e w' ⟨rfl, rfl⟩
  rw [rowsL_len, rowsL_at _ _ _ _ _ _ (show n - 1 < n by omega), Nat.sub_add_cancel h1]
  exact ⟨rfl, rfl⟩

/-- What LeastPay answers. -/
def leastV (A P B T : Int) : Int := if vLoan A P B T = true then leastF P B A T.toNat 2001 0 else -1

theorem leastF_is {P B A : Int} {T : Nat} (x : Nat) (hx : x ≤ 2000) (hn : ¬ 0 < leftN P B x A T) (hl : ∀ y : Nat, y < x → 0 < leftN P B y A T) : leastF P B A T 2001 0 = x := by
  obtain ⟨i1, i2, i3⟩ := leastF_spec P B A T 2001 0 ⟨x, by omega, by omega, hn⟩
  generalize leastF P B A T 2001 0 = z at *
  obtain ⟨n, rfl⟩ : ∃ n : Nat, z = n := ⟨z.toNat, by omega⟩
  by_cases h1 : x < n
  · exact absurd (i3 x (by omega) (by omega)) hn
  by_cases h2 : n < x
  · exact absurd (hl n h2) i1
  have : n = x := by omega
  rw [this]

set_option maxHeartbeats 3200000 in
theorem LeastPay_spec (A P B T : Int) (w : World) :
    Calls Try.prog 32 #[lv A P B T] w fun e w' => e = .returned (.int .i64 (leastV A P B T)) ∧ Below w.heap.size w w' := by
  have hb : Below w.heap.size w (w.alloc (.cells #[.int .i64 A, .int .i64 P, .int .i64 B, .int .i64 T] 24)) := (Below.refl _ _).alloc (Nat.le_refl _) _
  have hv := validLoan_spec A P B T (w.alloc (.cells #[.int .i64 A, .int .i64 P, .int .i64 B, .int .i64 T] 24))
  cases h1 : vLoan A P B T
  · have E : Hid (leastV A P B T = -1) := by show _ = _; rw [leastV, if_neg (by rw [h1]; simp)]
    rw [h1] at hv
    have HV := Lib.hid hv
    clear hv h1
    go_enter Try.func32, Try.ntmps32
    go_wp2_with fail
    refine HV.out.mono ?_
    rintro e w2 ⟨rfl, hb2⟩
    have hb3 : Below w.heap.size w w2 := hb.trans (hb2.mono hb.size)
    go_wp2
    go_ret
    exact ⟨ret_int E.out.symm, hb3⟩
  · have E : Hid (leastV A P B T = leastF P B A T.toNat 2001 0) := by show _ = _; rw [leastV, if_pos h1]
    obtain ⟨q1, q2, q3, q4, q5⟩ := vLoan_iff.1 h1
    obtain ⟨n, rfl⟩ : ∃ n : Nat, T = n := ⟨T.toNat, by omega⟩
    have HR := Lib.hid (fun (x : Nat) (hx : x ≤ 2000) wx => rows_spec A P B x n wx q1 q2 q3 (by omega) (by omega))
    have HG := Lib.hid (show 1 ≤ B ∧ 0 ≤ P ∧ 0 ≤ A from ⟨q2.1, q3.1, q1.1⟩)
    have HE := Lib.hid (left_end q2.1 q3 q1 (show 1 ≤ n by omega))
    rw [h1] at hv
    have HV := Lib.hid hv
    have hs1 : (w.alloc (.cells #[.int .i64 A, .int .i64 P, .int .i64 B, .int .i64 (n : Int)] 24)).heap.size = w.heap.size + 1 := by simp
    have hh := held_new w A P B (n : Int)
    clear hv h1 q1 q2 q3
    go_enter Try.func32, Try.ntmps32
    go_wp2_with fail
    refine HV.out.mono ?_
    rintro e w2 ⟨rfl, hb2⟩
    have hb3 : Below w.heap.size w w2 := hb.trans (hb2.mono hb.size)
    have hh2 := hh.below hb2 (by omega)
    have hsz : w.heap.size + 1 ≤ w2.heap.size := by have := hb2.size; omega
    clear hb hb2 hh hs1
    clear HV
    generalize w.alloc (.cells #[.int .i64 A, .int .i64 P, .int .i64 B, .int .i64 (n : Int)] 24) = wa at *
    go_wp2
    go_loopw [3] (fun xv wr => ∃ x : Nat, x ≤ 2000 ∧ xv = .int .i64 x ∧ (∀ y : Nat, y < x → 0 < leftN P B y A n) ∧ Held wr w.heap.size A P B n ∧ Below w.heap.size w wr ∧ w.heap.size < wr.heap.size) (fun xv _ => 2000 - (intOf xv).toNat)
    case atStart => exact ⟨0, Nat.zero_le _, rfl, fun y hy => by omega, hh2, hb3, hsz⟩
    case round =>
      obtain ⟨x, hx, rfl, hxs, hhr, hbr, hsr⟩ := hrel
      rename World => wr
      have HXS := Lib.hid hxs
      have HH := Lib.hid hhr
      obtain ⟨y0, y1, y2, y3⟩ := hhr
      have HRX := Lib.hid (HR.out x hx)
      clear hxs hh2 hb3 hsz
      have n1 : 1 ≤ n := by omega
      have n8 : n ≤ 8 := by omega
      have HN := Lib.hid (show 0 ≤ leftN P B x A n from left_nonneg HG.out.1 HG.out.2.1 HG.out.2.2 n)
      generalize hL : leftN P B x A n = L at *
      by_cases hpos : 0 < L
      · go_wp2_with (first | (go_at_call 64; refine (HRX.out _).mono ?_; rintro e w3 ⟨v, rfl, hown, hb4⟩) | (go_at_call 67; refine (last_rows hown n1 n8).mono ?_; rintro e w4 ⟨rfl, rfl⟩; rw [hL]))
        have hlt : x < 2000 := by
          rcases Nat.lt_or_ge x 2000 with h | h
          · exact h
          · have hx2 : (x : Int) = 2000 := by omega
            rw [hx2, HE.out] at hL
            omega
        have h2 : ∀ y : Nat, y < x + 1 → 0 < leftN P B y A n := by
          intro y hy
          rcases Nat.lt_or_ge y x with h | h
          · exact HXS.out y h
          · have : y = x := by omega
            rw [this, hL]; exact hpos
        have H2 := Lib.hid h2
        have HH2 := Lib.hid (HH.out.below hb4 hsr)
        have hb5 : Below w.heap.size w w3 := hbr.trans (hb4.mono hbr.size)
        have hs5 := Nat.lt_of_lt_of_le hsr hb4.size
        clear h2 hb4 hbr hsr hown
        go_roundw
        case rel => exact ⟨x + 1, hlt, by go_num, H2.out, HH2.out, hb5, hs5⟩
        case measure => simp [intOf]; omega
      · go_wp2_with (first | (go_at_call 64; refine (HRX.out _).mono ?_; rintro e w3 ⟨v, rfl, hown, hb4⟩) | (go_at_call 67; refine (last_rows hown n1 n8).mono ?_; rintro e w4 ⟨rfl, rfl⟩; rw [hL]))
        have hb5 : Below w.heap.size w w3 := hbr.trans (hb4.mono hbr.size)
        have hr : leastV A P B (n : Int) = (x : Int) := by
          rw [E.out]
          exact leastF_is x hx (by rw [Int.toNat_natCast, hL]; omega) (by rw [Int.toNat_natCast]; exact HXS.out)
        go_ret
        exact ⟨ret_int hr.symm, hb5⟩

set_option maxRecDepth 100000 in
set_option maxHeartbeats 3200000 in
theorem PaidOf_spec (A P B T pay : Int) (w : World) :
    Calls Try.prog 34 #[lv A P B T, .int .i64 pay] w fun e w' => ∃ v, e = .returned v ∧ Own w' w.heap.size v (paidV A P B T pay) ∧ (vPay A P B T pay = false → v = .slice none 0 0) ∧ Below w.heap.size w w' := by
  have hb : Below w.heap.size w (w.alloc (.cells #[.int .i64 A, .int .i64 P, .int .i64 B, .int .i64 T] 24)) := (Below.refl _ _).alloc (Nat.le_refl _) _
  have hv := validPay_spec A P B T pay (w.alloc (.cells #[.int .i64 A, .int .i64 P, .int .i64 B, .int .i64 T] 24))
  cases h1 : vPay A P B T pay
  · have E : Hid (paidV A P B T pay = []) := by show _ = _; rw [paidV, if_neg (by rw [h1]; simp)]
    rw [h1] at hv
    have HV := Lib.hid hv
    clear hv h1
    go_enter Try.func34, Try.ntmps34
    go_wp2_with fail
    refine HV.out.mono ?_
    rintro e w2 ⟨rfl, hb2⟩
    have hb3 : Below w.heap.size w w2 := hb.trans (hb2.mono hb.size)
    go_wp2
    go_ret
    exact ⟨_, rfl, by rw [E.out]; exact ⟨rfl, .inl ⟨rfl, rfl⟩⟩, fun _ => rfl, hb3⟩
  · have E : Hid (paidV A P B T pay = paidL A P B pay T.toNat) := by show _ = _; rw [paidV, if_pos h1]
    obtain ⟨p1, p2, p3⟩ := vPay_parts h1
    obtain ⟨hA, hB, hP, q4, q5⟩ := vLoan_iff.1 p1
    obtain ⟨n, rfl⟩ : ∃ n : Nat, T = n := ⟨T.toNat, by omega⟩
    rw [h1] at hv
    have HV := Lib.hid hv
    have hs1 : (w.alloc (.cells #[.int .i64 A, .int .i64 P, .int .i64 B, .int .i64 (n : Int)] 24)).heap.size = w.heap.size + 1 := by simp
    have hh := held_new w A P B (n : Int)
    have HLB : Hid (∀ t, t ≤ 8 → 0 ≤ leftN P B pay A t ∧ leftN P B pay A t ≤ 256000) := fun t ht => left_bound hB.1 hP hA p2 ht
    clear hv h1 p1
    go_enter Try.func34, Try.ntmps34
    go_wp2_with fail
    refine HV.out.mono ?_
    rintro e w2 ⟨rfl, hb2⟩
    have hb3 : Below w.heap.size w w2 := hb.trans (hb2.mono hb.size)
    have hh2 := hh.below hb2 (by omega)
    have hs2 : w.heap.size + 1 ≤ w2.heap.size := by have := hb2.size; omega
    clear hb hb2 hh hs1 HV
    generalize w.alloc (.cells #[.int .i64 A, .int .i64 P, .int .i64 B, .int .i64 (n : Int)] 24) = wa at *
    have HX : Hid (∀ wx, Below (w.heap.size + 1) w2 wx → Held wx w.heap.size A P B n) := fun wx h => hh2.below h (by omega)
    obtain ⟨x0, x1, x2, x3⟩ := hh2
    have oe := own_empty w2 (w.heap.size + 1) hs2
    have hbe : Below (w.heap.size + 1) w2 (w2.alloc (.cells #[] 3)) := (Below.refl _ _).alloc hs2 _
    have z0 := (HX.out _ hbe).1
    go_wp2
    clear x0 x1 x2 x3 z0
    go_loopw [5, 6, 7] (fun ov av tv wr => ∃ t : Nat, t ≤ n ∧ tv = .int .i64 t ∧ av = .int .i64 (leftN P B pay A t) ∧ Own wr (w.heap.size + 1) ov (paidL A P B pay t) ∧ Below (w.heap.size + 1) w2 wr) (fun _ _ tv _ => n - (intOf tv).toNat)
    case atStart => exact ⟨0, Nat.zero_le _, rfl, rfl, oe, hbe⟩
    case round =>
      obtain ⟨t, ht, rfl, rfl, hown, hbl⟩ := hrel
      rename World => wr
      obtain ⟨y0, y1, y2, y3⟩ := HX.out wr hbl
      clear oe hbe
      by_cases hlt : t < n
      · have t1 : (t : Int) < (n : Int) := by omega
        have hlb := HLB.out t (by omega)
        have hnb := HLB.out (t + 1) (by omega)
        have hle : leftN P B pay A (t + 1) = leftN P B pay A t + intr (leftN P B pay A t) P B - min (leftN P B pay A t + intr (leftN P B pay A t) P B) pay := rfl
        have hpe : paidN P B pay A t = min (leftN P B pay A t + intr (leftN P B pay A t) P B) pay := rfl
        have hi0 := intr_nonneg hB.1 hP.1 hlb.1
        have hi1 := intr_le hB.1 hP.2 hlb.1
        have HIN := Lib.hid (interest_spec (leftN P B pay A t) P B wr (by omega) (by omega) hB)
        have HRS := Lib.hid (paidL_succ A P B pay t)
        have hrl := paidL_len A P B pay t
        have HLE := Lib.hid hle
        have hsz : w.heap.size + 1 ≤ wr.heap.size := Nat.le_trans hs2 hbl.size
        have hr6 : (paidL A P B pay t).length ≤ 1048576 := by omega
        have HOW := Lib.hid hown
        clear hle hrl hown
        generalize hnE : leftN P B pay A (t + 1) = nl at *
        generalize hpE : paidN P B pay A t = px at *
        generalize intr (leftN P B pay A t) P B = iv at *
        generalize leftN P B pay A t = lf at *
        by_cases hpl : pay < lf + iv
        · have hnl : lf + iv - pay = nl := by have := HLE.out; omega
          have hpx : px = pay := by omega
          have HRS2 : Hid (paidL A P B pay (t + 1) = paidL A P B pay t ++ [pay]) := by have := HRS.out; rw [hpx] at this; exact this
          clear hpe hpE hpx
          go_wp2_with (first | (go_at_call 60; refine HIN.out.mono ?_; rintro e w' ⟨rfl, rfl⟩) | (at_builtin; refine wpList_push HOW.out hr6 hsz (h := ?_)))
          intro v' w' o g m
          have o2 : Own w' (w.heap.size + 1) v' (paidL A P B pay (t + 1)) := by rw [HRS2.out]; exact o
          have b2 : Below (w.heap.size + 1) w2 w' := hbl.trans (HOW.out.pushed_below g hsz)
          have HN : Hid (leftN P B pay A (t + 1) = nl) := hnE
          clear o g m hnE
          go_wp2
          go_roundw
          case rel => exact ⟨t + 1, by omega, by go_num, by rw [HN.out], o2, b2⟩
          case measure => simp [intOf]; omega
        · have hnl : nl = 0 := by have := HLE.out; omega
          have hpx : px = lf + iv := by omega
          have HRS2 : Hid (paidL A P B pay (t + 1) = paidL A P B pay t ++ [lf + iv]) := by have := HRS.out; rw [hpx] at this; exact this
          clear hpe hpE hpx
          go_wp2_with (first | (go_at_call 60; refine HIN.out.mono ?_; rintro e w' ⟨rfl, rfl⟩) | (at_builtin; refine wpList_push HOW.out hr6 hsz (h := ?_)))
          intro v' w' o g m
          have o2 : Own w' (w.heap.size + 1) v' (paidL A P B pay (t + 1)) := by rw [HRS2.out]; exact o
          have b2 : Below (w.heap.size + 1) w2 w' := hbl.trans (HOW.out.pushed_below g hsz)
          have HN : Hid (leftN P B pay A (t + 1) = 0) := hnE.trans hnl
          clear o g m hnl hnE
          go_wp2
          go_roundw
          case rel => exact ⟨t + 1, by omega, by go_num, by rw [HN.out], o2, b2⟩
          case measure => simp [intOf]; omega
      · have hte : t = n := by omega
        subst hte
        have hb5 : Below w.heap.size w wr := hb3.trans (hbl.mono (Nat.le_succ _))
        have he : paidL A P B pay t = paidV A P B (t : Int) pay := by rw [E.out, Int.toNat_natCast]
        have ho := hown.base (Nat.le_succ w.heap.size)
        rw [he] at ho
        have HO := Lib.hid ho
        clear hown ho
        go_wp2
        go_ret
        exact ⟨_, rfl, HO.out, (fun h => by cases h), hb5⟩

end Go.Proofs.Ytfgafbjofkicdaa
