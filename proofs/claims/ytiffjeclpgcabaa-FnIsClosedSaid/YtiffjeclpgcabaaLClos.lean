/- The law FnIsClosed: the walk. -/
import Derived.Test.YtiffjeclpgcabaaGanI
import Derived.Test.YtiffjeclpgcabaaLRat
namespace Go.Proofs.Ytiffjeclpgcabaa
open Go.RowKit

/-- Whether all pairs of a row below b hold. -/
def allIn (p : Nat → Nat → Bool) (a : Nat) : Nat → Bool
  | 0 => true
  | b + 1 => allIn p a b && p a b
/-- Whether all pairs of the rows below a hold. -/
def allUp (p : Nat → Nat → Bool) : Nat → Bool
  | 0 => true
  | a + 1 => allUp p a && allIn p a a

theorem allIn_iff {p : Nat → Nat → Bool} {a : Nat} : ∀ b, allIn p a b = true ↔ ∀ j, j < b → p a j = true
  | 0 => by simp [allIn]
  | b + 1 => by
    rw [allIn, Bool.and_eq_true, allIn_iff b]
    constructor
    · intro h j hj
      by_cases e : j = b
      · rw [e]; exact h.2
      · exact h.1 j (by omega)
    · intro h
      exact ⟨fun j hj => h j (by omega), h b (by omega)⟩
theorem allUp_iff {p : Nat → Nat → Bool} : ∀ a, allUp p a = true ↔ ∀ i j, i < a → j < i → p i j = true
  | 0 => by simp [allUp]
  | a + 1 => by
    rw [allUp, Bool.and_eq_true, allUp_iff a, allIn_iff a]
    constructor
    · intro h i j hi hj
      by_cases e : i = a
      · rw [e] at hj ⊢; exact h.2 j hj
      · exact h.1 i j (by omega) hj
    · intro h
      exact ⟨fun i j hi hj => h i j (by omega) hj, fun j hj => h a j (by omega) hj⟩

/-- The best rates of two moneys there and back are at most 1. -/
def backP (g : List (List (Int × Int))) (a b : Nat) : Bool := decide ((bestD (cellX g) g.length a b).1 * (bestD (cellX g) g.length b a).1 ≤ (bestD (cellX g) g.length a b).2 * (bestD (cellX g) g.length b a).2)

theorem closed_all {g : List (List (Int × Int))} (h : vRates g = true) : closedW g = allUp (backP g) g.length := by
  have hR := vRates_iff.1 h
  unfold closedW
  rw [h, Bool.true_and, Bool.eq_iff_iff, allUp_iff]
  by_cases h2 : g.length < 2
  · rw [decide_eq_true h2]
    simp only [Bool.true_or, true_iff]
    intro i j hi hj
    omega
  · rw [decide_eq_false h2, Bool.false_or, decide_eq_true_iff, closed_iff hR.bd hR.len4 (by omega) hR.one]
    simp [backP]

theorem bestV_two {g : List (List (Int × Int))} (hR : Rates g) {i j : Nat} (hi : i < g.length) (hj : j < g.length) (hij : i ≠ j) : bestV g i j = (bestD (cellX g) g.length i j, true) := by
  unfold bestV
  have e1 : inR (i : Int) 0 ((g.length : Int) - 1) = true := decide_eq_true (by omega)
  have e2 : inR (j : Int) 0 ((g.length : Int) - 1) = true := decide_eq_true (by omega)
  rw [vRates_iff.2 hR, e1, e2]
  simp only [Bool.and_self, if_true, Int.toNat_natCast]
  rw [if_neg (by omega)]

set_option maxRecDepth 100000 in
set_option maxHeartbeats 3200000 in
theorem FnIsClosed_walk (a : Option Addr) (n cap : Nat) (w : World) (h : IsBytes w a n) (hc : n ≤ cap) :
    Calls Try.prog 6 #[.slice a n cap] w fun e w' => e = .returned (.bool true) ∧ Below w.heap.size w w' := by
  by_cases hbig : (1048576 : Int) < (n : Int)
  · go_enter Try.func6, Try.ntmps6
    go_wp2
    go_ret
    exact ⟨rfl, Below.refl _ _⟩
  · go_enter Try.func6, Try.ntmps6
    go_wp2_with fail
    refine (DrawIsClosed_any a n cap w h hc).mono ?_
    rintro e w1 ⟨v, g, rfl, g1, r45, b1⟩
    have hsz := r45.sized
    have HIM := Lib.hid (IsClosed_impl v g w1 g1 hsz.1 hsz.2)
    have HSP := Lib.hid (fun wx hb => IsClosed_spec v g wx (g1.below (w := w1) hb) hsz.1 hsz.2)
    have HVR := Lib.hid (fun wx hb => ValidRates_impl v g wx (g1.below (w := w1) hb) hsz.1 hsz.2)
    have HBR := Lib.hid (fun x y wx hb => BestRate_impl v g x y wx (g1.below (w := w1) hb) hsz.1 hsz.2)
    have hg4 := r45.1
    obtain ⟨av, cp, rfl, _⟩ := id g1
    have HCL := Lib.hid (closed_all (g := g))
    clear hsz r45 g1
    go_wp2_with fail
    refine HIM.out.mono ?_
    rintro e w2 ⟨rfl, d2⟩
    clear HIM
    go_wp2_with fail
    refine (HSP.out _ d2).mono ?_
    rintro e w3 ⟨rfl, d3⟩
    have d4 := d2.trans (d3.mono d2.size)
    clear d2 d3
    generalize hcw : closedW g = cw at *
    go_wp2_with fail
    refine (HVR.out _ d4).mono ?_
    rintro e w5 ⟨rfl, d5⟩
    have d6 := d4.trans (d5.mono d4.size)
    clear d4 d5
    cases hv : vRates g
    · clear HCL HBR HVR
      go_wp2_with fail
      refine (HSP.out _ d6).mono ?_
      rintro e w7 ⟨rfl, d7⟩
      have B7 := Lib.hid (b1.trans ((d6.trans (d7.mono d6.size)).mono b1.size))
      go_wp2
      go_ret
      exact ⟨rfl, B7.out⟩
    · have hR := vRates_iff.1 hv
      have HE := Lib.hid (HCL.out hv)
      have HC : Hid (∀ i j : Nat, j < i → i < g.length → ∃ xu xd yu yd : Int, (∀ wx, Below w1.heap.size w1 wx → Calls Try.prog 23 #[.slice av g.length cp, .int .i64 i, .int .i64 j] wx fun e w' => e = .returned (.tuple #[rv xu xd, .bool true]) ∧ Below wx.heap.size wx w') ∧ (∀ wx, Below w1.heap.size w1 wx → Calls Try.prog 23 #[.slice av g.length cp, .int .i64 j, .int .i64 i] wx fun e w' => e = .returned (.tuple #[rv yu yd, .bool true]) ∧ Below wx.heap.size wx w') ∧ rB (xu, xd) 8000 ∧ rB (yu, yd) 8000 ∧ backP g i j = decide (xu * yu ≤ xd * yd)) := by
        intro i j hj hi
        have h1 := bestV_two hR hi (show j < g.length by omega) (by omega)
        have h2 := bestV_two hR (show j < g.length by omega) hi (by omega)
        refine ⟨(bestD (cellX g) g.length i j).1, (bestD (cellX g) g.length i j).2, (bestD (cellX g) g.length j i).1, (bestD (cellX g) g.length j i).2, fun wx hb => ?_, fun wx hb => ?_, bestD_bd hR.bd hi (by omega), bestD_bd hR.bd (by omega) hi, rfl⟩
        · have := HBR.out i j wx hb
          rw [h1] at this
          exact this
        · have := HBR.out j i wx hb
          rw [h2] at this
          exact this
      clear HCL HBR HVR HSP hR hcw
      generalize backP g = p at *
      go_wp2
      go_loopw [5, 6, 7, 8, 9, 10, 11] (fun s t _ _ _ _ _ wr => ∃ i : Nat, i ≤ g.length ∧ s = .bool (allUp p i) ∧ t = .int .i64 i ∧ Below w1.heap.size w1 wr) (fun _ t _ _ _ _ _ _ => g.length - (intOf t).toNat)
      case atStart => exact ⟨0, Nat.zero_le _, rfl, rfl, d6⟩
      case round =>
        obtain ⟨i, hi, rfl, rfl, hbl⟩ := hrel
        rename World => wo
        clear d6
        by_cases hlt : i < g.length
        · have i1 : (i : Int) < (g.length : Int) := by omega
          have HS : Hid (allUp p (i + 1) = (allUp p i && allIn p i i)) := rfl
          generalize allUp p i = aw at *
          go_wp2
          go_loopw [5, 7, 8, 9, 10, 11] (fun s t _ _ _ _ wr => ∃ j : Nat, j ≤ i ∧ s = .bool (aw && allIn p i j) ∧ t = .int .i64 j ∧ Below w1.heap.size w1 wr) (fun _ t _ _ _ _ _ => i - (intOf t).toNat)
          case atStart => exact ⟨0, Nat.zero_le _, by simp [allIn], rfl, hbl⟩
          case round =>
            obtain ⟨j, hj, rfl, rfl, hbl⟩ := hrel
            rename World => wi
            by_cases hlj : j < i
            · have j1 : (j : Int) < (i : Int) := by omega
              obtain ⟨xu, xd, yu, yd, h1, h2, q1, q2, hp⟩ := HC.out i j hlj hlt
              have HS2 : Hid ((aw && allIn p i (j + 1)) = ((aw && allIn p i j) && decide (xu * yu ≤ xd * yd))) := by show _ = _; rw [allIn, hp, Bool.and_assoc]
              have m1 := mul_bd (a := xu) (b := yu) (x := 8000) (y := 8000) (by have := q1.1; simp only at this; omega) (by have := q2.1; simp only at this; omega) (by decide)
              have m2 := mul_bd (a := xd) (b := yd) (x := 8000) (y := 8000) (by have := q1.2; simp only at this; omega) (by have := q2.2; simp only at this; omega) (by decide)
              have H1 := Lib.hid h1
              have H2 := Lib.hid h2
              clear h1 h2 q1 q2 hp
              generalize (aw && allIn p i j) = al at *
              go_wp2_with fail
              refine (H1.out _ hbl).mono ?_
              rintro e w7 ⟨rfl, d7⟩
              have hb7 := hbl.trans (d7.mono hbl.size)
              have x7 := IsBoxR.new w7 xu xd
              have a7 := hb7.alloc hb7.size (.cells #[.int .i64 xu, .int .i64 xd] 31)
              clear hbl d7 hb7
              go_wp2_with fail
              refine (H2.out _ a7).mono ?_
              rintro e w8 ⟨rfl, d8⟩
              have hb8 := a7.trans (d8.mono a7.size)
              have x8 := x7.below d8
              have k0 : (w8.alloc (.cells #[.int .i64 yu, .int .i64 yd] 31)).cell? ⟨w7.heap.size, 0, none⟩ = some (.int .i64 xu) := cell_alloc x8.cells.1.1
              have k1 : (w8.alloc (.cells #[.int .i64 yu, .int .i64 yd] 31)).cell? ⟨w7.heap.size, 1, none⟩ = some (.int .i64 xd) := cell_alloc x8.cells.1.2
              have B9 := Lib.hid (hb8.alloc hb8.size (.cells #[.int .i64 yu, .int .i64 yd] 31))
              clear a7 x7 d8 hb8 x8
              cases al
              · go_wp2
                go_roundw
                case rel => exact ⟨j + 1, by omega, by rw [HS2.out]; simp, by go_num, B9.out⟩
                case measure => simp [intOf]; omega
              · go_wp2
                go_roundw
                case rel => exact ⟨j + 1, by omega, by rw [HS2.out]; simp, by go_num, B9.out⟩
                case measure => simp [intOf]; omega
            · have hje : j = i := by omega
              subst hje
              rw [← HS.out]
              have hni : ¬ (j : Int) < (j : Int) := by omega
              go_wp2
              go_roundw
              case rel => exact ⟨j + 1, by omega, rfl, by go_num, hbl⟩
              case measure => simp [intOf]; omega
        · have hie : i = g.length := by omega
          have hni : ¬ (i : Int) < (g.length : Int) := by omega
          have HF : Hid (allUp p i = cw) := by show _ = _; rw [hie]; exact HE.out.symm
          rw [HF.out]
          have B9 := Lib.hid (b1.trans (hbl.mono b1.size))
          clear hie hbl
          go_wp2
          go_ret
          exact ⟨by simp, B9.out⟩

end Go.Proofs.Ytiffjeclpgcabaa
