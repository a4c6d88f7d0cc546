/- The law FnExchange, out of the program's contract. -/
import Derived.Test.YtiffjeclpgcabaaDrawX
namespace Go.Proofs.Ytiffjeclpgcabaa
open Go.RowKit

theorem exch_facts {a u d : Int} (h : (inR a 0 100000 && vRat u d) = true) : (0 ≤ a ∧ a ≤ 100000) ∧ (1 ≤ u ∧ u ≤ 20) ∧ (1 ≤ d ∧ d ≤ 20) ∧ exchV a u d = a * u / d ∧ (0 ≤ a * u ∧ a * u ≤ 2000000) ∧ (0 ≤ a * u / d ∧ a * u / d ≤ 2000000) ∧ a * u / d * d ≤ a * u ∧ a * u < (a * u / d + 1) * d := by
  have h2 := h
  rw [Bool.and_eq_true] at h2
  have ha := inR_true h2.1
  obtain ⟨hu, hd⟩ := vRat_iff.1 h2.2
  have m1 : 0 ≤ a * u := Int.mul_nonneg ha.1 (by omega)
  have m2 : a * u ≤ 100000 * 20 := Int.mul_le_mul ha.2 hu.2 (by omega) (by omega)
  have q0 := Int.ediv_nonneg m1 (show 0 ≤ d by omega)
  have q1 := Int.ediv_le_self d m1
  have e := Int.mul_ediv_add_emod (a * u) d
  have r0 := Int.emod_nonneg (a * u) (show d ≠ 0 by omega)
  have r1 := Int.emod_lt_of_pos (a * u) (show 0 < d by omega)
  rw [Int.mul_comm d] at e
  have e2 : (a * u / d + 1) * d = a * u / d * d + d := by rw [Int.add_mul, Int.one_mul]
  exact ⟨ha, hu, hd, by unfold exchV; rw [h]; rfl, by omega, by omega, by omega, by omega⟩

theorem exch_back {a u d q : Int} (ha : 0 ≤ a) (hu : 1 ≤ u) (h : q * d ≤ a * u) : exchV q d u ≤ a := by
  unfold exchV
  split
  · exact Int.ediv_le_of_le_mul (by omega) h
  · omega

set_option maxRecDepth 100000 in
set_option maxHeartbeats 3200000 in
theorem FnExchange_of (himp : ∀ (x u d : Int) (wx : World), Calls Try.prog 33 #[.int .i64 x, rv u d] wx fun e w' => e = .returned (.int .i64 (exchV x u d)) ∧ Below wx.heap.size wx w')
    (a : Option Addr) (n cap : Nat) (w : World) (h : IsBytes w a n) (hc : n ≤ cap) :
    Calls Try.prog 7 #[.slice a n cap] w fun e w' => e = .returned (.bool true) ∧ Below w.heap.size w w' := by
  by_cases hbig : (1048576 : Int) < (n : Int)
  · clear himp
    go_enter Try.func7, Try.ntmps7
    go_wp2
    go_ret
    exact ⟨rfl, Below.refl _ _⟩
  · have HI := Lib.hid himp
    have HD := Lib.hid (DrawExchange_any a n cap w h hc)
    clear himp h
    go_enter Try.func7, Try.ntmps7
    go_wp2_with fail
    refine HD.out.mono ?_
    rintro e w1 ⟨x, u, d, rfl, hx, hu, hd, b1⟩
    clear HD
    have hh := IsBoxR.new w1 u d
    have bb : Below w.heap.size w (w1.alloc (.cells #[.int .i64 u, .int .i64 d] 31)) := b1.alloc b1.size _
    obtain ⟨⟨c0, c1⟩, _⟩ := hh.cells
    go_wp2_with fail
    generalize w1.alloc (.cells #[.int .i64 u, .int .i64 d] 31) = w2 at *
    generalize w1.heap.size = g3 at *
    refine (HI.out x u d _).mono ?_
    rintro e w3 ⟨rfl, d3⟩
    have h3 := hh.below d3
    have b3 := bb.trans (d3.mono bb.size)
    clear hh d3 c0 c1 bb
    obtain ⟨⟨c0, c1⟩, _⟩ := h3.cells
    go_wp2_with fail
    refine (Exchange_spec x u d _).mono ?_
    rintro e w4 ⟨rfl, d4⟩
    have h4 := h3.below d4
    have b4 := b3.trans (d4.mono b3.size)
    clear h3 d4 c0 c1 b3
    obtain ⟨⟨c0, c1⟩, _⟩ := h4.cells
    cases hv : (inR x 0 100000 && vRat u d)
    · have e1 : exchV x u d = -1 := by unfold exchV; rw [hv]; rfl
      have HE := Lib.hid e1
      rw [e1]
      clear e1 hv
      go_wp2_with fail
      refine (Exchange_spec x u d _).mono ?_
      rintro e w5 ⟨rfl, d5⟩
      rw [HE.out]
      have b5 := b4.trans (d5.mono b4.size)
      clear h4 d5 c0 c1 b4
      go_wp2
      go_ret
      exact ⟨rfl, b5⟩
    · obtain ⟨f1, f2, f3, f4, f5, f6, f7, f8⟩ := exch_facts hv
      rw [f4]
      have HB := Lib.hid (exch_back f1.1 f2.1 f7)
      have W1 : IntKind.i64.wrap (x * u) = x * u := IntWalk.i64_in _ (by omega)
      have hq1 : 0 ≤ x * u / d * d := Int.mul_nonneg f6.1 (by omega)
      have W2 : IntKind.i64.wrap (x * u / d * d) = x * u / d * d := IntWalk.i64_in _ (by omega)
      have e2 : (x * u / d + 1) * d = x * u / d * d + d := by rw [Int.add_mul, Int.one_mul]
      have W3 : IntKind.i64.wrap ((x * u / d + 1) * d) = (x * u / d + 1) * d := IntWalk.i64_in _ (by omega)
      have HNew := Lib.hid (fun wx : World => IsBoxR.new wx d u)
      clear hv f4 HNew
      generalize x * u / d = q at *
      have nq : ¬ q < 0 := by omega
      go_wp2_with fail
      refine (HI.out q d u _).mono ?_
      rintro e w5 ⟨rfl, d5⟩
      have h5 := h4.below d5
      have b5 := b4.trans (d5.mono b4.size)
      clear h4 d5 c0 c1 b4
      obtain ⟨⟨c0, c1⟩, _⟩ := h5.cells
      have hback := HB.out
      generalize exchV q d u = back at *
      have g1 : decide (q * d ≤ x * u) = true := decide_eq_true f7
      have g2 : decide ((q + 1) * d > x * u) = true := decide_eq_true f8
      have g2' : decide (x * u < (q + 1) * d) = true := decide_eq_true f8
      have g3' : decide (back ≤ x) = true := decide_eq_true hback
      by_cases hqm : 100000 < q
      · go_wp2
        go_ret
        exact ⟨rfl, b5⟩
      · go_wp2
        go_ret
        exact ⟨rfl, b5⟩

end Go.Proofs.Ytiffjeclpgcabaa
