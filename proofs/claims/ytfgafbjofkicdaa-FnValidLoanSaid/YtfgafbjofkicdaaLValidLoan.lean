/- The law FnValidLoan, out of the program's contract. -/
import Derived.Test.YtfgafbjofkicdaaLoanE
namespace Go.Proofs.Ytfgafbjofkicdaa
open Go.RowKit

theorem vLoan_less {A P B T : Int} (h : vLoan A P B T = true) (h1 : T - 1 ≠ 0) : vLoan A P B (T - 1) = true := by
  have := vLoan_iff.1 h
  exact vLoan_iff.2 (by omega)

set_option maxHeartbeats 3200000 in
theorem FnValidLoan_of (himp : ∀ (A P B T : Int) (wx : World), Calls Try.prog 20 #[lv A P B T] wx fun e w' => e = .returned (.bool (vLoan A P B T)) ∧ Below wx.heap.size wx w')
    (a : Option Addr) (n cap : Nat) (w : World) (h : IsBytes w a n) (hc : n ≤ cap) :
    Calls Try.prog 3 #[.slice a n cap] w fun e w' => e = .returned (.bool true) ∧ Below w.heap.size w w' := by
  by_cases hbig : (1048576 : Int) < (n : Int)
  · go_enter Try.func3, Try.ntmps3
    go_wp2
    go_ret
    exact ⟨rfl, Below.refl _ _⟩
  · have HI := Lib.hid himp
    clear himp
    go_enter Try.func3, Try.ntmps3
    go_wp2_with fail
    refine (DrawValidLoan_any a n cap _ h hc).mono ?_
    rintro e w1 ⟨A, P, B, T, rfl, b1⟩
    clear h
    have hh := IsBoxL.new w1 A P B T
    have bb : Below w.heap.size w (w1.alloc (.cells #[.int .i64 A, .int .i64 P, .int .i64 B, .int .i64 T] 24)) := b1.alloc b1.size _
    have hg := b1.size
    obtain ⟨⟨c0, c1, c2, c3⟩, _⟩ := hh.cells
    cases hv : vLoan A P B T
    · go_wp2_with fail
      generalize w1.alloc (.cells #[.int .i64 A, .int .i64 P, .int .i64 B, .int .i64 T] 24) = w2 at *
      generalize w1.heap.size = g3 at *
      refine (HI.out A P B T _).mono ?_
      rintro e w3 ⟨rfl, hb3⟩
      rw [hv]
      have hh3 : IsBoxL w3 g3 A P B T := (hb3.block _ hh.lt).trans hh
      have b3 := bb.trans (hb3.mono bb.size)
      clear hh hb3 c0 c1 c2 c3 bb
      obtain ⟨⟨c0, c1, c2, c3⟩, _⟩ := hh3.cells
      go_wp2_with fail
      refine (ValidLoan_spec A P B T _).mono ?_
      rintro e w4 ⟨rfl, hb4⟩
      rw [hv]
      have hh4 : IsBoxL w4 g3 A P B T := (hb4.block _ hh3.lt).trans hh3
      have b4 := b3.trans (hb4.mono b3.size)
      clear hh3 hb4 c0 c1 c2 c3 b3
      obtain ⟨⟨c0, c1, c2, c3⟩, _⟩ := hh4.cells
      go_wp2_with fail
      refine (ValidLoan_spec A P B T _).mono ?_
      rintro e w5 ⟨rfl, hb5⟩
      rw [hv]
      have b5 := b4.trans (hb5.mono b4.size)
      clear hh4 hb5 c0 c1 c2 c3 b4
      go_wp2
      go_ret
      exact ⟨rfl, b5⟩
    · have hT := vLoan_iff.1 hv
      have hl := vLoan_less hv
      go_wp2_with fail
      generalize w1.alloc (.cells #[.int .i64 A, .int .i64 P, .int .i64 B, .int .i64 T] 24) = w2 at *
      generalize w1.heap.size = g3 at *
      refine (HI.out A P B T _).mono ?_
      rintro e w3 ⟨rfl, hb3⟩
      rw [hv]
      have hh3 : IsBoxL w3 g3 A P B T := (hb3.block _ hh.lt).trans hh
      have b3 := bb.trans (hb3.mono bb.size)
      clear hh hb3 c0 c1 c2 c3 bb
      obtain ⟨⟨c0, c1, c2, c3⟩, _⟩ := hh3.cells
      go_wp2_with fail
      refine (ValidLoan_spec A P B T _).mono ?_
      rintro e w4 ⟨rfl, hb4⟩
      rw [hv]
      have hh4 : IsBoxL w4 g3 A P B T := (hb4.block _ hh3.lt).trans hh3
      have b4 := b3.trans (hb4.mono b3.size)
      clear hh3 hb4 c0 c1 c2 c3 b3
      obtain ⟨⟨c0, c1, c2, c3⟩, cf⟩ := hh4.cells
      have f3 := cf 3
      have hh5 := hh4.set3 (T - 1)
      have b5 : Below w.heap.size w (w4.setCell ⟨g3, 3, none⟩ (.int .i64 (T - 1))) := b4.setCell (by exact hg) _
      have HH5 := Lib.hid hh5
      have B5 := Lib.hid b5
      clear hh5 b5 cf
      by_cases h0 : T - 1 = 0
      · rw [h0] at HH5 B5
        go_wp2
        trace_state
        go_ret
        exact ⟨rfl, B5.out⟩
      · have hv2 := hl h0
        have d0 : decide (T - 1 = 0) = false := decide_eq_false h0
        obtain ⟨⟨e0, e1, e2, e3⟩, _⟩ := HH5.out.cells
        go_wp2_with fail
        refine (HI.out A P B (T - 1) _).mono ?_
        rintro e w6 ⟨rfl, hb6⟩
        rw [hv2]
        have b6 := B5.out.trans (hb6.mono B5.out.size)
        clear hb6
        go_wp2
        go_ret
        exact ⟨rfl, b6⟩

end Go.Proofs.Ytfgafbjofkicdaa
