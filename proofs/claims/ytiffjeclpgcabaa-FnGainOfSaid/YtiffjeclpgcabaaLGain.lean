/- The law FnGainOf: the walk. -/
import Derived.Test.YtiffjeclpgcabaaGanI
import Derived.Test.YtiffjeclpgcabaaLRat
namespace Go.Proofs.Ytiffjeclpgcabaa
open Go.RowKit

theorem below_drewNR {n : Nat} {w w' : World} (h : Below n w w') (q : Nat) : Below n w (w'.drewN q) := ⟨h.os, h.tape, h.output, h.size, h.block⟩

/-- A gain that is told. -/
theorem gainW_ok {g : List (List (Int × Int))} {bu bd : Int} (h : gainW g = ((bu, bd), true)) : Rates g ∧ 2 ≤ g.length ∧ rB (bu, bd) 160000 ∧ rCo (bu, bd) ∧ ∀ i j, i < g.length → j < g.length → i ≠ j → rLe (rMul (cellX g i j) (cellX g j i)) (bu, bd) := by
  unfold gainW at h
  split at h
  · rename_i hc
    rw [Bool.and_eq_true] at hc
    have hR := vRates_iff.1 hc.1
    have h2 : 2 ≤ g.length := of_decide_eq_true hc.2
    simp only [Prod.mk.injEq, and_true] at h
    have e : gainV (cellX g) g.length = (bu, bd) := by simpa using h
    have h4 := hR.len4
    rw [← e]
    exact ⟨hR, h2, gainV_bd hR.bd h2, gainV_co hR.bd h2, fun i j hi hj hij => (gainV_ge hR.bd h4 h2 hi hj hij).1⟩
  · simp at h

set_option maxRecDepth 100000 in
set_option maxHeartbeats 3200000 in
theorem FnGainOf_walk (a : Option Addr) (n cap : Nat) (w : World) (h : IsBytes w a n) (hc : n ≤ cap) :
    Calls Try.prog 5 #[.slice a n cap] w fun e w' => e = .returned (.bool true) ∧ Below w.heap.size w w' := by
  by_cases hbig : (1048576 : Int) < (n : Int)
  · go_enter Try.func5, Try.ntmps5
    go_wp2
    go_ret
    exact ⟨rfl, Below.refl _ _⟩
  · go_enter Try.func5, Try.ntmps5
    go_wp2_with fail
    refine (DrawGainOf_any a n cap w h hc).mono ?_
    rintro e w1 ⟨v, g, rfl, g1, r45, b1⟩
    have hsz := r45.sized
    have HIM := Lib.hid (GainOf_impl v g w1 g1 hsz.1 hsz.2)
    have HSP := Lib.hid (fun wx hb => GainOf_spec v g wx (g1.below (w := w1) hb) hsz.1 hsz.2)
    have HOK := Lib.hid (fun bu bd => gainW_ok (g := g) (bu := bu) (bd := bd))
    clear hsz r45
    generalize gainW g = BV at *
    obtain ⟨⟨bu, bd⟩, bo⟩ := BV
    simp only at HSP HIM
    go_wp2_with fail
    refine HIM.out.mono ?_
    rintro e w2 ⟨rfl, d2⟩
    have x6 := IsBoxR.new w2 bu bd
    have a2 := d2.alloc d2.size (.cells #[.int .i64 bu, .int .i64 bd] 31)
    clear HIM d2
    go_wp2_with fail
    generalize w2.alloc (.cells #[.int .i64 bu, .int .i64 bd] 31) = w3 at *
    generalize w2.heap.size = c6 at *
    refine (HSP.out _ a2).mono ?_
    rintro e w4 ⟨rfl, d4⟩
    have x64 := x6.below d4
    have a4 := a2.trans (d4.mono a2.size)
    have j0 : (w4.alloc (.cells #[.int .i64 bu, .int .i64 bd] 31)).cell? ⟨c6, 0, none⟩ = some (.int .i64 bu) := cell_alloc x64.cells.1.1
    have j1 : (w4.alloc (.cells #[.int .i64 bu, .int .i64 bd] 31)).cell? ⟨c6, 1, none⟩ = some (.int .i64 bd) := cell_alloc x64.cells.1.2
    have a5 := a4.alloc a4.size (.cells #[.int .i64 bu, .int .i64 bd] 31)
    clear HSP x6 a2 d4
    cases bo
    · have B5 := Lib.hid (b1.trans (a5.mono b1.size))
      clear HOK a5 a4 x64
      go_wp2
      go_ret
      exact ⟨rfl, B5.out⟩
    · obtain ⟨hR, h2, hbb, hco, hge⟩ := HOK.out bu bd rfl
      have x65 := x64.alloc (.cells #[.int .i64 bu, .int .i64 bd] 31)
      have HDV := Lib.hid (fun wx => divisor_one hbb (by decide) hco wx)
      have HGE := Lib.hid hge
      have HR := Lib.hid hR
      have G1 := Lib.hid g1
      have hg4 := hR.len4
      obtain ⟨av, cp, rfl, _⟩ := id g1
      obtain ⟨b, off, ar0, cr0, rfl, _, _⟩ := g1.row 0 (by omega)
      have q3 : 1 ≤ bu ∧ bu ≤ 160000 := hbb.1
      have q4 : 1 ≤ bd ∧ bd ≤ 160000 := hbb.2
      clear HOK hco a4 g1 x64 hge hR hbb
      go_wp2
      go_loopw [8, 9, 10, 11] (fun t _ _ _ wr => ∃ i : Nat, i ≤ g.length ∧ t = .int .i64 i ∧ IsBoxR wr c6 bu bd ∧ Below w1.heap.size w1 wr) (fun t _ _ _ _ => g.length - (intOf t).toNat)
      case atStart => exact ⟨0, Nat.zero_le _, rfl, x65, a5⟩
      case round =>
        obtain ⟨i, hi, rfl, bx, hbl⟩ := hrel
        rename World => wo
        clear x65 a5 j0 j1
        by_cases hlt : i < g.length
        · have i1 : (i : Int) < (g.length : Int) := by omega
          go_wp2
          go_loopw [9, 10, 11] (fun t _ _ wr => ∃ j : Nat, j ≤ g.length ∧ t = .int .i64 j ∧ IsBoxR wr c6 bu bd ∧ Below w1.heap.size w1 wr) (fun t _ _ _ => g.length - (intOf t).toNat)
          case atStart => exact ⟨0, Nat.zero_le _, rfl, bx, hbl⟩
          case round =>
            clear bx hbl
            obtain ⟨j, hj, rfl, bx, hbl⟩ := hrel
            rename World => wi
            by_cases hlj : j < g.length
            · have j1 : (j : Int) < (g.length : Int) := by omega
              have gi := G1.out.below hbl
              obtain ⟨b2, off2, ar, cr, ev, ci, hrow⟩ := gi.row i hlt
              simp only [Option.some.injEq, Addr.mk.injEq, and_true] at ev
              obtain ⟨rfl, rfl⟩ := ev
              obtain ⟨b3, off3, ar3, cr3, ev, cj, hrowj⟩ := gi.row j hlj
              simp only [Option.some.injEq, Addr.mk.injEq, and_true] at ev
              obtain ⟨rfl, rfl⟩ := ev
              have hli := HR.out.row i hlt
              have hll := HR.out.row j hlj
              obtain ⟨br, fr, rfl, e0, e1⟩ := hrow.at j (by omega)
              obtain ⟨br3, fr3, rfl, e2, e3⟩ := hrowj.at i (by omega)
              have i3 : (j : Int) < ((rowR g i).length : Int) := by omega
              have i4 : (i : Int) < ((rowR g j).length : Int) := by omega
              have hb1 := HR.out.bd i j hlt hlj
              have hb2 := HR.out.bd j i hlj hlt
              have u1 : 1 ≤ rUp (rowR g i) j ∧ rUp (rowR g i) j ≤ 20 := hb1.1
              have u2 : 1 ≤ rDn (rowR g i) j ∧ rDn (rowR g i) j ≤ 20 := hb1.2
              have u3 : 1 ≤ rUp (rowR g j) i ∧ rUp (rowR g j) i ≤ 20 := hb2.1
              have u4 : 1 ≤ rDn (rowR g j) i ∧ rDn (rowR g j) i ≤ 20 := hb2.2
              have HP : Hid (i ≠ j → rUp (rowR g i) j * rUp (rowR g j) i * bd ≤ bu * (rDn (rowR g i) j * rDn (rowR g j) i)) := fun hij => HGE.out i j hlt hlj hij
              have HL1 := Lib.hid hli
              have HL2 := Lib.hid hll
              clear hb1 hb2 hrow hrowj hli hll gi
              generalize rUp (rowR g i) j = xu at *
              generalize rDn (rowR g i) j = xd at *
              generalize rUp (rowR g j) i = yu at *
              generalize rDn (rowR g j) i = yd at *
              have p1 := mul_bd (a := xu) (b := yu) (x := 20) (y := 20) (by omega) (by omega) (by decide)
              have p2 := mul_bd (a := xd) (b := yd) (x := 20) (y := 20) (by omega) (by omega) (by decide)
              go_wp2
              go_quiet (fail)
              have c0' : (wi.drewN nq).cell? ⟨b, off + i, none⟩ = some (.slice (some ⟨br, fr, none⟩) (rowR g i).length cr) := ci
              have c1' : (wi.drewN nq).cell? ⟨b, off + j, none⟩ = some (.slice (some ⟨br3, fr3, none⟩) (rowR g j).length cr3) := cj
              have c2' : (wi.drewN nq).cell? ⟨br, fr + j * 2 + 1, none⟩ = some (.int .i64 xd) := e1
              have c3' : (wi.drewN nq).cell? ⟨br3, fr3 + i * 2 + 1, none⟩ = some (.int .i64 yd) := e3
              have bx2 : IsBoxR (wi.drewN nq) c6 bu bd := bx
              have hbl2 := below_drewNR hbl nq
              clear ci cj e0 e1 e2 e3 bx hbl
              generalize wi.drewN nq = wj at *
              clear nq
              go_wp2
              go_quiet (fail)
              have bx3 : IsBoxR (wj.drewN nq) c6 bu bd := bx2
              have hbl3 := below_drewNR hbl2 nq
              clear c0' c1' c2' c3' bx2 hbl2
              generalize wj.drewN nq = wk at *
              clear nq
              have k0 := bx3.cells.1.1
              have k1 := bx3.cells.1.2
              generalize xu * yu = up at *
              generalize xd * yd = dn at *
              have p3 := mul_bd (a := up) (b := bd) (x := 400) (y := 160000) (by omega) (by omega) (by decide)
              have p4 := mul_bd (a := bu) (b := dn) (x := 160000) (y := 400) (by omega) (by omega) (by decide)
              by_cases hij : i = j
              · have hie : ((i : Int) != (j : Int)) = false := by simp [hij]
                clear hij HP
                go_wp2
                go_roundw
                case rel => exact ⟨j + 1, by omega, by go_num, bx3, hbl3⟩
                case measure => simp [intOf]; omega
              · have hie : ((i : Int) != (j : Int)) = true := by simp; omega
                have hnl : ¬ bu * dn < up * bd := by have := HP.out hij; omega
                clear hij HP
                go_wp2
                go_roundw
                case rel => exact ⟨j + 1, by omega, by go_num, bx3, hbl3⟩
                case measure => simp [intOf]; omega
            · have hjn : ¬ (j : Int) < (g.length : Int) := by omega
              go_wp2
              go_roundw
              case rel => exact ⟨i + 1, by omega, by go_num, bx, hbl⟩
              case measure => simp [intOf]; omega
        · have hni : ¬ (i : Int) < (g.length : Int) := by omega
          have k0 := bx.cells.1.1
          have k1 := bx.cells.1.2
          have B9 := Lib.hid (b1.trans (hbl.mono b1.size))
          clear bx hbl
          go_wp2_with fail
          refine (HDV.out _).mono ?_
          rintro e w' ⟨rfl, rfl⟩
          go_wp2
          go_ret
          exact ⟨rfl, B9.out⟩

end Go.Proofs.Ytiffjeclpgcabaa
