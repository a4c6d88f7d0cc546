/- GainOf and IsClosed, in the model. -/
import Derived.Test.YtiffjeclpgcabaaBstR
import Derived.Test.YtiffjeclpgcabaaGanM
import Derived.Deep.CutRange
import Derived.Deep.RegionLaw
namespace Go.Proofs.Ytiffjeclpgcabaa
open Go.RowKit

theorem gainW_no {g : List (List (Int × Int))} (h : (vRates g && decide (2 ≤ g.length)) = false) : gainW g = ((0, 0), false) := by unfold gainW; rw [h]; rfl

set_option maxRecDepth 100000 in
set_option maxHeartbeats 6400000 in
theorem GainOf_spec (v : Value) (g : List (List (Int × Int))) (w : World) (hv : IsGridR w v g) (hl : g.length ≤ 9223372036854775807) (hr : ∀ i, i < g.length → (rowR g i).length ≤ 9223372036854775807) :
    Calls Try.prog 28 #[v] w fun e w' => e = .returned (.tuple #[rv (gainW g).1.1 (gainW g).1.2, .bool (gainW g).2]) ∧ Below w.heap.size w w' := by
  have HVR := Lib.hid (fun wx hb => validRates_spec v g wx (hv.below (w := w) hb) hl hr)
  have HBR0 := Lib.hid (fun (a b : Int) wx hb => BestRate_spec v g a b wx (hv.below (w := w) hb) hl hr)
  have HV := Lib.hid hv
  obtain ⟨av, cap, rfl, _⟩ := hv
  have x0 := IsBoxR.new w 0 0
  have hb0 : Below w.heap.size w (w.alloc (.cells #[.int .i64 0, .int .i64 0] 31)) := (Below.refl _ _).alloc (Nat.le_refl _) _
  have hsz0 : (w.alloc (.cells #[.int .i64 0, .int .i64 0] 31)).heap.size = w.heap.size + 1 := by simp
  have HSZ0 := Lib.hid hsz0
  clear hsz0
  cases h1 : (vRates g && decide (2 ≤ g.length))
  · have E := Lib.hid (gainW_no h1)
    go_enter Try.func28, Try.ntmps28
    go_wp2_with fail
    generalize w.alloc (.cells #[.int .i64 0, .int .i64 0] 31) = w1 at *
    refine (HVR.out _ hb0).mono ?_
    rintro e w2 ⟨rfl, d2⟩
    have x2 := x0.below d2
    have b2 := hb0.trans (d2.mono hb0.size)
    have f0 := x2.cells.2 0
    have f1 := x2.cells.2 1
    have c0 := x2.cells.1.1
    have c1 := x2.cells.1.2
    have XS := Lib.hid (x2.set 0 0)
    have HBS := Lib.hid (below_set2 (u := .int .i64 0) (v := .int .i64 0) b2 (Nat.le_refl _))
    clear x0 x2 hb0 d2 b2
    cases h2 : vRates g
    · go_wp2
      exact ret_box_bool (c := 2) (s := 3) rfl rfl rfl XS.out ⟨ret_best (by rw [E.out]), HBS.out⟩
    · rw [h2, Bool.true_and] at h1
      have h3 : ¬ 2 ≤ g.length := of_decide_eq_false h1
      have h4 : (g.length : Int) < 2 := by omega
      clear h1
      go_wp2
      exact ret_box_bool (c := 2) (s := 3) rfl rfl rfl XS.out ⟨ret_best (by rw [E.out]), HBS.out⟩
  have E : Hid (gainW g = (gainV (cellX g) g.length, true)) := by show _ = _; unfold gainW; rw [h1]; rfl
  rw [Bool.and_eq_true] at h1
  have hvr := h1.1
  have h2 : 2 ≤ g.length := of_decide_eq_true h1.2
  have hR := vRates_iff.1 hvr
  have hg4 := hR.len4
  have hg2 : ¬ (g.length : Int) < 2 := by omega
  have HR := Lib.hid hR
  have HBR : Hid (∀ (a b : Nat) (wx : World), a < g.length → b < g.length → a ≠ b → Below w.heap.size w wx → Calls Try.prog 24 #[.slice av g.length cap, .int .i64 a, .int .i64 b] wx fun e w' => e = .returned (.tuple #[rv (bestD (cellX g) g.length a b).1 (bestD (cellX g) g.length a b).2, .bool true]) ∧ Below wx.heap.size wx w') := fun a b wx ha hb hab hx => by
    have := HBR0.out (a : Int) (b : Int) wx hx
    have e : bestV g a b = (bestD (cellX g) g.length a b, true) := by
      unfold bestV
      have i1 : inR (a : Int) 0 ((g.length : Int) - 1) = true := by unfold inR; rw [decide_eq_true_iff]; omega
      have i2 : inR (b : Int) 0 ((g.length : Int) - 1) = true := by unfold inR; rw [decide_eq_true_iff]; omega
      have i3 : ¬ (a : Int) = (b : Int) := by omega
      rw [hvr, i1, i2]
      simp [i3]
    rwa [e] at this
  go_enter Try.func28, Try.ntmps28
  go_wp2_with fail
  generalize w.alloc (.cells #[.int .i64 0, .int .i64 0] 31) = w1 at *
  refine (HVR.out _ hb0).mono ?_
  rintro e w2 ⟨rfl, d2⟩
  rw [hvr]
  have x2 := x0.below d2
  have b2 := hb0.trans (d2.mono hb0.size)
  have hw2 : w.heap.size < w2.heap.size := x2.lt
  have x4 := IsBoxR.new w2 0 0
  have da := (Below.refl w2.heap.size w2).alloc (Nat.le_refl _) (.cells #[.int .i64 0, .int .i64 0] 31)
  have x3 := x2.below da
  have b3 := b2.trans (da.mono b2.size)
  clear x0 hb0 d2 x2 b2 da HVR h1
  go_wp2_with fail
  generalize w2.alloc (.cells #[.int .i64 0, .int .i64 0] 31) = w3 at *
  generalize w2.heap.size = c4 at *
  go_loopg [5] g.length (fun n iv wr => ∃ a : Nat, a + n = g.length ∧ iv = .int .i64 a ∧ IsBoxR wr c4 (stG (cellX g) g.length a 0).1 (stG (cellX g) g.length a 0).2 ∧ IsBoxR wr w.heap.size 0 0 ∧ Below w.heap.size w wr)
  case atStart => exact ⟨0, by omega, rfl, by rw [stG_zero ⟨rfl, by omega⟩]; exact x4, x3, b3⟩
  case round =>
    clear x4 x3 b3
    obtain ⟨a, han, rfl, bx, x0, hbl⟩ := hrel
    have HAN := Lib.hid han
    clear han
    cases gk with
    | zero =>
      have hkg : a = g.length := by have := HAN.out; omega
      subst hkg
      rw [stG_end h2] at bx
      have c0 := bx.cells.1.1
      have c1 := bx.cells.1.2
      have f0 := x0.cells.2 0
      have f1 := x0.cells.2 1
      have z0 := x0.cells.1.1
      have z1 := x0.cells.1.2
      have XS := Lib.hid (fun u v => x0.set u v)
      have HBS : Hid (∀ u v : Int, Below w.heap.size w ((wr.setCell ⟨w.heap.size, 0, none⟩ (.int .i64 u)).setCell ⟨w.heap.size, 1, none⟩ (.int .i64 v))) := fun u v => below_set2 hbl (Nat.le_refl _)
      clear bx x0 hbl
      go_wp2
      exact ret_box_bool (c := 2) (s := 3) rfl rfl rfl (XS.out _ _) ⟨ret_best (by rw [E.out]), HBS.out _ _⟩
    | succ ga =>
      have hal : a < g.length := by have := HAN.out; omega
      have a1 : (a : Int) < (g.length : Int) := by omega
      go_wp2_with fail
      go_loopg [6] g.length (fun n iv wx => ∃ b : Nat, b + n = g.length ∧ iv = .int .i64 b ∧ IsBoxR wx c4 (stG (cellX g) g.length a b).1 (stG (cellX g) g.length a b).2 ∧ IsBoxR wx w.heap.size 0 0 ∧ Below w.heap.size w wx)
      case atStart => exact ⟨0, by omega, rfl, bx, x0, hbl⟩
      case round =>
        clear bx x0 hbl
        obtain ⟨b, hbn, rfl, bx, x0, hbl⟩ := hrel
        rename World => wx
        have HBN := Lib.hid hbn
        clear hbn
        cases gk with
        | zero =>
          have hkb : b = g.length := by have := HBN.out; omega
          subst hkb
          rw [stG_next h2] at bx
          go_wp2
          go_roundg ga
          case measure => omega
          case rel => exact ⟨a + 1, by have := HAN.out; omega, by go_num, bx, x0, hbl⟩
        | succ gb =>
          have hbl1 : b < g.length := by have := HBN.out; omega
          have b1 : (b : Int) < (g.length : Int) := by omega
          by_cases hab : a = b
          · have hie : ((a : Int) == (b : Int)) = true := by simp [hab]
            have bx' : IsBoxR wx c4 (stG (cellX g) g.length a (b + 1)).1 (stG (cellX g) g.length a (b + 1)).2 := by
              subst hab
              rw [stG_same]
              exact bx
            clear hab bx
            go_wp2
            go_roundg gb
            case measure => omega
            case rel => exact ⟨b + 1, by have := HBN.out; omega, by go_num, bx', x0, hbl⟩
          · have hie : ((a : Int) == (b : Int)) = false := by simp; omega
            have HB := Lib.hid (HBR.out a b _ hal hbl1 hab hbl)
            obtain ⟨bb, off, ar, cr, rfl, ci, hrow⟩ := HV.out.row b hbl1
            have hlb := hR.row b hbl1
            obtain ⟨br, fr, rfl, d0, d1⟩ := hrow.at a (by omega)
            have hbb : bb < w.heap.size := World.block_lt_of_cell? w _ ci
            have hbr : br < w.heap.size := World.block_lt_of_cell? w _ d0
            have i2 : (a : Int) < ((rowR g b).length : Int) := by omega
            have hD := bestD_bd hR.bd hal hbl1
            have hW := hR.bd b a hbl1 hal
            have hX := circ_bd hR.bd hal hbl1
            have HPR : Hid (∀ wx, Calls Try.prog 68 #[rv (bestD (cellX g) g.length a b).1 (bestD (cellX g) g.length a b).2, rv (rUp (rowR g b) a) (rDn (rowR g b) a)] wx fun e w' => e = .returned (rv (rProd (bestD (cellX g) g.length a b) (cellX g b a)).1 (rProd (bestD (cellX g) g.length a b) (cellX g b a)).2) ∧ Below wx.heap.size wx w') := fun wx => product_spec (bestD (cellX g) g.length a b) (cellX g b a) wx hD.pos hW.pos ((rMul_bd hD hW).mono (by decide))
            have HST : Hid (¬ (a = 0 ∧ b ≤ 1) → stG (cellX g) g.length a (b + 1) = rMax (stG (cellX g) g.length a b) (rProd (bestD (cellX g) g.length a b) (cellX g b a))) := fun h => stG_step hab h
            have HSF : Hid (a = 0 ∧ b ≤ 1 → stG (cellX g) g.length a (b + 1) = rProd (bestD (cellX g) g.length a b) (cellX g b a)) := fun h => by
              obtain ⟨rfl, hb⟩ := h
              have : b = 1 := by omega
              subst this
              exact stG_first hR.bd hg4 h2
            have HSZ : Hid (a = 0 ∧ b ≤ 1 → stG (cellX g) g.length a b = (0, 0)) := stG_zero
            have HSB : Hid (¬ (a = 0 ∧ b ≤ 1) → rB (stG (cellX g) g.length a b) 160000) := fun h => stG_bd hR.bd h2 hal (by omega) h
            clear hab hrow
            generalize rProd (bestD (cellX g) g.length a b) (cellX g b a) = XX at *
            generalize bestD (cellX g) g.length a b = DD at *
            generalize stG (cellX g) g.length a b = SS at *
            obtain ⟨xu, xd⟩ := XX
            obtain ⟨du, dd⟩ := DD
            obtain ⟨su, sd⟩ := SS
            simp only at *
            go_wp2_with fail
            refine HB.out.mono ?_
            rintro e w5 ⟨rfl, d5⟩
            have bx5 := bx.below d5
            have x05 := x0.below d5
            have hbl5 := hbl.trans (d5.mono hbl.size)
            clear bx x0 hbl d5
            go_wp2_with fail
            have x7 := IsBoxR.new w5 du dd
            have da := (Below.refl w5.heap.size w5).alloc (Nat.le_refl _) (.cells #[.int .i64 du, .int .i64 dd] 31)
            have bx6 := bx5.below da
            have x06 := x05.below da
            have hbl6 := hbl5.trans (da.mono hbl5.size)
            have hc7 : w.heap.size < w5.heap.size := x05.lt
            have hc47 : c4 < w5.heap.size := bx5.lt
            clear bx5 x05 hbl5 da
            generalize w5.alloc (.cells #[.int .i64 du, .int .i64 dd] 31) = wy at *
            generalize w5.heap.size = c7 at *
            have ci3 := (hbl6.cell (p := ⟨bb, off + b, none⟩) hbb).trans ci
            have e0 := (hbl6.cell (p := ⟨br, fr + a * 2, none⟩) hbr).trans d0
            have e1 := (hbl6.cell (p := ⟨br, fr + a * 2 + 1, none⟩) hbr).trans d1
            have g0 := x7.cells.1.1
            have g1 := x7.cells.1.2
            have x7d : IsBoxR wy.drew c7 du dd := x7
            have HPB : Hid (∀ wx, IsBoxR wx c7 du dd → Calls Try.prog 68 #[rv du dd, rv (rUp (rowR g b) a) (rDn (rowR g b) a)] wx fun e w' => e = .returned (rv xu xd) ∧ Below wx.heap.size wx w' ∧ w'.cell? ⟨c7, 0, none⟩ = some (.int .i64 du) ∧ w'.cell? ⟨c7, 1, none⟩ = some (.int .i64 dd) ∧ w'.frozen? ⟨c7, 0, none⟩ = false ∧ w'.frozen? ⟨c7, 1, none⟩ = false ∧ IsBoxR w' c7 du dd) := fun wx hx => (HPR.out wx).mono fun e w' h => ⟨h.1, h.2, (hx.below h.2).cells.1.1, (hx.below h.2).cells.1.2, (hx.below h.2).cells.2 0, (hx.below h.2).cells.2 1, hx.below h.2⟩
            have bx6d : IsBoxR wy.drew c4 su sd := bx6
            have x06d : IsBoxR wy.drew w.heap.size 0 0 := x06
            have hbl6d := hbl6.drew
            go_cut [] from 25 to 58 (fun wx => IsBoxR wx c7 xu xd ∧ IsBoxR wx c4 su sd ∧ IsBoxR wx w.heap.size 0 0 ∧ Below w.heap.size w wx)
            case first =>
              go_region_law (first | (go_simp; go_at_call 68; refine (HPB.out _ x7d).mono ?_; rintro e w6 ⟨rfl, d6, r0, r1, f0, f1, b7⟩))
              all_goals
                go_wp2_with fail
                go_meet
                exact ⟨b7.set xu xd, ((bx6d.below d6).other (by omega) _ _).other (by omega) _ _, ((x06d.below d6).other (by omega) _ _).other (by omega) _ _, below_set2 (hbl6d.trans (d6.mono hbl6d.size)) (by omega)⟩
            case rest =>
              obtain ⟨y7, y4, y0, hy⟩ := hcut
              clear bx6 x06 hbl6 bx6d x06d hbl6d x7 x7d ci3 e0 e1 g0 g1 HPB HPR HB
              have j0 := y7.cells.1.1
              have j1 := y7.cells.1.2
              have k0 := y4.cells.1.1
              have k1 := y4.cells.1.2
              by_cases hz : a = 0 ∧ b ≤ 1
              · have hs0 := HSZ.out hz
                have HEQ := Lib.hid (HSF.out hz)
                simp only [Prod.mk.injEq] at hs0
                obtain ⟨rfl, rfl⟩ := hs0
                have f0 := y4.cells.2 0
                have f1 := y4.cells.2 1
                have XS := Lib.hid (y4.set xu xd)
                have X0 := Lib.hid ((y0.other (show w.heap.size ≠ c4 by omega) 0 (.int .i64 xu)).other (show w.heap.size ≠ c4 by omega) 1 (.int .i64 xd))
                have HBS := Lib.hid (below_set2 (u := .int .i64 xu) (v := .int .i64 xd) hy (show w.heap.size ≤ c4 by omega))
                clear y7 y4 y0 hy hz
                go_wp2
                go_roundg gb
                case measure => omega
                case rel => exact ⟨b + 1, by have := HBN.out; omega, by go_num, by rw [HEQ.out]; exact XS.out, X0.out, HBS.out⟩
              · have hsb := HSB.out hz
                have HEQ0 := Lib.hid (HST.out hz)
                have HLS := Lib.hid (fun wx => less_spec (su, sd) (xu, xd) wx (hsb.mono (by decide)) (hX.mono (by decide)))
                have hsd : ((sd : Int) == 0) = false := by
                  have := hsb.2.1
                  simp
                  omega
                have hsd2 : ¬ sd = 0 := by have := hsb.2.1; omega
                clear hz
                go_wp2_with fail
                refine (HLS.out _).mono ?_
                rintro e w8 ⟨rfl, d8⟩
                have z7 := y7.below d8
                have z4 := y4.below d8
                have z0 := y0.below d8
                have hz8 := hy.trans (d8.mono hy.size)
                have j0 := z7.cells.1.1
                have j1 := z7.cells.1.2
                have k0 := z4.cells.1.1
                have k1 := z4.cells.1.2
                have f0 := z4.cells.2 0
                have f1 := z4.cells.2 1
                clear y7 y4 y0 hy d8
                by_cases hls : su * xd < xu * sd
                · have HEQ : Hid (stG (cellX g) g.length a (b + 1) = (xu, xd)) := by show _ = _; rw [HEQ0.out]; unfold rMax; rw [if_pos hls]
                  have hlsb : decide (su * xd < xu * sd) = true := decide_eq_true hls
                  have XS := Lib.hid (z4.set xu xd)
                  have X0 := Lib.hid ((z0.other (show w.heap.size ≠ c4 by omega) 0 (.int .i64 xu)).other (show w.heap.size ≠ c4 by omega) 1 (.int .i64 xd))
                  have HBS := Lib.hid (below_set2 (u := .int .i64 xu) (v := .int .i64 xd) hz8 (show w.heap.size ≤ c4 by omega))
                  clear z7 z4 z0 hz8
                  go_wp2
                  go_roundg gb
                  case measure => omega
                  case rel => exact ⟨b + 1, by have := HBN.out; omega, by go_num, by rw [HEQ.out]; exact XS.out, X0.out, HBS.out⟩
                · have HEQ : Hid (stG (cellX g) g.length a (b + 1) = (su, sd)) := by show _ = _; rw [HEQ0.out]; unfold rMax; rw [if_neg hls]
                  have hlsb : decide (su * xd < xu * sd) = false := decide_eq_false hls
                  go_wp2
                  go_roundg gb
                  case measure => omega
                  case rel => exact ⟨b + 1, by have := HBN.out; omega, by go_num, by rw [HEQ.out]; exact z4, z0, hz8⟩

end Go.Proofs.Ytiffjeclpgcabaa
