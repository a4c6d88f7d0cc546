/- GainOf and IsClosed, in the program. (Printed by wip/gen_gain.py.) -/
import Derived.Test.YtiffjeclpgcabaaBstJ
import Derived.Test.YtiffjeclpgcabaaGanT
import Derived.Deep.CutRange
import Derived.Deep.RegionHeld3
import Derived.Deep.RegionLaw
namespace Go.Proofs.Ytiffjeclpgcabaa
open Go.RowKit

set_option maxRecDepth 100000 in
set_option maxHeartbeats 6400000 in
theorem GainOf_impl (v : Value) (g : List (List (Int × Int))) (w : World) (hv : IsGridR w v g) (hl : g.length ≤ 9223372036854775807) (hr : ∀ i, i < g.length → (rowR g i).length ≤ 9223372036854775807) :
    Calls Try.prog 27 #[v] w fun e w' => e = .returned (.tuple #[rv (gainW g).1.1 (gainW g).1.2, .bool (gainW g).2]) ∧ Below w.heap.size w w' := by
  have HVR := Lib.hid (fun wx hb => ValidRates_impl v g wx (hv.below (w := w) hb) hl hr)
  have HV := Lib.hid hv
  obtain ⟨av, cap, rfl, _⟩ := hv
  have x0 := IsBoxR.new w 0 0
  have hb0 : Below w.heap.size w (w.alloc (.cells #[.int .i64 0, .int .i64 0] 31)) := (Below.refl _ _).alloc (Nat.le_refl _) _
  have hsz0 : (w.alloc (.cells #[.int .i64 0, .int .i64 0] 31)).heap.size = w.heap.size + 1 := by simp
  have HSZ0 := Lib.hid hsz0
  clear hsz0
  cases h1 : (vRates g && decide (2 ≤ g.length))
  · have E := Lib.hid (gainW_no h1)
    go_enter Try.func27, Try.ntmps27
    go_wp2_with fail
    generalize w.alloc (.cells #[.int .i64 0, .int .i64 0] 31) = w1 at *
    refine (HVR.out _ hb0).mono ?_
    rintro e w2 ⟨rfl, d2⟩
    have x2 := x0.below d2
    have b2 := hb0.trans (d2.mono hb0.size)
    have f0 := x2.cells.2 0
    have f1 := x2.cells.2 1
    have c0 := x2.cells.1.1
    have c1 := x2.cells.1.2
    have XS := Lib.hid (x2.set 0 0)
    have HBS := Lib.hid (below_set2 (u := .int .i64 0) (v := .int .i64 0) b2 (Nat.le_refl _))
    clear x0 x2 hb0 d2 b2
    cases h2 : vRates g
    · go_wp2
      exact ret_box_bool (c := 2) (s := 3) rfl rfl rfl XS.out ⟨ret_best (by rw [E.out]), HBS.out⟩
    · rw [h2, Bool.true_and] at h1
      have h3 : ¬ 2 ≤ g.length := of_decide_eq_false h1
      have h4 : (g.length : Int) < 2 := by omega
      clear h1
      go_wp2
      exact ret_box_bool (c := 2) (s := 3) rfl rfl rfl XS.out ⟨ret_best (by rw [E.out]), HBS.out⟩
  have E : Hid (gainW g = (gainV (cellX g) g.length, true)) := by show _ = _; unfold gainW; rw [h1]; rfl
  rw [Bool.and_eq_true] at h1
  have hvr := h1.1
  have h2 : 2 ≤ g.length := of_decide_eq_true h1.2
  have hR := vRates_iff.1 hvr
  have hg4 := hR.len4
  have hg2 : ¬ (g.length : Int) < 2 := by omega
  have HR := Lib.hid hR
  have HBR : Hid (∀ (a b : Nat) (wx : World), a < g.length → b < g.length → a ≠ b → Below w.heap.size w wx → Calls Try.prog 62 #[.slice av g.length cap, .int .i64 a, .int .i64 b] wx fun e w' => e = .returned (rv (bestD (cellX g) g.length a b).1 (bestD (cellX g) g.length a b).2) ∧ Below wx.heap.size wx w') := fun a b wx ha hb hab hx => by
    have := bestRate_impl hR ha hb _ wx (HV.out.below hx)
    unfold bestN at this
    rwa [if_neg hab] at this
  have HST0 : Hid (∀ wx, Calls Try.prog 66 #[rv (rUp (rowR g 0) 1) (rDn (rowR g 0) 1), rv (rUp (rowR g 1) 0) (rDn (rowR g 1) 0)] wx fun e w' => e = .returned (rv (rProd (cellX g 0 1) (cellX g 1 0)).1 (rProd (cellX g 0 1) (cellX g 1 0)).2) ∧ Below wx.heap.size wx w') := fun wx => times_impl (cellX g 0 1) (cellX g 1 0) wx (hR.bd 0 1 (by omega) (by omega)).pos (hR.bd 1 0 (by omega) (by omega)).pos ((rMul_bd (hR.bd 0 1 (by omega) (by omega)) (hR.bd 1 0 (by omega) (by omega))).mono (by decide))
  obtain ⟨b, off, ar0, cr0, rfl, ci0, hrow0⟩ := HV.out.row 0 (by omega)
  obtain ⟨b', off', ar1, cr1, e, ci1, hrow1⟩ := HV.out.row 1 (by omega)
  simp only [Option.some.injEq, Addr.mk.injEq, and_true] at e
  obtain ⟨rfl, rfl⟩ := e
  have hl0 := hR.row 0 (by omega)
  have hl1 := hR.row 1 (by omega)
  obtain ⟨br0, fr0, rfl, p0, p1⟩ := hrow0.at 1 (by omega)
  obtain ⟨br1, fr1, rfl, q0, q1⟩ := hrow1.at 0 (by omega)
  have hbb : b < w.heap.size := World.block_lt_of_cell? w _ ci0
  have hbr0 : br0 < w.heap.size := World.block_lt_of_cell? w _ p0
  have hbr1 : br1 < w.heap.size := World.block_lt_of_cell? w _ q0
  have m1 : (0 : Int) < (g.length : Int) := by omega
  have m2 : (1 : Int) < (g.length : Int) := by omega
  have m3 : (1 : Int) < ((rowR g 0).length : Int) := by omega
  have m4 : (0 : Int) < ((rowR g 1).length : Int) := by omega
  have m5 : 0 < g.length := by omega
  have m6 : 0 < (rowR g 1).length := by omega
  have m7 : g ≠ [] := fun e => by rw [e] at m5; exact absurd m5 (by decide)
  have m8 : rowR g 1 ≠ [] := fun e => by rw [e] at m6; exact absurd m6 (by decide)
  go_enter Try.func27, Try.ntmps27
  go_wp2_with fail
  generalize w.alloc (.cells #[.int .i64 0, .int .i64 0] 31) = w1 at *
  refine (HVR.out _ hb0).mono ?_
  rintro e w2 ⟨rfl, d2⟩
  rw [hvr]
  have x2 := x0.below d2
  have b2 := hb0.trans (d2.mono hb0.size)
  have hw2 : w.heap.size < w2.heap.size := x2.lt
  clear x0 hb0 d2 HVR h1
  go_wp2_with fail
  have c0 : w2.cell? ⟨b, off, none⟩ = some (.slice (some ⟨br0, fr0, none⟩) (rowR g 0).length cr0) := by
    have := (b2.cell (p := ⟨b, off + 0, none⟩) hbb).trans ci0
    rwa [Nat.add_zero] at this
  have c1 := (b2.cell (p := ⟨b, off + 1, none⟩) hbb).trans ci1
  have e0 : w2.cell? ⟨br0, fr0 + 2, none⟩ = some (.int .i64 (rUp (rowR g 0) 1)) := (b2.cell (p := ⟨br0, fr0 + 1 * 2, none⟩) hbr0).trans p0
  have e1 : w2.cell? ⟨br0, fr0 + 2 + 1, none⟩ = some (.int .i64 (rDn (rowR g 0) 1)) := (b2.cell (p := ⟨br0, fr0 + 1 * 2 + 1, none⟩) hbr0).trans p1
  have e2 : w2.cell? ⟨br1, fr1, none⟩ = some (.int .i64 (rUp (rowR g 1) 0)) := by
    have := (b2.cell (p := ⟨br1, fr1 + 0 * 2, none⟩) hbr1).trans q0
    simpa using this
  have e3 : w2.cell? ⟨br1, fr1 + 1, none⟩ = some (.int .i64 (rDn (rowR g 1) 0)) := by
    have := (b2.cell (p := ⟨br1, fr1 + 0 * 2 + 1, none⟩) hbr1).trans q1
    simpa using this
  have n2 : b ≠ w2.heap.size := by omega
  have n3 : br0 ≠ w2.heap.size := by omega
  have n4 : br1 ≠ w2.heap.size := by omega
  have s0 : (w2.cell? ⟨b, off, none⟩ = some (.slice (some ⟨br0, fr0, none⟩) (rowR g 0).length cr0) ∧ w2.cell? ⟨b, off + 1, none⟩ = some (.slice (some ⟨br1, fr1, none⟩) (rowR g 1).length cr1) ∧ w2.cell? ⟨br0, fr0 + 2, none⟩ = some (.int .i64 (rUp (rowR g 0) 1)) ∧ w2.cell? ⟨br0, fr0 + 2 + 1, none⟩ = some (.int .i64 (rDn (rowR g 0) 1)) ∧ w2.cell? ⟨br1, fr1, none⟩ = some (.int .i64 (rUp (rowR g 1) 0)) ∧ w2.cell? ⟨br1, fr1 + 1, none⟩ = some (.int .i64 (rDn (rowR g 1) 0)) ∧ Below w2.heap.size w2 w2) := ⟨c0, c1, e0, e1, e2, e3, Below.refl _ _⟩
  have HP2 : Hid (∀ wx, (wx.cell? ⟨b, off, none⟩ = some (.slice (some ⟨br0, fr0, none⟩) (rowR g 0).length cr0) ∧ wx.cell? ⟨b, off + 1, none⟩ = some (.slice (some ⟨br1, fr1, none⟩) (rowR g 1).length cr1) ∧ wx.cell? ⟨br0, fr0 + 2, none⟩ = some (.int .i64 (rUp (rowR g 0) 1)) ∧ wx.cell? ⟨br0, fr0 + 2 + 1, none⟩ = some (.int .i64 (rDn (rowR g 0) 1)) ∧ wx.cell? ⟨br1, fr1, none⟩ = some (.int .i64 (rUp (rowR g 1) 0)) ∧ wx.cell? ⟨br1, fr1 + 1, none⟩ = some (.int .i64 (rDn (rowR g 1) 0)) ∧ Below w2.heap.size w2 wx) → Calls Try.prog 66 #[rv (rUp (rowR g 0) 1) (rDn (rowR g 0) 1), rv (rUp (rowR g 1) 0) (rDn (rowR g 1) 0)] wx fun e w' => e = .returned (rv (rProd (cellX g 0 1) (cellX g 1 0)).1 (rProd (cellX g 0 1) (cellX g 1 0)).2) ∧ Below wx.heap.size wx w' ∧ (w'.cell? ⟨b, off, none⟩ = some (.slice (some ⟨br0, fr0, none⟩) (rowR g 0).length cr0) ∧ w'.cell? ⟨b, off + 1, none⟩ = some (.slice (some ⟨br1, fr1, none⟩) (rowR g 1).length cr1) ∧ w'.cell? ⟨br0, fr0 + 2, none⟩ = some (.int .i64 (rUp (rowR g 0) 1)) ∧ w'.cell? ⟨br0, fr0 + 2 + 1, none⟩ = some (.int .i64 (rDn (rowR g 0) 1)) ∧ w'.cell? ⟨br1, fr1, none⟩ = some (.int .i64 (rUp (rowR g 1) 0)) ∧ w'.cell? ⟨br1, fr1 + 1, none⟩ = some (.int .i64 (rDn (rowR g 1) 0)) ∧ Below w2.heap.size w2 w')) := fun wx hs => (HST0.out wx).mono fun e w' ⟨h1, d⟩ => ⟨h1, d, ⟨cell_below hs.1 d, cell_below hs.2.1 d, cell_below hs.2.2.1 d, cell_below hs.2.2.2.1 d, cell_below hs.2.2.2.2.1 d, cell_below hs.2.2.2.2.2.1 d, Below.trans hs.2.2.2.2.2.2 (Below.mono d (Below.size hs.2.2.2.2.2.2))⟩⟩
  have HPD : Hid (∀ (W : World) (x y : Value) (t : TypeId), (((W.alloc (.cells #[x, y] t)).drew).cell? ⟨b, off, none⟩ = some (.slice (some ⟨br0, fr0, none⟩) (rowR g 0).length cr0) ∧ ((W.alloc (.cells #[x, y] t)).drew).cell? ⟨b, off + 1, none⟩ = some (.slice (some ⟨br1, fr1, none⟩) (rowR g 1).length cr1) ∧ ((W.alloc (.cells #[x, y] t)).drew).cell? ⟨br0, fr0 + 2, none⟩ = some (.int .i64 (rUp (rowR g 0) 1)) ∧ ((W.alloc (.cells #[x, y] t)).drew).cell? ⟨br0, fr0 + 2 + 1, none⟩ = some (.int .i64 (rDn (rowR g 0) 1)) ∧ ((W.alloc (.cells #[x, y] t)).drew).cell? ⟨br1, fr1, none⟩ = some (.int .i64 (rUp (rowR g 1) 0)) ∧ ((W.alloc (.cells #[x, y] t)).drew).cell? ⟨br1, fr1 + 1, none⟩ = some (.int .i64 (rDn (rowR g 1) 0)) ∧ Below w2.heap.size w2 ((W.alloc (.cells #[x, y] t)).drew)) → Calls Try.prog 66 #[rv (rUp (rowR g 0) 1) (rDn (rowR g 0) 1), rv (rUp (rowR g 1) 0) (rDn (rowR g 1) 0)] ((W.alloc (.cells #[x, y] t)).drew) fun e w' => (e = .returned (rv (rProd (cellX g 0 1) (cellX g 1 0)).1 (rProd (cellX g 0 1) (cellX g 1 0)).2) ∧ Below ((W.alloc (.cells #[x, y] t)).drew).heap.size ((W.alloc (.cells #[x, y] t)).drew) w' ∧ (w'.cell? ⟨b, off, none⟩ = some (.slice (some ⟨br0, fr0, none⟩) (rowR g 0).length cr0) ∧ w'.cell? ⟨b, off + 1, none⟩ = some (.slice (some ⟨br1, fr1, none⟩) (rowR g 1).length cr1) ∧ w'.cell? ⟨br0, fr0 + 2, none⟩ = some (.int .i64 (rUp (rowR g 0) 1)) ∧ w'.cell? ⟨br0, fr0 + 2 + 1, none⟩ = some (.int .i64 (rDn (rowR g 0) 1)) ∧ w'.cell? ⟨br1, fr1, none⟩ = some (.int .i64 (rUp (rowR g 1) 0)) ∧ w'.cell? ⟨br1, fr1 + 1, none⟩ = some (.int .i64 (rDn (rowR g 1) 0)) ∧ Below w2.heap.size w2 w')) ∧ (w'.cell? ⟨W.heap.size, 0, none⟩ = some x ∧ w'.cell? ⟨W.heap.size, 1, none⟩ = some y ∧ w'.frozen? ⟨W.heap.size, 0, none⟩ = false ∧ w'.frozen? ⟨W.heap.size, 1, none⟩ = false ∧ w'.heap[W.heap.size]? = some (.cells #[x, y] t (0, 0)))) := fun W x y t hs => (HP2.out _ hs).mono fun e w' h => ⟨h, newbox_afterD h.2.1⟩
  go_cut [4] from 16 to 26 (fun p wx => ∃ c, p = .pointer (some ⟨c, 0, none⟩) ∧ w2.heap.size ≤ c ∧ IsBoxR wx c (rProd (cellX g 0 1) (cellX g 1 0)).1 (rProd (cellX g 0 1) (cellX g 1 0)).2 ∧ Below w2.heap.size w2 wx)
  case first =>
    have SD : Hid ((w2.drew.cell? ⟨b, off, none⟩ = some (.slice (some ⟨br0, fr0, none⟩) (rowR g 0).length cr0) ∧ w2.drew.cell? ⟨b, off + 1, none⟩ = some (.slice (some ⟨br1, fr1, none⟩) (rowR g 1).length cr1) ∧ w2.drew.cell? ⟨br0, fr0 + 2, none⟩ = some (.int .i64 (rUp (rowR g 0) 1)) ∧ w2.drew.cell? ⟨br0, fr0 + 2 + 1, none⟩ = some (.int .i64 (rDn (rowR g 0) 1)) ∧ w2.drew.cell? ⟨br1, fr1, none⟩ = some (.int .i64 (rUp (rowR g 1) 0)) ∧ w2.drew.cell? ⟨br1, fr1 + 1, none⟩ = some (.int .i64 (rDn (rowR g 1) 0)) ∧ Below w2.heap.size w2 w2.drew)) := ⟨s0.1, s0.2.1, s0.2.2.1, s0.2.2.2.1, s0.2.2.2.2.1, s0.2.2.2.2.2.1, Below.drew s0.2.2.2.2.2.2⟩
    have SAD : Hid (∀ o : Obj, ((w2.alloc o).drew.cell? ⟨b, off, none⟩ = some (.slice (some ⟨br0, fr0, none⟩) (rowR g 0).length cr0) ∧ (w2.alloc o).drew.cell? ⟨b, off + 1, none⟩ = some (.slice (some ⟨br1, fr1, none⟩) (rowR g 1).length cr1) ∧ (w2.alloc o).drew.cell? ⟨br0, fr0 + 2, none⟩ = some (.int .i64 (rUp (rowR g 0) 1)) ∧ (w2.alloc o).drew.cell? ⟨br0, fr0 + 2 + 1, none⟩ = some (.int .i64 (rDn (rowR g 0) 1)) ∧ (w2.alloc o).drew.cell? ⟨br1, fr1, none⟩ = some (.int .i64 (rUp (rowR g 1) 0)) ∧ (w2.alloc o).drew.cell? ⟨br1, fr1 + 1, none⟩ = some (.int .i64 (rDn (rowR g 1) 0)) ∧ Below w2.heap.size w2 (w2.alloc o).drew)) := fun o => ⟨cell_alloc s0.1, cell_alloc s0.2.1, cell_alloc s0.2.2.1, cell_alloc s0.2.2.2.1, cell_alloc s0.2.2.2.2.1, cell_alloc s0.2.2.2.2.2.1, (Below.alloc s0.2.2.2.2.2.2 (Below.size s0.2.2.2.2.2.2) _).drew⟩
    have SA : Hid (∀ (W : World) (o : Obj), (W.cell? ⟨b, off, none⟩ = some (.slice (some ⟨br0, fr0, none⟩) (rowR g 0).length cr0) ∧ W.cell? ⟨b, off + 1, none⟩ = some (.slice (some ⟨br1, fr1, none⟩) (rowR g 1).length cr1) ∧ W.cell? ⟨br0, fr0 + 2, none⟩ = some (.int .i64 (rUp (rowR g 0) 1)) ∧ W.cell? ⟨br0, fr0 + 2 + 1, none⟩ = some (.int .i64 (rDn (rowR g 0) 1)) ∧ W.cell? ⟨br1, fr1, none⟩ = some (.int .i64 (rUp (rowR g 1) 0)) ∧ W.cell? ⟨br1, fr1 + 1, none⟩ = some (.int .i64 (rDn (rowR g 1) 0)) ∧ Below w2.heap.size w2 W) → ((W.alloc o).cell? ⟨b, off, none⟩ = some (.slice (some ⟨br0, fr0, none⟩) (rowR g 0).length cr0) ∧ (W.alloc o).cell? ⟨b, off + 1, none⟩ = some (.slice (some ⟨br1, fr1, none⟩) (rowR g 1).length cr1) ∧ (W.alloc o).cell? ⟨br0, fr0 + 2, none⟩ = some (.int .i64 (rUp (rowR g 0) 1)) ∧ (W.alloc o).cell? ⟨br0, fr0 + 2 + 1, none⟩ = some (.int .i64 (rDn (rowR g 0) 1)) ∧ (W.alloc o).cell? ⟨br1, fr1, none⟩ = some (.int .i64 (rUp (rowR g 1) 0)) ∧ (W.alloc o).cell? ⟨br1, fr1 + 1, none⟩ = some (.int .i64 (rDn (rowR g 1) 0)) ∧ Below w2.heap.size w2 (W.alloc o))) := fun W o hs => ⟨cell_alloc hs.1, cell_alloc hs.2.1, cell_alloc hs.2.2.1, cell_alloc hs.2.2.2.1, cell_alloc hs.2.2.2.2.1, cell_alloc hs.2.2.2.2.2.1, Below.alloc hs.2.2.2.2.2.2 (Below.size hs.2.2.2.2.2.2) _⟩
    have S2 : Hid (∀ (W : World) (z0 z1 : Value), (W.cell? ⟨b, off, none⟩ = some (.slice (some ⟨br0, fr0, none⟩) (rowR g 0).length cr0) ∧ W.cell? ⟨b, off + 1, none⟩ = some (.slice (some ⟨br1, fr1, none⟩) (rowR g 1).length cr1) ∧ W.cell? ⟨br0, fr0 + 2, none⟩ = some (.int .i64 (rUp (rowR g 0) 1)) ∧ W.cell? ⟨br0, fr0 + 2 + 1, none⟩ = some (.int .i64 (rDn (rowR g 0) 1)) ∧ W.cell? ⟨br1, fr1, none⟩ = some (.int .i64 (rUp (rowR g 1) 0)) ∧ W.cell? ⟨br1, fr1 + 1, none⟩ = some (.int .i64 (rDn (rowR g 1) 0)) ∧ Below w2.heap.size w2 W) → (((W.setCell ⟨w2.heap.size, 0, none⟩ z0).setCell ⟨w2.heap.size, 1, none⟩ z1).cell? ⟨b, off, none⟩ = some (.slice (some ⟨br0, fr0, none⟩) (rowR g 0).length cr0) ∧ ((W.setCell ⟨w2.heap.size, 0, none⟩ z0).setCell ⟨w2.heap.size, 1, none⟩ z1).cell? ⟨b, off + 1, none⟩ = some (.slice (some ⟨br1, fr1, none⟩) (rowR g 1).length cr1) ∧ ((W.setCell ⟨w2.heap.size, 0, none⟩ z0).setCell ⟨w2.heap.size, 1, none⟩ z1).cell? ⟨br0, fr0 + 2, none⟩ = some (.int .i64 (rUp (rowR g 0) 1)) ∧ ((W.setCell ⟨w2.heap.size, 0, none⟩ z0).setCell ⟨w2.heap.size, 1, none⟩ z1).cell? ⟨br0, fr0 + 2 + 1, none⟩ = some (.int .i64 (rDn (rowR g 0) 1)) ∧ ((W.setCell ⟨w2.heap.size, 0, none⟩ z0).setCell ⟨w2.heap.size, 1, none⟩ z1).cell? ⟨br1, fr1, none⟩ = some (.int .i64 (rUp (rowR g 1) 0)) ∧ ((W.setCell ⟨w2.heap.size, 0, none⟩ z0).setCell ⟨w2.heap.size, 1, none⟩ z1).cell? ⟨br1, fr1 + 1, none⟩ = some (.int .i64 (rDn (rowR g 1) 0)) ∧ Below w2.heap.size w2 ((W.setCell ⟨w2.heap.size, 0, none⟩ z0).setCell ⟨w2.heap.size, 1, none⟩ z1))) := fun W z0 z1 hs => ⟨cell_set2 hs.1 n2, cell_set2 hs.2.1 n2, cell_set2 hs.2.2.1 n3, cell_set2 hs.2.2.2.1 n3, cell_set2 hs.2.2.2.2.1 n4, cell_set2 hs.2.2.2.2.2.1 n4, below_set2 hs.2.2.2.2.2.2 (Nat.le_refl _)⟩
    clear s0
    go_region_held3 (fun w' => w'.cell? ⟨b, off, none⟩ = some (.slice (some ⟨br0, fr0, none⟩) (rowR g 0).length cr0) ∧ w'.cell? ⟨b, off + 1, none⟩ = some (.slice (some ⟨br1, fr1, none⟩) (rowR g 1).length cr1) ∧ w'.cell? ⟨br0, fr0 + 2, none⟩ = some (.int .i64 (rUp (rowR g 0) 1)) ∧ w'.cell? ⟨br0, fr0 + 2 + 1, none⟩ = some (.int .i64 (rDn (rowR g 0) 1)) ∧ w'.cell? ⟨br1, fr1, none⟩ = some (.int .i64 (rUp (rowR g 1) 0)) ∧ w'.cell? ⟨br1, fr1 + 1, none⟩ = some (.int .i64 (rDn (rowR g 1) 0)) ∧ Below w2.heap.size w2 w')
      (first | with_reducible exact s6 | with_reducible exact SD.out | with_reducible exact SAD.out _ | with_reducible exact SA.out _ _ s6 | with_reducible exact S2.out _ _ _ s6)
      (first
        | ((with_reducible refine (HPD.out _ _ _ _ ?_).mono ?_); with_reducible exact SAD.out _; rintro e w6 ⟨⟨rfl, d6, s6⟩, y0, y1, y2, y3, y4⟩)
        | ((with_reducible refine (HP2.out _ ?_).mono ?_); with_reducible exact SD.out; rintro e w6 ⟨rfl, d6, s6⟩))
    · go_wp2_with fail
      go_meet
      exact ⟨w6.heap.size, rfl, (s6.2.2.2.2.2.2).size, IsBoxR.new w6 _ _, (s6.2.2.2.2.2.2).alloc (s6.2.2.2.2.2.2).size _⟩
    · go_wp2_with fail
      go_meet
      exact ⟨w2.heap.size, rfl, Nat.le_refl _, box_set2 y4 _ _, below_set2 (s6.2.2.2.2.2.2) (Nat.le_refl _)⟩
  case rest =>
    obtain ⟨c4, rfl, hc4, bx4, hb4⟩ := hcut
    have hbw := b2.trans (hb4.mono b2.size)
    have x0c := x2.below hb4
    have hS0 := start_bd hR.bd h2
    have hnc : w.heap.size ≠ c4 := by omega
    clear HP2 HPD s0 c0 c1 e0 e1 e2 e3 n2 n3 n4 x2 b2 hb4 m1 m2 m3 m4 m5 m6 m7 m8 p0 p1 q0 q1 ci0 ci1 hrow0 hrow1
    have E0 : Hid (gainV (cellX g) g.length = gainUp (cellX g) g.length (rProd (cellX g 0 1) (cellX g 1 0)) g.length) := rfl
    generalize rProd (cellX g 0 1) (cellX g 1 0) = SS at *
    go_wp2_with fail
    go_loopg [29] g.length (fun n iv wr => ∃ a : Nat, a + n = g.length ∧ iv = .int .i64 a ∧ IsBoxR wr c4 (gainUp (cellX g) g.length SS a).1 (gainUp (cellX g) g.length SS a).2 ∧ IsBoxR wr w.heap.size 0 0 ∧ Below w.heap.size w wr)
    case atStart => exact ⟨0, by omega, rfl, bx4, x0c, hbw⟩
    case round =>
      clear bx4 x0c hbw
      obtain ⟨a, han, rfl, bx, x0, hbl⟩ := hrel
      have HAN := Lib.hid han
      clear han
      cases gk with
      | zero =>
        have hkg : a = g.length := by have := HAN.out; omega
        subst hkg
        rw [← E0.out] at bx
        have c0 := bx.cells.1.1
        have c1 := bx.cells.1.2
        have f0 := x0.cells.2 0
        have f1 := x0.cells.2 1
        have z0 := x0.cells.1.1
        have z1 := x0.cells.1.2
        have XS := Lib.hid (fun u v => x0.set u v)
        have HBS : Hid (∀ u v : Int, Below w.heap.size w ((wr.setCell ⟨w.heap.size, 0, none⟩ (.int .i64 u)).setCell ⟨w.heap.size, 1, none⟩ (.int .i64 v))) := fun u v => below_set2 hbl (Nat.le_refl _)
        clear bx x0 hbl
        go_wp2
        exact ret_box_bool (c := 2) (s := 3) rfl rfl rfl (XS.out _ _) ⟨ret_best (by rw [E.out]), HBS.out _ _⟩
      | succ ga =>
        have hal : a < g.length := by have := HAN.out; omega
        have a1 : (a : Int) < (g.length : Int) := by omega
        have hUa := gainUp_bd hR.bd hS0 a (by omega)
        have HUN : Hid (gainUp (cellX g) g.length SS (a + 1) = gainRow (cellX g) g.length a (gainUp (cellX g) g.length SS a) g.length) := rfl
        generalize gainUp (cellX g) g.length SS a = UU at *
        go_wp2_with fail
        go_loopg [34] g.length (fun n iv wx => ∃ k : Nat, k + n = g.length ∧ iv = .int .i64 k ∧ IsBoxR wx c4 (gainRow (cellX g) g.length a UU k).1 (gainRow (cellX g) g.length a UU k).2 ∧ IsBoxR wx w.heap.size 0 0 ∧ Below w.heap.size w wx)
        case atStart => exact ⟨0, by omega, rfl, bx, x0, hbl⟩
        case round =>
          clear bx x0 hbl
          obtain ⟨k, hkn, rfl, bx, x0, hbl⟩ := hrel
          rename World => wx
          have HKN := Lib.hid hkn
          clear hkn
          cases gk with
          | zero =>
            have hkg : k = g.length := by have := HKN.out; omega
            subst hkg
            rw [← HUN.out] at bx
            go_wp2
            go_roundg ga
            case measure => omega
            case rel => exact ⟨a + 1, by have := HAN.out; omega, by go_num, bx, x0, hbl⟩
          | succ gb =>
            have hkl : k < g.length := by have := HKN.out; omega
            have k1 : (k : Int) < (g.length : Int) := by omega
            have HRS : Hid (gainRow (cellX g) g.length a UU (k + 1) = if a ≠ k then rMax (gainRow (cellX g) g.length a UU k) (rProd (bestD (cellX g) g.length a k) (cellX g k a)) else gainRow (cellX g) g.length a UU k) := rfl
            by_cases hak : a = k
            · have hie : ((a : Int) != (k : Int)) = false := by simp [hak]
              have HEQ : Hid (gainRow (cellX g) g.length a UU (k + 1) = gainRow (cellX g) g.length a UU k) := by show _ = _; rw [HRS.out, if_neg (fun h => h hak)]
              clear hak
              go_wp2
              go_roundg gb
              case measure => omega
              case rel => exact ⟨k + 1, by have := HKN.out; omega, by go_num, by rw [HEQ.out]; exact bx, x0, hbl⟩
            · have hie : ((a : Int) != (k : Int)) = true := by simp; omega
              have HEQ : Hid (gainRow (cellX g) g.length a UU (k + 1) = rMax (gainRow (cellX g) g.length a UU k) (rProd (bestD (cellX g) g.length a k) (cellX g k a))) := by show _ = _; rw [HRS.out, if_pos hak]
              obtain ⟨bb, off2, ar, cr, ev, ci, hrow⟩ := HV.out.row k hkl
              simp only [Option.some.injEq, Addr.mk.injEq, and_true] at ev
              obtain ⟨rfl, rfl⟩ := ev
              have hlk := hR.row k hkl
              obtain ⟨br, fr, rfl, d0, d1⟩ := hrow.at a (by omega)
              have hbr : br < w.heap.size := World.block_lt_of_cell? w _ d0
              have i2 : (a : Int) < ((rowR g k).length : Int) := by omega
              have hD := bestD_bd hR.bd hal hkl
              have hW := hR.bd k a hkl hal
              have hX := circ_bd hR.bd hal hkl
              have hG := gainRow_bd hR.bd hal hUa k (by omega)
              have HTM0 : Hid (∀ wy, Calls Try.prog 66 #[rv (bestD (cellX g) g.length a k).1 (bestD (cellX g) g.length a k).2, rv (rUp (rowR g k) a) (rDn (rowR g k) a)] wy fun e w' => e = .returned (rv (rProd (bestD (cellX g) g.length a k) (cellX g k a)).1 (rProd (bestD (cellX g) g.length a k) (cellX g k a)).2) ∧ Below wy.heap.size wy w') := fun wy => times_impl (bestD (cellX g) g.length a k) (cellX g k a) wy hD.pos hW.pos ((rMul_bd hD hW).mono (by decide))
              have HGR0 : Hid (∀ wy, Calls Try.prog 67 #[rv (gainRow (cellX g) g.length a UU k).1 (gainRow (cellX g) g.length a UU k).2, rv (rProd (bestD (cellX g) g.length a k) (cellX g k a)).1 (rProd (bestD (cellX g) g.length a k) (cellX g k a)).2] wy fun e w' => e = .returned (rv (rMax (gainRow (cellX g) g.length a UU k) (rProd (bestD (cellX g) g.length a k) (cellX g k a))).1 (rMax (gainRow (cellX g) g.length a UU k) (rProd (bestD (cellX g) g.length a k) (cellX g k a))).2) ∧ Below wy.heap.size wy w') := fun wy => greater_impl _ _ wy (hG.mono (by decide)) (hX.mono (by decide))
              have HBT0 := Lib.hid (HBR.out a k wx.drew hal hkl hak hbl.drew)
              have ci3 := (hbl.cell (p := ⟨b, off + k, none⟩) hbb).trans ci
              have e0 := (hbl.cell (p := ⟨br, fr + a * 2, none⟩) hbr).trans d0
              have e1 := (hbl.cell (p := ⟨br, fr + a * 2 + 1, none⟩) hbr).trans d1
              have g0 := bx.cells.1.1
              have g1 := bx.cells.1.2
              clear hak hrow hD hW hX hG HRS
              generalize rMax (gainRow (cellX g) g.length a UU k) (rProd (bestD (cellX g) g.length a k) (cellX g k a)) = RR at *
              generalize rProd (bestD (cellX g) g.length a k) (cellX g k a) = XX at *
              generalize bestD (cellX g) g.length a k = DD at *
              generalize gainRow (cellX g) g.length a UU k = GG at *
              obtain ⟨ru, rd⟩ := RR
              obtain ⟨xu, xd⟩ := XX
              obtain ⟨du, dd⟩ := DD
              obtain ⟨gu, gd⟩ := GG
              simp only at *
              have bxd : IsBoxR wx.drew c4 gu gd := bx
              have x0d : IsBoxR wx.drew w.heap.size 0 0 := x0
              have hbd := hbl.drew
              have HBT : Hid (Calls Try.prog 62 #[.slice (some ⟨b, off, none⟩) g.length cap, .int .i64 a, .int .i64 k] wx.drew fun e w' => e = .returned (rv du dd) ∧ Below wx.drew.heap.size wx.drew w' ∧ w'.cell? ⟨c4, 0, none⟩ = some (.int .i64 gu) ∧ w'.cell? ⟨c4, 1, none⟩ = some (.int .i64 gd) ∧ w'.cell? ⟨b, off + k, none⟩ = some (.slice (some ⟨br, fr, none⟩) (rowR g k).length cr) ∧ w'.cell? ⟨br, fr + a * 2, none⟩ = some (.int .i64 (rUp (rowR g k) a)) ∧ w'.cell? ⟨br, fr + a * 2 + 1, none⟩ = some (.int .i64 (rDn (rowR g k) a)) ∧ IsBoxR w' c4 gu gd) := HBT0.out.mono fun e w' h => ⟨h.1, h.2, (bxd.below h.2).cells.1.1, (bxd.below h.2).cells.1.2, cell_below (W := wx.drew) ci3 h.2, cell_below (W := wx.drew) e0 h.2, cell_below (W := wx.drew) e1 h.2, bxd.below h.2⟩
              have HTM : Hid (∀ wy, IsBoxR wy c4 gu gd → Calls Try.prog 66 #[rv du dd, rv (rUp (rowR g k) a) (rDn (rowR g k) a)] wy fun e w' => e = .returned (rv xu xd) ∧ Below wy.heap.size wy w' ∧ w'.cell? ⟨c4, 0, none⟩ = some (.int .i64 gu) ∧ w'.cell? ⟨c4, 1, none⟩ = some (.int .i64 gd) ∧ IsBoxR w' c4 gu gd) := fun wy hx => (HTM0.out wy).mono fun e w' h => ⟨h.1, h.2, (hx.below h.2).cells.1.1, (hx.below h.2).cells.1.2, hx.below h.2⟩
              have HGR : Hid (∀ wy, IsBoxR wy c4 gu gd → Calls Try.prog 67 #[rv gu gd, rv xu xd] wy fun e w' => e = .returned (rv ru rd) ∧ Below wy.heap.size wy w' ∧ w'.cell? ⟨c4, 0, none⟩ = some (.int .i64 gu) ∧ w'.cell? ⟨c4, 1, none⟩ = some (.int .i64 gd) ∧ w'.frozen? ⟨c4, 0, none⟩ = false ∧ w'.frozen? ⟨c4, 1, none⟩ = false ∧ IsBoxR w' c4 gu gd) := fun wy hx => (HGR0.out wy).mono fun e w' h => ⟨h.1, h.2, (hx.below h.2).cells.1.1, (hx.below h.2).cells.1.2, (hx.below h.2).cells.2 0, (hx.below h.2).cells.2 1, hx.below h.2⟩
              clear HTM0 HGR0 HBT0 bx x0 hbl
              go_wp2_with fail
              go_region_law (first | (go_simp; go_at_call 62; refine HBT.out.mono ?_; rintro e w6 ⟨rfl, d6, r0, r1, r2, r3, r4, b6⟩) | (go_simp; go_at_call 66; refine (HTM.out _ b6).mono ?_; rintro e w7 ⟨rfl, d7, t0, t1, b7⟩) | (go_simp; go_at_call 67; refine (HGR.out _ b7).mono ?_; rintro e w8 ⟨rfl, d8, u0, u1, f0, f1, b8⟩))
              all_goals
                have x08 := ((x0d.below d6).below d7).below d8
                have hb8 := ((hbd.trans (d6.mono hbd.size)).trans (d7.mono (Nat.le_trans hbd.size d6.size))).trans (d8.mono (Nat.le_trans (Nat.le_trans hbd.size d6.size) d7.size))
                have XS := Lib.hid (b8.set ru rd)
                have X0 := Lib.hid ((x08.other hnc 0 (.int .i64 ru)).other hnc 1 (.int .i64 rd))
                have HB8 := Lib.hid (below_set2 (u := .int .i64 ru) (v := .int .i64 rd) hb8 (show w.heap.size ≤ c4 by omega))
                clear x08 hb8 d6 d7 d8 r0 r1 r2 r3 r4 b6 t0 t1 b7 u0 u1 f0 f1 b8 bxd x0d hbd
                go_wp2
                go_roundg gb
                case measure => omega
                case rel => exact ⟨k + 1, by have := HKN.out; omega, by go_num, by rw [HEQ.out]; exact XS.out, X0.out, HB8.out⟩

set_option maxRecDepth 100000 in
set_option maxHeartbeats 3200000 in
theorem IsClosed_impl (v : Value) (g : List (List (Int × Int))) (w : World) (hv : IsGridR w v g) (hl : g.length ≤ 9223372036854775807) (hr : ∀ i, i < g.length → (rowR g i).length ≤ 9223372036854775807) :
    Calls Try.prog 30 #[v] w fun e w' => e = .returned (.bool (closedW g)) ∧ Below w.heap.size w w' := by
  have HVR := Lib.hid (fun wx hb => ValidRates_impl v g wx (hv.below (w := w) hb) hl hr)
  have HGO := Lib.hid (GainOf_impl v g w hv hl hr)
  obtain ⟨av, cap, rfl, _⟩ := hv
  cases h1 : (vRates g && decide (2 ≤ g.length))
  · have EG := Lib.hid (gainW_no h1)
    have E : Hid (closedW g = vRates g) := by
      show _ = _
      unfold closedW
      cases h2 : vRates g
      · rfl
      · rw [h2, Bool.true_and] at h1
        have h3 : ¬ 2 ≤ g.length := of_decide_eq_false h1
        rw [decide_eq_true (show g.length < 2 by omega)]; rfl
    rw [EG.out] at HGO
    simp only at HGO
    clear h1
    go_enter Try.func30, Try.ntmps30
    go_wp2_with fail
    refine HGO.out.mono ?_
    rintro e w2 ⟨rfl, d2⟩
    have b4 := d2.alloc d2.size (.cells #[.int .i64 0, .int .i64 0] 31)
    go_wp2_with fail
    refine (HVR.out _ b4).mono ?_
    rintro e w3 ⟨rfl, d3⟩
    have b5 := b4.trans (d3.mono b4.size)
    clear d2 d3 b4
    go_wp2
    go_ret
    exact ⟨ret_bool E.out.symm, b5⟩
  · rw [Bool.and_eq_true] at h1
    have h2 : 2 ≤ g.length := of_decide_eq_true h1.2
    have EG : Hid (gainW g = (gainV (cellX g) g.length, true)) := by show _ = _; unfold gainW; rw [h1.1, h1.2]; rfl
    have E : Hid (closedW g = decide ((gainV (cellX g) g.length).1 ≤ (gainV (cellX g) g.length).2)) := by show _ = _; unfold closedW; rw [h1.1, decide_eq_false (show ¬ g.length < 2 by omega)]; rfl
    rw [EG.out] at HGO
    generalize gainV (cellX g) g.length = G at *
    obtain ⟨gu, gd⟩ := G
    simp only at HGO E
    go_enter Try.func30, Try.ntmps30
    go_wp2_with fail
    refine HGO.out.mono ?_
    rintro e w2 ⟨rfl, d2⟩
    have b4 := d2.alloc d2.size (.cells #[.int .i64 gu, .int .i64 gd] 31)
    go_wp2
    go_ret
    exact ⟨ret_bool E.out.symm, b4⟩

end Go.Proofs.Ytiffjeclpgcabaa
