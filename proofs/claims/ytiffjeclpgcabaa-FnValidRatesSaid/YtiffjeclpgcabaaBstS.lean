/- The best rates, in the model: one way on. (Printed by wip/gen_bests.py.) -/
import Derived.Test.YtiffjeclpgcabaaRatT
import Derived.Test.YtiffjeclpgcabaaVouM
import Derived.Test.YtiffjeclpgcabaaCellK
import Derived.Deep.CutRange
import Derived.Deep.RegionHeld3
namespace Go.Proofs.Ytiffjeclpgcabaa
open Go.RowKit

/-- The money k is in the set m. -/
def uM (m : Nat) : Nat → Bool := fun k => decide (bitN m k = 1)

theorem uM_add {m k : Nat} (hm : m < 16) (hk : k < 4) (hb : bitN m k = 0) : m + 2 ^ k < 16 ∧ uM (m + 2 ^ k) = setU (uM m) k := by
  have h1 : ∀ m : Fin 16, ∀ k : Fin 4, bitN m.val k.val = 0 → m.val + 2 ^ k.val < 16 ∧ ∀ j : Fin 4, bitN (m.val + 2 ^ k.val) j.val = if j.val = k.val then 1 else bitN m.val j.val := by decide +kernel
  obtain ⟨h2, h3⟩ := h1 ⟨m, hm⟩ ⟨k, hk⟩ hb
  refine ⟨h2, funext fun j => ?_⟩
  show decide (bitN (m + 2 ^ k) j = 1) = (decide (j = k) || decide (bitN m j = 1))
  by_cases hj : j < 4
  · have := h3 ⟨j, hj⟩
    simp only at this
    rw [this]
    by_cases e : j = k
    · simp [e]
    · simp [e]
  · have h16 : 16 ≤ 2 ^ j := by
      have : 2 ^ 4 ≤ 2 ^ j := Nat.pow_le_pow_right (by decide) (by omega)
      omega
    have e1 : bitN (m + 2 ^ k) j = 0 := by unfold bitN; rw [Nat.div_eq_of_lt (by simp only at h2; omega)]
    have e2 : bitN m j = 0 := by unfold bitN; rw [Nat.div_eq_of_lt (by omega)]
    rw [e1, e2]
    have : ¬ j = k := by omega
    simp [this]

section
variable {g : List (List (Int × Int))}

set_option maxRecDepth 100000 in
set_option maxHeartbeats 16000000 in
theorem bestFrom_body (rec : (Nat → Bool) → Nat → Int × Int → Int × Int) (v : Value) (m a tt : Nat) (now : Int × Int) (w : World) (hv : IsGridR w v g) (hR : Rates g) (hm : m < 16) (ha : a < g.length) (ht : tt < g.length) (hn : rB now 400)
    (hrb : ∀ k, k < g.length → rB (rec (setU (uM m) k) k (rProd now (cellX g a k))) 8000)
    (hrec : ∀ k, k < g.length → bitN m k = 0 → k ≠ tt → ∀ wx, Below w.heap.size w wx → Calls Try.prog 64 #[v, .int .i64 ((m : Int) + ((2 ^ k : Nat) : Int)), .int .i64 k, .int .i64 tt, rv (rProd now (cellX g a k)).1 (rProd now (cellX g a k)).2] wx fun e w' => e = .returned (rv (rec (setU (uM m) k) k (rProd now (cellX g a k))).1 (rec (setU (uM m) k) k (rProd now (cellX g a k))).2) ∧ Below wx.heap.size wx w') :
    Calls Try.prog 64 #[v, .int .i64 m, .int .i64 a, .int .i64 tt, rv now.1 now.2] w fun e w' => e = .returned (rv (bestK (cellX g) tt rec (uM m) a now g.length).1 (bestK (cellX g) tt rec (uM m) a now g.length).2) ∧ Below w.heap.size w w' := by
  obtain ⟨av, cap, rfl, _⟩ := id hv
  have hg4 := hR.len4
  obtain ⟨b, off, ar, cr, rfl, ci, hrow⟩ := hv.row a ha
  have hla := hR.row a ha
  have HL := Lib.hid hla
  obtain ⟨br, fr, rfl, d0, d1⟩ := hrow.at tt (by omega)
  have hbb : b < w.heap.size := World.block_lt_of_cell? w _ ci
  have hbr : br < w.heap.size := World.block_lt_of_cell? w _ d0
  have i1 : (a : Int) < (g.length : Int) := by omega
  have i2 : (tt : Int) < ((rowR g a).length : Int) := by omega
  have HBK : Hid (∀ j, j ≤ g.length → rB (bestK (cellX g) tt rec (uM m) a now j) 8000) := fun j hj => bestK_bd ((rProd_bd hn (hR.bd a tt ha ht)).mono (by decide)) j (fun k hk => hrb k (by omega))
  have HRW : Hid (∀ k, k < g.length → w.cell? ⟨br, fr + k * 2, none⟩ = some (.int .i64 (rUp (rowR g a) k)) ∧ w.cell? ⟨br, fr + k * 2 + 1, none⟩ = some (.int .i64 (rDn (rowR g a) k))) := fun k hk => by
    obtain ⟨b', f', e, x0, x1⟩ := hrow.at k (by omega)
    simp only [Option.some.injEq, Addr.mk.injEq, and_true] at e
    obtain ⟨rfl, rfl⟩ := e
    exact ⟨x0, x1⟩
  have HPR : Hid (∀ k, k < g.length → ∀ wx, Calls Try.prog 68 #[rv now.1 now.2, rv (rUp (rowR g a) k) (rDn (rowR g a) k)] wx fun e w' => e = .returned (rv (rProd now (cellX g a k)).1 (rProd now (cellX g a k)).2) ∧ Below wx.heap.size wx w') := fun k hk wx => product_spec now (cellX g a k) wx hn.pos (hR.bd a k ha hk).pos ((rMul_bd hn (hR.bd a k ha hk)).mono (by decide))
  have HREC := Lib.hid hrec
  have HRB := Lib.hid hrb
  have HSTEP : Hid (∀ k, bestK (cellX g) tt rec (uM m) a now (k + 1) = if uM m k = false ∧ k ≠ tt then rMax (bestK (cellX g) tt rec (uM m) a now k) (rec (setU (uM m) k) k (rProd now (cellX g a k))) else bestK (cellX g) tt rec (uM m) a now k) := fun k => rfl
  have HZERO : Hid (bestK (cellX g) tt rec (uM m) a now 0 = rProd now (cellX g a tt)) := rfl
  obtain ⟨nu, nd⟩ := now
  simp only at *
  have hsz : (((w.alloc (.cells #[.int .i64 nu, .int .i64 nd] 31)).alloc (.cells #[.int .i64 0, .int .i64 0] 31))).heap.size = w.heap.size + 1 + 1 := by simp
  have hb0 : Below w.heap.size w ((w.alloc (.cells #[.int .i64 nu, .int .i64 nd] 31)).alloc (.cells #[.int .i64 0, .int .i64 0] 31)) := ((Below.refl _ _).alloc (Nat.le_refl _) _).alloc (by simp) _
  have x0 := (IsBoxR.new w nu nd).alloc (.cells #[.int .i64 0, .int .i64 0] 31)
  have x1 := IsBoxR.new (w.alloc (.cells #[.int .i64 nu, .int .i64 nd] 31)) 0 0
  simp only [World.size_alloc] at x1
  clear hrec hrb
  go_enter Try.func64, Try.ntmps64
  go_wp2_with fail
  generalize (w.alloc (.cells #[.int .i64 nu, .int .i64 nd] 31)).alloc (.cells #[.int .i64 0, .int .i64 0] 31) = w2 at *
  have HSZ := Lib.hid hsz
  clear hsz
  have c0 := x0.cells.1.1
  have c1 := x0.cells.1.2
  have ci2 := (hb0.cell (p := ⟨b, off + a, none⟩) hbb).trans ci
  have e0 := (hb0.cell (p := ⟨br, fr + tt * 2, none⟩) hbr).trans d0
  have e1 := (hb0.cell (p := ⟨br, fr + tt * 2 + 1, none⟩) hbr).trans d1
  have n1 : w.heap.size ≠ w2.heap.size := by rw [HSZ.out]; omega
  have n2 : b ≠ w2.heap.size := by have := hb0.size; omega
  have n3 : br ≠ w2.heap.size := by have := hb0.size; omega
  have s0 : (w2.cell? ⟨w.heap.size, 0, none⟩ = some (.int .i64 nu) ∧ w2.cell? ⟨w.heap.size, 1, none⟩ = some (.int .i64 nd) ∧ w2.cell? ⟨b, off + a, none⟩ = some (.slice (some ⟨br, fr, none⟩) (rowR g a).length cr) ∧ w2.cell? ⟨br, fr + tt * 2, none⟩ = some (.int .i64 (rUp (rowR g a) tt)) ∧ w2.cell? ⟨br, fr + tt * 2 + 1, none⟩ = some (.int .i64 (rDn (rowR g a) tt)) ∧ Below w2.heap.size w2 w2) := ⟨c0, c1, ci2, e0, e1, Below.refl _ _⟩
  have HP2 : Hid (∀ wx, (wx.cell? ⟨w.heap.size, 0, none⟩ = some (.int .i64 nu) ∧ wx.cell? ⟨w.heap.size, 1, none⟩ = some (.int .i64 nd) ∧ wx.cell? ⟨b, off + a, none⟩ = some (.slice (some ⟨br, fr, none⟩) (rowR g a).length cr) ∧ wx.cell? ⟨br, fr + tt * 2, none⟩ = some (.int .i64 (rUp (rowR g a) tt)) ∧ wx.cell? ⟨br, fr + tt * 2 + 1, none⟩ = some (.int .i64 (rDn (rowR g a) tt)) ∧ Below w2.heap.size w2 wx) → Calls Try.prog 68 #[rv nu nd, rv (rUp (rowR g a) tt) (rDn (rowR g a) tt)] wx fun e w' => e = .returned (rv (rProd (nu, nd) (cellX g a tt)).1 (rProd (nu, nd) (cellX g a tt)).2) ∧ Below wx.heap.size wx w' ∧ (w'.cell? ⟨w.heap.size, 0, none⟩ = some (.int .i64 nu) ∧ w'.cell? ⟨w.heap.size, 1, none⟩ = some (.int .i64 nd) ∧ w'.cell? ⟨b, off + a, none⟩ = some (.slice (some ⟨br, fr, none⟩) (rowR g a).length cr) ∧ w'.cell? ⟨br, fr + tt * 2, none⟩ = some (.int .i64 (rUp (rowR g a) tt)) ∧ w'.cell? ⟨br, fr + tt * 2 + 1, none⟩ = some (.int .i64 (rDn (rowR g a) tt)) ∧ Below w2.heap.size w2 w')) := fun wx hs => (HPR.out tt ht wx).mono fun e w' ⟨h1, d⟩ => ⟨h1, d, ⟨cell_below hs.1 d, cell_below hs.2.1 d, cell_below hs.2.2.1 d, cell_below hs.2.2.2.1 d, cell_below hs.2.2.2.2.1 d, Below.trans hs.2.2.2.2.2 (Below.mono d (Below.size hs.2.2.2.2.2))⟩⟩
  have HPD : Hid (∀ (W : World) (x y : Value) (t : TypeId), (((W.alloc (.cells #[x, y] t)).drew).cell? ⟨w.heap.size, 0, none⟩ = some (.int .i64 nu) ∧ ((W.alloc (.cells #[x, y] t)).drew).cell? ⟨w.heap.size, 1, none⟩ = some (.int .i64 nd) ∧ ((W.alloc (.cells #[x, y] t)).drew).cell? ⟨b, off + a, none⟩ = some (.slice (some ⟨br, fr, none⟩) (rowR g a).length cr) ∧ ((W.alloc (.cells #[x, y] t)).drew).cell? ⟨br, fr + tt * 2, none⟩ = some (.int .i64 (rUp (rowR g a) tt)) ∧ ((W.alloc (.cells #[x, y] t)).drew).cell? ⟨br, fr + tt * 2 + 1, none⟩ = some (.int .i64 (rDn (rowR g a) tt)) ∧ Below w2.heap.size w2 ((W.alloc (.cells #[x, y] t)).drew)) → Calls Try.prog 68 #[rv nu nd, rv (rUp (rowR g a) tt) (rDn (rowR g a) tt)] ((W.alloc (.cells #[x, y] t)).drew) fun e w' => (e = .returned (rv (rProd (nu, nd) (cellX g a tt)).1 (rProd (nu, nd) (cellX g a tt)).2) ∧ Below ((W.alloc (.cells #[x, y] t)).drew).heap.size ((W.alloc (.cells #[x, y] t)).drew) w' ∧ (w'.cell? ⟨w.heap.size, 0, none⟩ = some (.int .i64 nu) ∧ w'.cell? ⟨w.heap.size, 1, none⟩ = some (.int .i64 nd) ∧ w'.cell? ⟨b, off + a, none⟩ = some (.slice (some ⟨br, fr, none⟩) (rowR g a).length cr) ∧ w'.cell? ⟨br, fr + tt * 2, none⟩ = some (.int .i64 (rUp (rowR g a) tt)) ∧ w'.cell? ⟨br, fr + tt * 2 + 1, none⟩ = some (.int .i64 (rDn (rowR g a) tt)) ∧ Below w2.heap.size w2 w')) ∧ (w'.cell? ⟨W.heap.size, 0, none⟩ = some x ∧ w'.cell? ⟨W.heap.size, 1, none⟩ = some y ∧ w'.frozen? ⟨W.heap.size, 0, none⟩ = false ∧ w'.frozen? ⟨W.heap.size, 1, none⟩ = false ∧ w'.heap[W.heap.size]? = some (.cells #[x, y] t (0, 0)))) := fun W x y t hs => (HP2.out _ hs).mono fun e w' h => ⟨h, newbox_afterD h.2.1⟩
  have HPA : Hid (∀ (W : World) (x y : Value) (t : TypeId), ((W.alloc (.cells #[x, y] t)).cell? ⟨w.heap.size, 0, none⟩ = some (.int .i64 nu) ∧ (W.alloc (.cells #[x, y] t)).cell? ⟨w.heap.size, 1, none⟩ = some (.int .i64 nd) ∧ (W.alloc (.cells #[x, y] t)).cell? ⟨b, off + a, none⟩ = some (.slice (some ⟨br, fr, none⟩) (rowR g a).length cr) ∧ (W.alloc (.cells #[x, y] t)).cell? ⟨br, fr + tt * 2, none⟩ = some (.int .i64 (rUp (rowR g a) tt)) ∧ (W.alloc (.cells #[x, y] t)).cell? ⟨br, fr + tt * 2 + 1, none⟩ = some (.int .i64 (rDn (rowR g a) tt)) ∧ Below w2.heap.size w2 (W.alloc (.cells #[x, y] t))) → Calls Try.prog 68 #[rv nu nd, rv (rUp (rowR g a) tt) (rDn (rowR g a) tt)] (W.alloc (.cells #[x, y] t)) fun e w' => (e = .returned (rv (rProd (nu, nd) (cellX g a tt)).1 (rProd (nu, nd) (cellX g a tt)).2) ∧ Below (W.alloc (.cells #[x, y] t)).heap.size (W.alloc (.cells #[x, y] t)) w' ∧ (w'.cell? ⟨w.heap.size, 0, none⟩ = some (.int .i64 nu) ∧ w'.cell? ⟨w.heap.size, 1, none⟩ = some (.int .i64 nd) ∧ w'.cell? ⟨b, off + a, none⟩ = some (.slice (some ⟨br, fr, none⟩) (rowR g a).length cr) ∧ w'.cell? ⟨br, fr + tt * 2, none⟩ = some (.int .i64 (rUp (rowR g a) tt)) ∧ w'.cell? ⟨br, fr + tt * 2 + 1, none⟩ = some (.int .i64 (rDn (rowR g a) tt)) ∧ Below w2.heap.size w2 w')) ∧ (w'.cell? ⟨W.heap.size, 0, none⟩ = some x ∧ w'.cell? ⟨W.heap.size, 1, none⟩ = some y ∧ w'.frozen? ⟨W.heap.size, 0, none⟩ = false ∧ w'.frozen? ⟨W.heap.size, 1, none⟩ = false ∧ w'.heap[W.heap.size]? = some (.cells #[x, y] t (0, 0)))) := fun W x y t hs => (HP2.out _ hs).mono fun e w' h => ⟨h, newbox_after h.2.1⟩
  have HPC : Hid (∀ (wx : World) (c : Nat) (x y : Value) (t : TypeId), (wx.cell? ⟨w.heap.size, 0, none⟩ = some (.int .i64 nu) ∧ wx.cell? ⟨w.heap.size, 1, none⟩ = some (.int .i64 nd) ∧ wx.cell? ⟨b, off + a, none⟩ = some (.slice (some ⟨br, fr, none⟩) (rowR g a).length cr) ∧ wx.cell? ⟨br, fr + tt * 2, none⟩ = some (.int .i64 (rUp (rowR g a) tt)) ∧ wx.cell? ⟨br, fr + tt * 2 + 1, none⟩ = some (.int .i64 (rDn (rowR g a) tt)) ∧ Below w2.heap.size w2 wx) → wx.heap[c]? = some (.cells #[x, y] t (0, 0)) → Calls Try.prog 68 #[rv nu nd, rv (rUp (rowR g a) tt) (rDn (rowR g a) tt)] wx fun e w' => (e = .returned (rv (rProd (nu, nd) (cellX g a tt)).1 (rProd (nu, nd) (cellX g a tt)).2) ∧ Below wx.heap.size wx w' ∧ (w'.cell? ⟨w.heap.size, 0, none⟩ = some (.int .i64 nu) ∧ w'.cell? ⟨w.heap.size, 1, none⟩ = some (.int .i64 nd) ∧ w'.cell? ⟨b, off + a, none⟩ = some (.slice (some ⟨br, fr, none⟩) (rowR g a).length cr) ∧ w'.cell? ⟨br, fr + tt * 2, none⟩ = some (.int .i64 (rUp (rowR g a) tt)) ∧ w'.cell? ⟨br, fr + tt * 2 + 1, none⟩ = some (.int .i64 (rDn (rowR g a) tt)) ∧ Below w2.heap.size w2 w')) ∧ (w'.cell? ⟨c, 0, none⟩ = some x ∧ w'.cell? ⟨c, 1, none⟩ = some y ∧ w'.frozen? ⟨c, 0, none⟩ = false ∧ w'.frozen? ⟨c, 1, none⟩ = false ∧ w'.heap[c]? = some (.cells #[x, y] t (0, 0)))) := fun wx c x y t hs hb => (HP2.out _ hs).mono fun e w' h => ⟨h, oldbox_after hb h.2.1⟩
  go_cut [11] from 14 to 22 (fun p wx => ∃ c, p = .pointer (some ⟨c, 0, none⟩) ∧ w2.heap.size ≤ c ∧ IsBoxR wx c (rProd (nu, nd) (cellX g a tt)).1 (rProd (nu, nd) (cellX g a tt)).2 ∧ Below w2.heap.size w2 wx)
  case first =>
    go_region_held3 (fun w' => w'.cell? ⟨w.heap.size, 0, none⟩ = some (.int .i64 nu) ∧ w'.cell? ⟨w.heap.size, 1, none⟩ = some (.int .i64 nd) ∧ w'.cell? ⟨b, off + a, none⟩ = some (.slice (some ⟨br, fr, none⟩) (rowR g a).length cr) ∧ w'.cell? ⟨br, fr + tt * 2, none⟩ = some (.int .i64 (rUp (rowR g a) tt)) ∧ w'.cell? ⟨br, fr + tt * 2 + 1, none⟩ = some (.int .i64 (rDn (rowR g a) tt)) ∧ Below w2.heap.size w2 w')
      (first | exact s6 | exact ⟨s0.1, s0.2.1, s0.2.2.1, s0.2.2.2.1, s0.2.2.2.2.1, Below.drew s0.2.2.2.2.2⟩ | exact ⟨cell_alloc s0.1, cell_alloc s0.2.1, cell_alloc s0.2.2.1, cell_alloc s0.2.2.2.1, cell_alloc s0.2.2.2.2.1, (Below.alloc s0.2.2.2.2.2 (Below.size s0.2.2.2.2.2) _).drew⟩ | exact ⟨cell_alloc s6.1, cell_alloc s6.2.1, cell_alloc s6.2.2.1, cell_alloc s6.2.2.2.1, cell_alloc s6.2.2.2.2.1, Below.alloc s6.2.2.2.2.2 (Below.size s6.2.2.2.2.2) _⟩ | exact ⟨cell_set2 s6.1 n1, cell_set2 s6.2.1 n1, cell_set2 s6.2.2.1 n2, cell_set2 s6.2.2.2.1 n3, cell_set2 s6.2.2.2.2.1 n3, below_set2 s6.2.2.2.2.2 (Nat.le_refl _)⟩)
      (first
        | ((with_reducible refine (HPD.out _ _ _ _ ?_).mono ?_); exact ⟨cell_alloc s0.1, cell_alloc s0.2.1, cell_alloc s0.2.2.1, cell_alloc s0.2.2.2.1, cell_alloc s0.2.2.2.2.1, (Below.alloc s0.2.2.2.2.2 (Below.size s0.2.2.2.2.2) _).drew⟩; rintro e w6 ⟨⟨rfl, d6, s6⟩, y0, y1, y2, y3, y4⟩)
        | ((with_reducible refine (HP2.out _ ?_).mono ?_); exact ⟨s0.1, s0.2.1, s0.2.2.1, s0.2.2.2.1, s0.2.2.2.2.1, Below.drew s0.2.2.2.2.2⟩; rintro e w6 ⟨rfl, d6, s6⟩))
    · go_wp2_with fail
      go_meet
      exact ⟨w6.heap.size, rfl, s6.2.2.2.2.2.size, IsBoxR.new w6 _ _, s6.2.2.2.2.2.alloc s6.2.2.2.2.2.size _⟩
    · go_wp2_with fail
      go_meet
      exact ⟨w2.heap.size, rfl, Nat.le_refl _, box_set2 y4 _ _, below_set2 s6.2.2.2.2.2 (Nat.le_refl _)⟩
  case rest =>
    obtain ⟨c11, rfl, hc11, bx11, hb11⟩ := hcut
    have hbw := hb0.trans (hb11.mono hb0.size)
    have x0c := x0.below hb11
    have x1c := x1.below hb11
    rw [← HZERO.out] at bx11
    have hnc1 : w.heap.size ≠ c11 := by have := HSZ.out; omega
    have hnc2 : w.heap.size + 1 ≠ c11 := by have := HSZ.out; omega
    have hc11w : w.heap.size + 1 < c11 := by have := HSZ.out; omega
    clear HP2 HPD HPA HPC s0 c0 c1 ci2 e0 e1 n1 n2 n3 x0 x1 hb0 hb11 d0 d1
    go_wp2_with fail
    go_loopg [12] g.length (fun n iv wr => ∃ k : Nat, k + n = g.length ∧ iv = .int .i64 k ∧ IsBoxR wr c11 (bestK (cellX g) tt rec (uM m) a (nu, nd) k).1 (bestK (cellX g) tt rec (uM m) a (nu, nd) k).2 ∧ IsBoxR wr w.heap.size nu nd ∧ IsBoxR wr (w.heap.size + 1) 0 0 ∧ Below w.heap.size w wr)
    case atStart => exact ⟨0, by omega, rfl, bx11, x0c, x1c, hbw⟩
    case round =>
      clear bx11 x0c x1c hbw
      obtain ⟨k, hkn, rfl, bx, x0, x1, hbl⟩ := hrel
      have HKN := Lib.hid hkn
      clear hkn
      cases gk with
      | zero =>
        have hkg : k = g.length := by have := HKN.out; omega
        subst hkg
        have c0 := bx.cells.1.1
        have c1 := bx.cells.1.2
        have f0 := x1.cells.2 0
        have f1 := x1.cells.2 1
        have z0 := x1.cells.1.1
        have z1 := x1.cells.1.2
        have XS := Lib.hid (fun u v => x1.set u v)
        have HBS : Hid (∀ u v : Int, Below w.heap.size w ((wr.setCell ⟨w.heap.size + 1, 0, none⟩ (.int .i64 u)).setCell ⟨w.heap.size + 1, 1, none⟩ (.int .i64 v))) := fun u v => below_set2 hbl (Nat.le_succ _)
        clear bx x0 x1 hbl
        go_wp2
        exact ret_box (c := 10) rfl rfl (XS.out _ _) ⟨rfl, HBS.out _ _⟩
      | succ gn =>
        have hlt : k < g.length := by have := HKN.out; omega
        have k1 : (k : Int) < (g.length : Int) := by omega
        have hk8 : k ≤ 8 := by omega
        have HBI := Lib.hid (fun wx => bit8_spec m k wx hk8 (by omega))
        have HST := Lib.hid (HSTEP.out k)
        rcases bit8_01 m k with hb | hb
        · by_cases hkt : k = tt
          · have hkb : ((k : Int) != (tt : Int)) = false := by simp [hkt]
            have HEQ : Hid (bestK (cellX g) tt rec (uM m) a (nu, nd) (k + 1) = bestK (cellX g) tt rec (uM m) a (nu, nd) k) := by show _ = _; rw [HST.out, if_neg (fun h => h.2 hkt)]
            rw [hb] at HBI
            clear hkt
            go_wp2_with (go_at_call 79; refine (HBI.out _).mono ?_; rintro e w' ⟨rfl, rfl⟩)
            go_roundg gn
            case measure => omega
            case rel => exact ⟨k + 1, by have := HKN.out; omega, by go_num, by rw [HEQ.out]; exact bx, x0, x1, hbl⟩
          · have hkb : ((k : Int) != (tt : Int)) = true := by simp; omega
            have huk : uM m k = false := by unfold uM; rw [hb]; rfl
            have hBk := HBK.out k (by omega)
            have hXb := HRB.out k hlt
            have hpw := pow_le8 hk8
            have hbc : Hid (∀ wx, Below wr.heap.size wr wx → Calls Try.prog 64 #[.slice (some ⟨b, off, none⟩) g.length cap, .int .i64 ((m : Int) + ((2 ^ k : Nat) : Int)), .int .i64 k, .int .i64 tt, rv (rProd (nu, nd) (cellX g a k)).1 (rProd (nu, nd) (cellX g a k)).2] wx fun e w' => e = .returned (rv (rec (setU (uM m) k) k (rProd (nu, nd) (cellX g a k))).1 (rec (setU (uM m) k) k (rProd (nu, nd) (cellX g a k))).2) ∧ Below wx.heap.size wx w') := fun wx hx => HREC.out k hlt hb hkt wx (hbl.trans (hx.mono hbl.size))
            have HPRk := Lib.hid (HPR.out k hlt)
            have HPW := Lib.hid (fun wx => power8_spec k wx hk8)
            have HEQ : Hid (bestK (cellX g) tt rec (uM m) a (nu, nd) (k + 1) = rMax (bestK (cellX g) tt rec (uM m) a (nu, nd) k) (rec (setU (uM m) k) k (rProd (nu, nd) (cellX g a k)))) := by show _ = _; rw [HST.out, if_pos ⟨huk, hkt⟩]
            obtain ⟨dd0, dd1⟩ := HRW.out k hlt
            have c0 := x0.cells.1.1
            have c1 := x0.cells.1.2
            have ci2 := (hbl.cell (p := ⟨b, off + a, none⟩) hbb).trans ci
            have e0 := (hbl.cell (p := ⟨br, fr + k * 2, none⟩) hbr).trans dd0
            have e1 := (hbl.cell (p := ⟨br, fr + k * 2 + 1, none⟩) hbr).trans dd1
            have ik2 : (k : Int) < ((rowR g a).length : Int) := by have := HL.out; omega
            have hx0l := x0.lt
            have l1 : w.heap.size < wr.heap.size := by omega
            have l2 : b < wr.heap.size := by omega
            have l3 : br < wr.heap.size := by omega
            have n1 : w.heap.size ≠ wr.heap.size := by omega
            have n2 : b ≠ wr.heap.size := by omega
            have n3 : br ≠ wr.heap.size := by omega
            have s0 : (wr.cell? ⟨w.heap.size, 0, none⟩ = some (.int .i64 nu) ∧ wr.cell? ⟨w.heap.size, 1, none⟩ = some (.int .i64 nd) ∧ wr.cell? ⟨b, off + a, none⟩ = some (.slice (some ⟨br, fr, none⟩) (rowR g a).length cr) ∧ wr.cell? ⟨br, fr + k * 2, none⟩ = some (.int .i64 (rUp (rowR g a) k)) ∧ wr.cell? ⟨br, fr + k * 2 + 1, none⟩ = some (.int .i64 (rDn (rowR g a) k)) ∧ Below wr.heap.size wr wr) := ⟨c0, c1, ci2, e0, e1, Below.refl _ _⟩
            rw [hb] at HBI
            clear dd0 dd1 HST huk
            generalize rProd (nu, nd) (cellX g a k) = PP at *
            generalize rec (setU (uM m) k) k PP = XX at *
            generalize hBB : bestK (cellX g) tt rec (uM m) a (nu, nd) k = BB at *
            generalize 2 ^ k = q at *
            have hwr : IntKind.i64.wrap ((m : Int) + (q : Int)) = (m : Int) + (q : Int) := IntWalk.i64_in _ (by omega)
            obtain ⟨pu, pd⟩ := PP
            obtain ⟨xu, xd⟩ := XX
            obtain ⟨bu, bd⟩ := BB
            have HBB := Lib.hid hBB
            clear hBB
            simp only at *
            have HP2 : Hid (∀ wx, (wx.cell? ⟨w.heap.size, 0, none⟩ = some (.int .i64 nu) ∧ wx.cell? ⟨w.heap.size, 1, none⟩ = some (.int .i64 nd) ∧ wx.cell? ⟨b, off + a, none⟩ = some (.slice (some ⟨br, fr, none⟩) (rowR g a).length cr) ∧ wx.cell? ⟨br, fr + k * 2, none⟩ = some (.int .i64 (rUp (rowR g a) k)) ∧ wx.cell? ⟨br, fr + k * 2 + 1, none⟩ = some (.int .i64 (rDn (rowR g a) k)) ∧ Below wr.heap.size wr wx) → Calls Try.prog 68 #[rv nu nd, rv (rUp (rowR g a) k) (rDn (rowR g a) k)] wx fun e w' => e = .returned (rv pu pd) ∧ Below wx.heap.size wx w' ∧ (w'.cell? ⟨w.heap.size, 0, none⟩ = some (.int .i64 nu) ∧ w'.cell? ⟨w.heap.size, 1, none⟩ = some (.int .i64 nd) ∧ w'.cell? ⟨b, off + a, none⟩ = some (.slice (some ⟨br, fr, none⟩) (rowR g a).length cr) ∧ w'.cell? ⟨br, fr + k * 2, none⟩ = some (.int .i64 (rUp (rowR g a) k)) ∧ w'.cell? ⟨br, fr + k * 2 + 1, none⟩ = some (.int .i64 (rDn (rowR g a) k)) ∧ Below wr.heap.size wr w')) := fun wx hs => (HPRk.out wx).mono fun e w' ⟨h1, d⟩ => ⟨h1, d, ⟨cell_below hs.1 d, cell_below hs.2.1 d, cell_below hs.2.2.1 d, cell_below hs.2.2.2.1 d, cell_below hs.2.2.2.2.1 d, Below.trans hs.2.2.2.2.2 (Below.mono d (Below.size hs.2.2.2.2.2))⟩⟩
            have HPD : Hid (∀ (W : World) (x y : Value) (t : TypeId), (((W.alloc (.cells #[x, y] t)).drew).cell? ⟨w.heap.size, 0, none⟩ = some (.int .i64 nu) ∧ ((W.alloc (.cells #[x, y] t)).drew).cell? ⟨w.heap.size, 1, none⟩ = some (.int .i64 nd) ∧ ((W.alloc (.cells #[x, y] t)).drew).cell? ⟨b, off + a, none⟩ = some (.slice (some ⟨br, fr, none⟩) (rowR g a).length cr) ∧ ((W.alloc (.cells #[x, y] t)).drew).cell? ⟨br, fr + k * 2, none⟩ = some (.int .i64 (rUp (rowR g a) k)) ∧ ((W.alloc (.cells #[x, y] t)).drew).cell? ⟨br, fr + k * 2 + 1, none⟩ = some (.int .i64 (rDn (rowR g a) k)) ∧ Below wr.heap.size wr ((W.alloc (.cells #[x, y] t)).drew)) → Calls Try.prog 68 #[rv nu nd, rv (rUp (rowR g a) k) (rDn (rowR g a) k)] ((W.alloc (.cells #[x, y] t)).drew) fun e w' => (e = .returned (rv pu pd) ∧ Below ((W.alloc (.cells #[x, y] t)).drew).heap.size ((W.alloc (.cells #[x, y] t)).drew) w' ∧ (w'.cell? ⟨w.heap.size, 0, none⟩ = some (.int .i64 nu) ∧ w'.cell? ⟨w.heap.size, 1, none⟩ = some (.int .i64 nd) ∧ w'.cell? ⟨b, off + a, none⟩ = some (.slice (some ⟨br, fr, none⟩) (rowR g a).length cr) ∧ w'.cell? ⟨br, fr + k * 2, none⟩ = some (.int .i64 (rUp (rowR g a) k)) ∧ w'.cell? ⟨br, fr + k * 2 + 1, none⟩ = some (.int .i64 (rDn (rowR g a) k)) ∧ Below wr.heap.size wr w')) ∧ (w'.cell? ⟨W.heap.size, 0, none⟩ = some x ∧ w'.cell? ⟨W.heap.size, 1, none⟩ = some y ∧ w'.frozen? ⟨W.heap.size, 0, none⟩ = false ∧ w'.frozen? ⟨W.heap.size, 1, none⟩ = false ∧ w'.heap[W.heap.size]? = some (.cells #[x, y] t (0, 0)))) := fun W x y t hs => (HP2.out _ hs).mono fun e w' h => ⟨h, newbox_afterD h.2.1⟩
            have HPA : Hid (∀ (W : World) (x y : Value) (t : TypeId), ((W.alloc (.cells #[x, y] t)).cell? ⟨w.heap.size, 0, none⟩ = some (.int .i64 nu) ∧ (W.alloc (.cells #[x, y] t)).cell? ⟨w.heap.size, 1, none⟩ = some (.int .i64 nd) ∧ (W.alloc (.cells #[x, y] t)).cell? ⟨b, off + a, none⟩ = some (.slice (some ⟨br, fr, none⟩) (rowR g a).length cr) ∧ (W.alloc (.cells #[x, y] t)).cell? ⟨br, fr + k * 2, none⟩ = some (.int .i64 (rUp (rowR g a) k)) ∧ (W.alloc (.cells #[x, y] t)).cell? ⟨br, fr + k * 2 + 1, none⟩ = some (.int .i64 (rDn (rowR g a) k)) ∧ Below wr.heap.size wr (W.alloc (.cells #[x, y] t))) → Calls Try.prog 68 #[rv nu nd, rv (rUp (rowR g a) k) (rDn (rowR g a) k)] (W.alloc (.cells #[x, y] t)) fun e w' => (e = .returned (rv pu pd) ∧ Below (W.alloc (.cells #[x, y] t)).heap.size (W.alloc (.cells #[x, y] t)) w' ∧ (w'.cell? ⟨w.heap.size, 0, none⟩ = some (.int .i64 nu) ∧ w'.cell? ⟨w.heap.size, 1, none⟩ = some (.int .i64 nd) ∧ w'.cell? ⟨b, off + a, none⟩ = some (.slice (some ⟨br, fr, none⟩) (rowR g a).length cr) ∧ w'.cell? ⟨br, fr + k * 2, none⟩ = some (.int .i64 (rUp (rowR g a) k)) ∧ w'.cell? ⟨br, fr + k * 2 + 1, none⟩ = some (.int .i64 (rDn (rowR g a) k)) ∧ Below wr.heap.size wr w')) ∧ (w'.cell? ⟨W.heap.size, 0, none⟩ = some x ∧ w'.cell? ⟨W.heap.size, 1, none⟩ = some y ∧ w'.frozen? ⟨W.heap.size, 0, none⟩ = false ∧ w'.frozen? ⟨W.heap.size, 1, none⟩ = false ∧ w'.heap[W.heap.size]? = some (.cells #[x, y] t (0, 0)))) := fun W x y t hs => (HP2.out _ hs).mono fun e w' h => ⟨h, newbox_after h.2.1⟩
            have HPC : Hid (∀ (wx : World) (c : Nat) (x y : Value) (t : TypeId), (wx.cell? ⟨w.heap.size, 0, none⟩ = some (.int .i64 nu) ∧ wx.cell? ⟨w.heap.size, 1, none⟩ = some (.int .i64 nd) ∧ wx.cell? ⟨b, off + a, none⟩ = some (.slice (some ⟨br, fr, none⟩) (rowR g a).length cr) ∧ wx.cell? ⟨br, fr + k * 2, none⟩ = some (.int .i64 (rUp (rowR g a) k)) ∧ wx.cell? ⟨br, fr + k * 2 + 1, none⟩ = some (.int .i64 (rDn (rowR g a) k)) ∧ Below wr.heap.size wr wx) → wx.heap[c]? = some (.cells #[x, y] t (0, 0)) → Calls Try.prog 68 #[rv nu nd, rv (rUp (rowR g a) k) (rDn (rowR g a) k)] wx fun e w' => (e = .returned (rv pu pd) ∧ Below wx.heap.size wx w' ∧ (w'.cell? ⟨w.heap.size, 0, none⟩ = some (.int .i64 nu) ∧ w'.cell? ⟨w.heap.size, 1, none⟩ = some (.int .i64 nd) ∧ w'.cell? ⟨b, off + a, none⟩ = some (.slice (some ⟨br, fr, none⟩) (rowR g a).length cr) ∧ w'.cell? ⟨br, fr + k * 2, none⟩ = some (.int .i64 (rUp (rowR g a) k)) ∧ w'.cell? ⟨br, fr + k * 2 + 1, none⟩ = some (.int .i64 (rDn (rowR g a) k)) ∧ Below wr.heap.size wr w')) ∧ (w'.cell? ⟨c, 0, none⟩ = some x ∧ w'.cell? ⟨c, 1, none⟩ = some y ∧ w'.frozen? ⟨c, 0, none⟩ = false ∧ w'.frozen? ⟨c, 1, none⟩ = false ∧ w'.heap[c]? = some (.cells #[x, y] t (0, 0)))) := fun wx c x y t hs hb => (HP2.out _ hs).mono fun e w' h => ⟨h, oldbox_after hb h.2.1⟩
            have HB2 : Hid (∀ wx, (wx.cell? ⟨w.heap.size, 0, none⟩ = some (.int .i64 nu) ∧ wx.cell? ⟨w.heap.size, 1, none⟩ = some (.int .i64 nd) ∧ wx.cell? ⟨b, off + a, none⟩ = some (.slice (some ⟨br, fr, none⟩) (rowR g a).length cr) ∧ wx.cell? ⟨br, fr + k * 2, none⟩ = some (.int .i64 (rUp (rowR g a) k)) ∧ wx.cell? ⟨br, fr + k * 2 + 1, none⟩ = some (.int .i64 (rDn (rowR g a) k)) ∧ Below wr.heap.size wr wx) → Calls Try.prog 64 #[.slice (some ⟨b, off, none⟩) g.length cap, .int .i64 ((m : Int) + (q : Int)), .int .i64 k, .int .i64 tt, rv pu pd] wx fun e w' => e = .returned (rv xu xd) ∧ Below wx.heap.size wx w' ∧ (w'.cell? ⟨w.heap.size, 0, none⟩ = some (.int .i64 nu) ∧ w'.cell? ⟨w.heap.size, 1, none⟩ = some (.int .i64 nd) ∧ w'.cell? ⟨b, off + a, none⟩ = some (.slice (some ⟨br, fr, none⟩) (rowR g a).length cr) ∧ w'.cell? ⟨br, fr + k * 2, none⟩ = some (.int .i64 (rUp (rowR g a) k)) ∧ w'.cell? ⟨br, fr + k * 2 + 1, none⟩ = some (.int .i64 (rDn (rowR g a) k)) ∧ Below wr.heap.size wr w')) := fun wx hs => (hbc.out wx (hs.2.2.2.2.2)).mono fun e w' ⟨h1, d⟩ => ⟨h1, d, ⟨cell_below hs.1 d, cell_below hs.2.1 d, cell_below hs.2.2.1 d, cell_below hs.2.2.2.1 d, cell_below hs.2.2.2.2.1 d, Below.trans hs.2.2.2.2.2 (Below.mono d (Below.size hs.2.2.2.2.2))⟩⟩
            have HBD : Hid (∀ (W : World) (x y : Value) (t : TypeId), (((W.alloc (.cells #[x, y] t)).drew).cell? ⟨w.heap.size, 0, none⟩ = some (.int .i64 nu) ∧ ((W.alloc (.cells #[x, y] t)).drew).cell? ⟨w.heap.size, 1, none⟩ = some (.int .i64 nd) ∧ ((W.alloc (.cells #[x, y] t)).drew).cell? ⟨b, off + a, none⟩ = some (.slice (some ⟨br, fr, none⟩) (rowR g a).length cr) ∧ ((W.alloc (.cells #[x, y] t)).drew).cell? ⟨br, fr + k * 2, none⟩ = some (.int .i64 (rUp (rowR g a) k)) ∧ ((W.alloc (.cells #[x, y] t)).drew).cell? ⟨br, fr + k * 2 + 1, none⟩ = some (.int .i64 (rDn (rowR g a) k)) ∧ Below wr.heap.size wr ((W.alloc (.cells #[x, y] t)).drew)) → Calls Try.prog 64 #[.slice (some ⟨b, off, none⟩) g.length cap, .int .i64 ((m : Int) + (q : Int)), .int .i64 k, .int .i64 tt, rv pu pd] ((W.alloc (.cells #[x, y] t)).drew) fun e w' => (e = .returned (rv xu xd) ∧ Below ((W.alloc (.cells #[x, y] t)).drew).heap.size ((W.alloc (.cells #[x, y] t)).drew) w' ∧ (w'.cell? ⟨w.heap.size, 0, none⟩ = some (.int .i64 nu) ∧ w'.cell? ⟨w.heap.size, 1, none⟩ = some (.int .i64 nd) ∧ w'.cell? ⟨b, off + a, none⟩ = some (.slice (some ⟨br, fr, none⟩) (rowR g a).length cr) ∧ w'.cell? ⟨br, fr + k * 2, none⟩ = some (.int .i64 (rUp (rowR g a) k)) ∧ w'.cell? ⟨br, fr + k * 2 + 1, none⟩ = some (.int .i64 (rDn (rowR g a) k)) ∧ Below wr.heap.size wr w')) ∧ (w'.cell? ⟨W.heap.size, 0, none⟩ = some x ∧ w'.cell? ⟨W.heap.size, 1, none⟩ = some y ∧ w'.frozen? ⟨W.heap.size, 0, none⟩ = false ∧ w'.frozen? ⟨W.heap.size, 1, none⟩ = false ∧ w'.heap[W.heap.size]? = some (.cells #[x, y] t (0, 0)))) := fun W x y t hs => (HB2.out _ hs).mono fun e w' h => ⟨h, newbox_afterD h.2.1⟩
            have HBA : Hid (∀ (W : World) (x y : Value) (t : TypeId), ((W.alloc (.cells #[x, y] t)).cell? ⟨w.heap.size, 0, none⟩ = some (.int .i64 nu) ∧ (W.alloc (.cells #[x, y] t)).cell? ⟨w.heap.size, 1, none⟩ = some (.int .i64 nd) ∧ (W.alloc (.cells #[x, y] t)).cell? ⟨b, off + a, none⟩ = some (.slice (some ⟨br, fr, none⟩) (rowR g a).length cr) ∧ (W.alloc (.cells #[x, y] t)).cell? ⟨br, fr + k * 2, none⟩ = some (.int .i64 (rUp (rowR g a) k)) ∧ (W.alloc (.cells #[x, y] t)).cell? ⟨br, fr + k * 2 + 1, none⟩ = some (.int .i64 (rDn (rowR g a) k)) ∧ Below wr.heap.size wr (W.alloc (.cells #[x, y] t))) → Calls Try.prog 64 #[.slice (some ⟨b, off, none⟩) g.length cap, .int .i64 ((m : Int) + (q : Int)), .int .i64 k, .int .i64 tt, rv pu pd] (W.alloc (.cells #[x, y] t)) fun e w' => (e = .returned (rv xu xd) ∧ Below (W.alloc (.cells #[x, y] t)).heap.size (W.alloc (.cells #[x, y] t)) w' ∧ (w'.cell? ⟨w.heap.size, 0, none⟩ = some (.int .i64 nu) ∧ w'.cell? ⟨w.heap.size, 1, none⟩ = some (.int .i64 nd) ∧ w'.cell? ⟨b, off + a, none⟩ = some (.slice (some ⟨br, fr, none⟩) (rowR g a).length cr) ∧ w'.cell? ⟨br, fr + k * 2, none⟩ = some (.int .i64 (rUp (rowR g a) k)) ∧ w'.cell? ⟨br, fr + k * 2 + 1, none⟩ = some (.int .i64 (rDn (rowR g a) k)) ∧ Below wr.heap.size wr w')) ∧ (w'.cell? ⟨W.heap.size, 0, none⟩ = some x ∧ w'.cell? ⟨W.heap.size, 1, none⟩ = some y ∧ w'.frozen? ⟨W.heap.size, 0, none⟩ = false ∧ w'.frozen? ⟨W.heap.size, 1, none⟩ = false ∧ w'.heap[W.heap.size]? = some (.cells #[x, y] t (0, 0)))) := fun W x y t hs => (HB2.out _ hs).mono fun e w' h => ⟨h, newbox_after h.2.1⟩
            have HBC : Hid (∀ (wx : World) (c : Nat) (x y : Value) (t : TypeId), (wx.cell? ⟨w.heap.size, 0, none⟩ = some (.int .i64 nu) ∧ wx.cell? ⟨w.heap.size, 1, none⟩ = some (.int .i64 nd) ∧ wx.cell? ⟨b, off + a, none⟩ = some (.slice (some ⟨br, fr, none⟩) (rowR g a).length cr) ∧ wx.cell? ⟨br, fr + k * 2, none⟩ = some (.int .i64 (rUp (rowR g a) k)) ∧ wx.cell? ⟨br, fr + k * 2 + 1, none⟩ = some (.int .i64 (rDn (rowR g a) k)) ∧ Below wr.heap.size wr wx) → wx.heap[c]? = some (.cells #[x, y] t (0, 0)) → Calls Try.prog 64 #[.slice (some ⟨b, off, none⟩) g.length cap, .int .i64 ((m : Int) + (q : Int)), .int .i64 k, .int .i64 tt, rv pu pd] wx fun e w' => (e = .returned (rv xu xd) ∧ Below wx.heap.size wx w' ∧ (w'.cell? ⟨w.heap.size, 0, none⟩ = some (.int .i64 nu) ∧ w'.cell? ⟨w.heap.size, 1, none⟩ = some (.int .i64 nd) ∧ w'.cell? ⟨b, off + a, none⟩ = some (.slice (some ⟨br, fr, none⟩) (rowR g a).length cr) ∧ w'.cell? ⟨br, fr + k * 2, none⟩ = some (.int .i64 (rUp (rowR g a) k)) ∧ w'.cell? ⟨br, fr + k * 2 + 1, none⟩ = some (.int .i64 (rDn (rowR g a) k)) ∧ Below wr.heap.size wr w')) ∧ (w'.cell? ⟨c, 0, none⟩ = some x ∧ w'.cell? ⟨c, 1, none⟩ = some y ∧ w'.frozen? ⟨c, 0, none⟩ = false ∧ w'.frozen? ⟨c, 1, none⟩ = false ∧ w'.heap[c]? = some (.cells #[x, y] t (0, 0)))) := fun wx c x y t hs hb => (HB2.out _ hs).mono fun e w' h => ⟨h, oldbox_after hb h.2.1⟩
            go_wp2_with (go_at_call 79; refine (HBI.out _).mono ?_; rintro e w' ⟨rfl, rfl⟩)
            go_cut [13] from 23 to 58 (fun p wx => ∃ c, p = .pointer (some ⟨c, 0, none⟩) ∧ wr.heap.size ≤ c ∧ IsBoxR wx c xu xd ∧ Below wr.heap.size wr wx)
            case first =>
              go_region_held3 (fun w' => w'.cell? ⟨w.heap.size, 0, none⟩ = some (.int .i64 nu) ∧ w'.cell? ⟨w.heap.size, 1, none⟩ = some (.int .i64 nd) ∧ w'.cell? ⟨b, off + a, none⟩ = some (.slice (some ⟨br, fr, none⟩) (rowR g a).length cr) ∧ w'.cell? ⟨br, fr + k * 2, none⟩ = some (.int .i64 (rUp (rowR g a) k)) ∧ w'.cell? ⟨br, fr + k * 2 + 1, none⟩ = some (.int .i64 (rDn (rowR g a) k)) ∧ Below wr.heap.size wr w')
                (first | exact s7 | exact s6 | exact ⟨s0.1, s0.2.1, s0.2.2.1, s0.2.2.2.1, s0.2.2.2.2.1, Below.drew s0.2.2.2.2.2⟩ | exact ⟨cell_alloc s0.1, cell_alloc s0.2.1, cell_alloc s0.2.2.1, cell_alloc s0.2.2.2.1, cell_alloc s0.2.2.2.2.1, (Below.alloc s0.2.2.2.2.2 (Below.size s0.2.2.2.2.2) _).drew⟩ | exact ⟨cell_alloc s6.1, cell_alloc s6.2.1, cell_alloc s6.2.2.1, cell_alloc s6.2.2.2.1, cell_alloc s6.2.2.2.2.1, Below.alloc s6.2.2.2.2.2 (Below.size s6.2.2.2.2.2) _⟩ | exact ⟨cell_alloc s7.1, cell_alloc s7.2.1, cell_alloc s7.2.2.1, cell_alloc s7.2.2.2.1, cell_alloc s7.2.2.2.2.1, Below.alloc s7.2.2.2.2.2 (Below.size s7.2.2.2.2.2) _⟩ | exact ⟨cell_set2 s7.1 n1, cell_set2 s7.2.1 n1, cell_set2 s7.2.2.1 n2, cell_set2 s7.2.2.2.1 n3, cell_set2 s7.2.2.2.2.1 n3, below_set2 s7.2.2.2.2.2 (Nat.le_refl _)⟩ | exact ⟨cell_set2 s7.1 (Nat.ne_of_lt (Nat.lt_of_lt_of_le l1 s6.2.2.2.2.2.size)), cell_set2 s7.2.1 (Nat.ne_of_lt (Nat.lt_of_lt_of_le l1 s6.2.2.2.2.2.size)), cell_set2 s7.2.2.1 (Nat.ne_of_lt (Nat.lt_of_lt_of_le l2 s6.2.2.2.2.2.size)), cell_set2 s7.2.2.2.1 (Nat.ne_of_lt (Nat.lt_of_lt_of_le l3 s6.2.2.2.2.2.size)), cell_set2 s7.2.2.2.2.1 (Nat.ne_of_lt (Nat.lt_of_lt_of_le l3 s6.2.2.2.2.2.size)), below_set2 s7.2.2.2.2.2 s6.2.2.2.2.2.size⟩)
                (first
                  | ((with_reducible refine (HPW.out _).mono ?_); rintro e w' ⟨rfl, rfl⟩)
                  | ((with_reducible refine (HPD.out _ _ _ _ ?_).mono ?_); exact ⟨cell_alloc s0.1, cell_alloc s0.2.1, cell_alloc s0.2.2.1, cell_alloc s0.2.2.2.1, cell_alloc s0.2.2.2.2.1, (Below.alloc s0.2.2.2.2.2 (Below.size s0.2.2.2.2.2) _).drew⟩; rintro e w6 ⟨⟨rfl, d6, s6⟩, y0, y1, y2, y3, y4⟩)
                  | ((with_reducible refine (HP2.out _ ?_).mono ?_); exact ⟨s0.1, s0.2.1, s0.2.2.1, s0.2.2.2.1, s0.2.2.2.2.1, Below.drew s0.2.2.2.2.2⟩; rintro e w6 ⟨rfl, d6, s6⟩)
                  | ((with_reducible refine (HBA.out _ _ _ _ ?_).mono ?_); exact ⟨cell_alloc s6.1, cell_alloc s6.2.1, cell_alloc s6.2.2.1, cell_alloc s6.2.2.2.1, cell_alloc s6.2.2.2.2.1, Below.alloc s6.2.2.2.2.2 (Below.size s6.2.2.2.2.2) _⟩; rintro e w7 ⟨⟨rfl, d7, s7⟩, z0, z1, z2, z3, z4⟩)
                  | ((with_reducible refine (HBC.out _ _ _ _ _ ?_ y4).mono ?_); exact s6; rintro e w7 ⟨⟨rfl, d7, s7⟩, z0, z1, z2, z3, z4⟩)
                  | ((with_reducible refine (HB2.out _ ?_).mono ?_); exact s6; rintro e w7 ⟨rfl, d7, s7⟩))
              all_goals (go_wp2_with fail; go_meet; first | exact ⟨w7.heap.size, rfl, s7.2.2.2.2.2.size, IsBoxR.new w7 _ _, s7.2.2.2.2.2.alloc s7.2.2.2.2.2.size _⟩ | exact ⟨w6.heap.size, rfl, s6.2.2.2.2.2.size, box_set2 z4 _ _, below_set2 s7.2.2.2.2.2 s6.2.2.2.2.2.size⟩ | exact ⟨wr.heap.size, rfl, Nat.le_refl _, box_set2 z4 _ _, below_set2 s7.2.2.2.2.2 (Nat.le_refl _)⟩)
            case rest =>
              obtain ⟨c, rfl, hcr, bxc, hb13⟩ := hcut
              have bx2 := bx.below hb13
              have x02 := x0.below hb13
              have x12 := x1.below hb13
              have hbl2 := hbl.trans (hb13.mono hbl.size)
              have hcl := bxc.lt
              have hcne : c11 ≠ c := by have := bx.lt; omega
              have HLS := Lib.hid (fun wx => less_spec (bu, bd) (xu, xd) wx (hBk.mono (by decide)) (hXb.mono (by decide)))
              have g0 := bx2.cells.1.1
              have g1 := bx2.cells.1.2
              have j0 := bxc.cells.1.1
              have j1 := bxc.cells.1.2
              clear HP2 HPD HPA HPC HB2 HBD HBA HBC s0 c0 c1 ci2 e0 e1 bx x0 x1 hbl hb13 hbc HPRk HPW n1 n2 n3 l1 l2 l3
              go_wp2_with fail
              refine (HLS.out _).mono ?_
              rintro e w8 ⟨rfl, d8⟩
              have bx3 := bx2.below d8
              have bc3 := bxc.below d8
              have x03 := x02.below d8
              have x13 := x12.below d8
              have hbl3 := hbl2.trans (d8.mono hbl2.size)
              have j0 := bc3.cells.1.1
              have j1 := bc3.cells.1.2
              have f0 := bx3.cells.2 0
              have f1 := bx3.cells.2 1
              have g0 := bx3.cells.1.1
              have g1 := bx3.cells.1.2
              clear bx2 bxc x02 x12 hbl2 d8
              by_cases hls : bu * xd < xu * bd
              · have HR : Hid (bestK (cellX g) tt rec (uM m) a (nu, nd) (k + 1) = (xu, xd)) := by show _ = _; rw [HEQ.out]; unfold rMax; rw [if_pos hls]
                have hlsb : decide (bu * xd < xu * bd) = true := decide_eq_true hls
                have XS := Lib.hid (bx3.set xu xd)
                have X0 := Lib.hid ((x03.other hnc1 0 (.int .i64 xu)).other hnc1 1 (.int .i64 xd))
                have X1 := Lib.hid ((x13.other hnc2 0 (.int .i64 xu)).other hnc2 1 (.int .i64 xd))
                have HBS := Lib.hid (below_set2 (u := .int .i64 xu) (v := .int .i64 xd) hbl3 (show w.heap.size ≤ c11 by omega))
                clear bx3 bc3 x03 x13 hbl3
                go_wp2
                go_roundg gn
                case measure => omega
                case rel => exact ⟨k + 1, by have := HKN.out; omega, by go_num, by rw [HR.out]; exact XS.out, X0.out, X1.out, HBS.out⟩
              · have HR : Hid (bestK (cellX g) tt rec (uM m) a (nu, nd) (k + 1) = (bu, bd)) := by show _ = _; rw [HEQ.out]; unfold rMax; rw [if_neg hls]
                have hlsb : decide (bu * xd < xu * bd) = false := decide_eq_false hls
                go_wp2
                go_roundg gn
                case measure => omega
                case rel => exact ⟨k + 1, by have := HKN.out; omega, by go_num, by rw [HR.out]; exact bx3, x03, x13, hbl3⟩
        · have HEQ : Hid (bestK (cellX g) tt rec (uM m) a (nu, nd) (k + 1) = bestK (cellX g) tt rec (uM m) a (nu, nd) k) := by
            show _ = _
            rw [HST.out, if_neg (fun h => by
              have h1 := h.1
              unfold uM at h1
              rw [hb] at h1
              cases h1)]
          rw [hb] at HBI
          go_wp2_with (go_at_call 79; refine (HBI.out _).mono ?_; rintro e w' ⟨rfl, rfl⟩)
          go_roundg gn
          case measure => omega
          case rel => exact ⟨k + 1, by have := HKN.out; omega, by go_num, by rw [HEQ.out]; exact bx, x0, x1, hbl⟩

end

end Go.Proofs.Ytiffjeclpgcabaa
