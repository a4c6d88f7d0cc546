/- The nearest table, in the program. -/
import Derived.Test.YtlibfmbbchhjeaaTable
import Derived.Deep.RegionWith
namespace Go.Proofs.Ytlibfmbbchhjeaa
open Go.RowKit

/-- The first p numbers are replaced by the nearest ones. -/
def nearTo (T E : Nat → Int) (u : Int) (p : Nat) : Nat → Int := fun k => if k < p then nearI (T k) (E k) u else T k

theorem nearTo_zero (T E : Nat → Int) (u : Int) : nearTo T E u 0 = T := by funext k; simp [nearTo]
theorem nearTo_end (T E : Nat → Int) (u : Int) : ∀ k, k < 16 → nearTo T E u 16 k = nearI (T k) (E k) u := by intro k hk; simp [nearTo, hk]
theorem nearTo_at (T E : Nat → Int) (u : Int) (p : Nat) : nearTo T E u p p = T p := by simp [nearTo]
theorem nearTo_step (T E : Nat → Int) (u : Int) (p j : Nat) : (if j = p then nearI (T p) (E p) u else nearTo T E u p j) = nearTo T E u (p + 1) j := by
  unfold nearTo
  by_cases h : j = p
  · subst h; rw [if_pos rfl, if_pos (by omega)]
  · rw [if_neg h]
    by_cases h2 : j < p
    · rw [if_pos h2, if_pos (by omega)]
    · rw [if_neg h2, if_neg (by omega)]

theorem IsTab.heap {w w' : World} {b : Nat} {T : Nat → Int} (h : IsTab w b T) (e : w'.heap = w.heap) : IsTab w' b T := by
  unfold IsTab at *
  rw [e]
  exact h
theorem grown_of {w x y : World} {row : Option Nat} (h : w.grownBy x row) (e : y.heap = x.heap) (eo : y.os = x.os) (et : y.tape = x.tape) (eu : y.output = x.output) : w.grownBy y row :=
  ⟨eo.trans h.os, et.trans h.tape, eu.trans h.output, by rw [e]; exact h.size, fun k hk hne => by rw [e]; exact h.block k hk hne⟩

set_option maxRecDepth 100000 in
set_option maxHeartbeats 3200000 in
theorem nearestTable_impl (T E : Nat → Int) (u : Int) (w : World) (hE : ∀ k, k < 16 → 0 ≤ E k ∧ E k ≤ 1000000) (hu : 1 ≤ u ∧ u ≤ 12) :
    Calls Try.prog 73 #[.agg (tabArr T), .agg (tabArr E), .int .i64 u] w fun e w' => e = .returned (.agg (tabArr fun k => nearI (T k) (E k) u)) ∧ Below w.heap.size w w' := by
  have hb0 : Below w.heap.size w (((w.alloc (.cells (tabArr T) 65)).alloc (.cells (tabArr E) 65)).alloc (.cells zeroTab 65)) :=
    (((Below.refl _ _).alloc (Nat.le_refl _) _).alloc (by simp) _).alloc (by simp; omega) _
  have hT0 : IsTab (((w.alloc (.cells (tabArr T) 65)).alloc (.cells (tabArr E) 65)).alloc (.cells zeroTab 65)) w.heap.size T :=
    (Below.heap_alloc _ _ _ (by simp; omega)).trans ((Below.heap_alloc _ _ _ (by simp)).trans (heap_alloc_new _ _))
  have hE0 : IsTab (((w.alloc (.cells (tabArr T) 65)).alloc (.cells (tabArr E) 65)).alloc (.cells zeroTab 65)) (w.heap.size + 1) E :=
    (Below.heap_alloc _ _ _ (by simp)).trans (heap_alloc2_new _ _ _)
  have hR0 : IsTab (((w.alloc (.cells (tabArr T) 65)).alloc (.cells (tabArr E) 65)).alloc (.cells zeroTab 65)) (w.heap.size + 1 + 1) (fun _ => 0) :=
    isTab_zero (by have := heap_alloc2_new (w.alloc (.cells (tabArr T) 65)) (.cells (tabArr E) 65) (.cells zeroTab 65); rw [show (w.alloc (.cells (tabArr T) 65)).heap.size = w.heap.size + 1 by simp] at this; exact this)
  go_enter Try.func73, Try.ntmps73
  go_wp2
  go_loopw [9] (fun s wr => ∃ i : Nat, i ≤ 4 ∧ s = .int .i64 i ∧ IsTab wr w.heap.size (nearTo T E u (i * 4)) ∧ IsTab wr (w.heap.size + 1) E ∧ IsTab wr (w.heap.size + 1 + 1) (fun _ => 0) ∧ Below w.heap.size w wr) (fun s _ => 4 - (intOf s).toNat)
  case atStart => exact ⟨0, by omega, rfl, by rw [Nat.zero_mul, nearTo_zero]; exact hT0, hE0, hR0, hb0⟩
  case round =>
    clear hT0 hE0 hR0 hb0
    obtain ⟨i, hi, rfl, hT, hE1, hR, hbl⟩ := hrel
    by_cases hlt : i < 4
    · have i1 : (i : Int) < 4 := by omega
      go_wp2
      go_loopw [12] (fun s wr => ∃ j : Nat, j ≤ 4 ∧ s = .int .i64 j ∧ IsTab wr w.heap.size (nearTo T E u (i * 4 + j)) ∧ IsTab wr (w.heap.size + 1) E ∧ IsTab wr (w.heap.size + 1 + 1) (fun _ => 0) ∧ Below w.heap.size w wr) (fun s _ => 4 - (intOf s).toNat)
      case atStart => exact ⟨0, by omega, rfl, hT, hE1, hR, hbl⟩
      case round =>
        clear hT hE1 hR hbl
        obtain ⟨j, hj, rfl, hT, hE1, hR, hbl⟩ := hrel
        by_cases hlj : j < 4
        · have j1 : (j : Int) < 4 := by omega
          have hp : i * 4 + j < 16 := by omega
          have a0 := hT.cell (i * 4 + j) hp
          rw [nearTo_at] at a0
          have f0 := hT.frozen (i * 4 + j)
          have a1 := hE1.cell (i * 4 + j) hp
          have he := hE (i * 4 + j) hp
          have st := hT.set (i * 4 + j) (nearI (T (i * 4 + j)) (E (i * 4 + j)) u)
          have S1 := Lib.hid st.1
          have G1 := Lib.hid st.2
          clear st hE
          go_wp2
          go_region_with (go_at_call 62; refine (nearest_any _ _ _ _ (by omega) (by omega)).mono ?_; rintro e w' ⟨rfl, nd, rfl⟩)
          all_goals
            go_wp2
            go_roundw
            case rel =>
              refine ⟨j + 1, by omega, by go_num, ?_, ?_, ?_, ?_⟩
              · exact IsTab.heap (IsTab.congr S1.out (fun q _ => nearTo_step T E u (i * 4 + j) q)) rfl
              · exact hE1.kept (grown_of G1.out rfl rfl rfl rfl) (by simp)
              · exact hR.kept (grown_of G1.out rfl rfl rfl rfl) (by simp; omega)
              · exact hbl.trans (below_grown (grown_of G1.out rfl rfl rfl rfl) hbl.size (fun q hq => by cases hq; exact Nat.le_refl _))
            case measure => simp [intOf]; omega
        · have hj4 : j = 4 := by omega
          subst hj4
          go_wp2
          go_roundw
          case rel => exact ⟨i + 1, by omega, by go_num, by rw [show (i + 1) * 4 = i * 4 + 4 by omega]; exact hT, hE1, hR, hbl⟩
          case measure => simp [intOf]; omega
    · have hi4 : i = 4 := by omega
      subst hi4
      have hT' := IsTab.congr hT (nearTo_end T E u)
      go_wp2_with (first | (refine wpList_load_row rfl 65 _ rfl w.heap.size rfl 65 _ (0, 0) _ hT' Try.underlying65 rfl (by kernel_rfl) ?_) | (refine wpList_store_row rfl 65 _ _ rfl (w.heap.size + 1 + 1) (tabArr fun k => nearI (T k) (E k) u) rfl rfl 65 _ hR (by kernel_rfl) (by simp [tabArr]) (by simp [tabArr, Value.oneCell']) ?_))
      exact bodyPost_ret (v := .agg (tabArr fun k => nearI (T k) (E k) u)) (results_cell_row rfl _ _ (w.heap.size + 1 + 1) 65 _ (0, 0) _ rfl (setRow_heap _ _ _ _ _ _ hR) Try.underlying65 rfl (by kernel_rfl)) rfl ⟨rfl, below_setRow hbl (by omega) _⟩

end Go.Proofs.Ytlibfmbbchhjeaa
