/- The table with its sums, in the program. -/
import Derived.Test.YtlibfmbbchhjeaaGridV
import Derived.Deep.OwnRows
import Derived.RegionTactic
import Derived.BigRegion
import Derived.Laws.Rows
import Derived.Laws.Tables
import Derived.Laws.CopyOwn
namespace Go.Proofs.Ytlibfmbbchhjeaa
open Go.RowKit

/-- What one number adds to the table. -/
def addCell (T : Nat → Int) (i j : Nat) (n : Int) : Nat → Int := fun k => if k = i * 4 + j then n else if k = i * 4 + 3 ∨ k = 12 + j ∨ k = 15 then wrap64 (T k + n) else T k

/-- The table behind the first k numbers of row i. -/
def rowFold (T : Nat → Int) (g : List (List Int)) (i : Nat) : Nat → Nat → Int
  | 0 => T
  | k + 1 => addCell (rowFold T g i k) i k (cellOf g i k)

/-- The table behind the first rows. -/
def tabFold (g : List (List Int)) : Nat → Nat → Int
  | 0 => fun _ => 0
  | i + 1 => rowFold (tabFold g i) g i (rowOf g i).length

def tabArr (T : Nat → Int) : Array Value := ((List.range 16).map fun k => Value.int .i64 (T k)).toArray

/-- The block b is a table T. -/
def IsTab (w : World) (b : Nat) (T : Nat → Int) : Prop := w.heap[b]? = some (.cells (tabArr T) 65 (0, 0))

theorem IsTab.cell {w : World} {b : Nat} {T : Nat → Int} (h : IsTab w b T) (k : Nat) (hk : k < 16) : w.cell? ⟨b, k, none⟩ = some (.int .i64 (T k)) := by
  rw [cell_of_row w b k _ _ _ h]
  simp [tabArr, hk]
theorem IsTab.frozen {w : World} {b : Nat} {T : Nat → Int} (h : IsTab w b T) (k : Nat) : w.frozen? ⟨b, k, none⟩ = false := frozen_of_row w b k _ _ h
theorem IsTab.congr {w : World} {b : Nat} {T U : Nat → Int} (h : IsTab w b T) (e : ∀ k, k < 16 → T k = U k) : IsTab w b U := by
  unfold IsTab at *
  rw [h]
  have : tabArr T = tabArr U := by
    unfold tabArr
    congr 1
    apply List.map_congr_left
    intro k hk
    rw [e k (by simpa using hk)]
  rw [this]
theorem IsTab.set {w : World} {b : Nat} {T : Nat → Int} (h : IsTab w b T) (k : Nat) (n : Int) : IsTab (w.setCell ⟨b, k, none⟩ (.int .i64 n)) b (fun j => if j = k then n else T j) ∧ w.grownBy (w.setCell ⟨b, k, none⟩ (.int .i64 n)) (some b) := by
  refine ⟨?_, ⟨rfl, rfl, rfl, by simp, fun q _ hq => heap_setCell_other w ⟨b, k, none⟩ q _ (fun e => hq (by simp [e]))⟩⟩
  unfold IsTab at *
  rw [heap_setCell_same w b k _ _ _ h]
  congr 1
  congr 1
  unfold tabArr
  apply Array.ext
  · simp
  · intro i h1 h2
    by_cases e : k = i
    · subst e; simp
    · have e' : ¬ i = k := fun x => e x.symm
      simp [e, e']

theorem IsTab.kept {w w' : World} {b : Nat} {T : Nat → Int} {row : Option Nat} (h : IsTab w b T) (hg : w.grownBy w' row) (hne : row ≠ some b) : IsTab w' b T := by
  unfold IsTab at *
  rw [hg.block b (Array.getElem?_eq_some_iff.1 h).1 (fun e => hne e.symm)]
  exact h

def zeroTab : Array Value := #[.int .i64 0, .int .i64 0, .int .i64 0, .int .i64 0, .int .i64 0, .int .i64 0, .int .i64 0, .int .i64 0, .int .i64 0, .int .i64 0, .int .i64 0, .int .i64 0, .int .i64 0, .int .i64 0, .int .i64 0, .int .i64 0]

theorem isTab_zero {w : World} {b : Nat} (h : w.heap[b]? = some (.cells zeroTab 65 (0, 0))) : IsTab w b (fun _ => 0) := h

theorem grown_drew {w w' : World} {row : Option Nat} (h : w.grownBy w' row) : w.grownBy w'.drew row := ⟨h.os, h.tape, h.output, h.size, h.block⟩

theorem addCell_eq (T : Nat → Int) (i k : Nat) (n : Int) (hi : i < 3) (hk : k < 3) (j : Nat) :
    (if j = 15 then wrap64 (T 15 + n) else if j = 12 + k then wrap64 (T (12 + k) + n) else if j = i * 4 + 3 then wrap64 (T (i * 4 + 3) + n) else if j = i * 4 + k then n else T j) = addCell T i k n j := by
  unfold addCell
  by_cases h0 : j = i * 4 + k
  · rw [if_neg (by omega), if_neg (by omega), if_neg (by omega), if_pos h0, if_pos h0]
  · rw [if_neg h0, if_neg h0]
    by_cases h1 : j = 15
    · subst h1; rw [if_pos rfl, if_pos (by omega)]
    · rw [if_neg h1]
      by_cases h2 : j = 12 + k
      · subst h2; rw [if_pos rfl, if_pos (by omega)]
      · rw [if_neg h2]
        by_cases h3 : j = i * 4 + 3
        · subst h3; rw [if_pos rfl, if_pos (by omega)]
        · rw [if_neg h3, if_neg (by omega)]

set_option maxRecDepth 100000 in
set_option maxHeartbeats 3200000 in
theorem tableOf_impl (v : Value) (g : List (List Int)) (w : World) (hv : IsGrid w v g) (hl : g.length ≤ 3) (hr : ∀ i, i < g.length → (rowOf g i).length ≤ 3) :
    Calls Try.prog 72 #[v] w fun e w' => e = .returned (.agg (tabArr (tabFold g g.length))) ∧ Below w.heap.size w w' := by
  obtain ⟨a, cap, rfl, _⟩ := id hv
  have hb0 : Below w.heap.size w ((w.alloc (.cells zeroTab 65)).alloc (.cells zeroTab 65)) := ((Below.refl _ _).alloc (Nat.le_refl _) _).alloc (by simp) _
  have ht1 : IsTab ((w.alloc (.cells zeroTab 65)).alloc (.cells zeroTab 65)) (w.heap.size + 1) (fun _ => 0) := isTab_zero (heap_alloc2_new _ _ _)
  have ht0 : IsTab ((w.alloc (.cells zeroTab 65)).alloc (.cells zeroTab 65)) w.heap.size (fun _ => 0) := isTab_zero ((Below.heap_alloc _ _ _ (by simp)).trans (heap_alloc_new _ _))
  go_enter Try.func72, Try.ntmps72
  go_wp2
  go_loopw [10] (fun s wr => ∃ i : Nat, i ≤ g.length ∧ s = .int .i64 i ∧ IsTab wr (w.heap.size + 1) (tabFold g i) ∧ IsTab wr w.heap.size (fun _ => 0) ∧ Below w.heap.size w wr) (fun s _ => g.length - (intOf s).toNat)
  case atStart => exact ⟨0, Nat.zero_le _, rfl, ht1, ht0, hb0⟩
  case round =>
    clear ht1 ht0 hb0
    obtain ⟨i, hi, rfl, ht1, ht0, hbl⟩ := hrel
    have hsz := hbl.size
    by_cases hlt : i < g.length
    · obtain ⟨b, off, ar, cr, rfl, ci, _⟩ := hv.row i hlt
      have hbb : b < w.heap.size := World.block_lt_of_cell? w _ ci
      have ci' : wr.cell? ⟨b, off + i, none⟩ = some (.slice ar (rowOf g i).length cr) := (hbl.cell (by exact hbb)).trans ci
      have i1 : (i : Int) < (g.length : Int) := by omega
      have i4 : (i : Int) < 4 := by omega
      have hli := hr i hlt
      go_wp2
      go_loopw [17] (fun s wr => ∃ k : Nat, k ≤ (rowOf g i).length ∧ s = .int .i64 k ∧ IsTab wr (w.heap.size + 1) (rowFold (tabFold g i) g i k) ∧ IsTab wr w.heap.size (fun _ => 0) ∧ Below w.heap.size w wr) (fun s _ => (rowOf g i).length - (intOf s).toNat)
      case atStart => exact ⟨0, Nat.zero_le _, rfl, ht1, ht0, hbl⟩
      case round =>
        clear ht1 ht0 hbl ci' hsz
        obtain ⟨k, hk, rfl, ht1, ht0, hbl⟩ := hrel
        by_cases hlk : k < (rowOf g i).length
        · obtain ⟨b', off', ar', cr', e', c', cc⟩ := hv.row i hlt
          simp only [Option.some.injEq, Addr.mk.injEq, and_true] at e'
          obtain ⟨rfl, rfl⟩ := e'
          rw [ci] at c'
          simp only [Option.some.injEq, Value.slice.injEq, true_and] at c'
          obtain ⟨rfl, rfl⟩ := c'
          obtain ⟨br, fr, rfl, ck0⟩ := cc k hlk
          have hbr : br < w.heap.size := World.block_lt_of_cell? w _ ck0
          have ck : wr.cell? ⟨br, fr + k, none⟩ = some (.int .i64 (cellOf g i k)) := (hbl.cell (by exact hbr)).trans ck0
          have k1 : (k : Int) < ((rowOf g i).length : Int) := by omega
          have k4 : (k : Int) < 4 := by omega
          clear cc
          have hi3 : i < 3 := by omega
          have hk3 : k < 3 := by omega
          have HT : Hid (rowFold (tabFold g i) g i (k + 1) = addCell (rowFold (tabFold g i) g i k) i k (cellOf g i k)) := rfl
          generalize rowFold (tabFold g i) g i k = T at ht1 HT
          generalize cellOf g i k = n at ck HT
          have a0 := ht1.cell (i * 4 + k) (by omega)
          have f0 := ht1.frozen (i * 4 + k)
          have s1 := ht1.set (i * 4 + k) n
          have a1 := s1.1.cell (i * 4 + 3) (by omega)
          rw [if_neg (show ¬ i * 4 + 3 = i * 4 + k by omega)] at a1
          have f1 := s1.1.frozen (i * 4 + 3)
          have s2 := s1.1.set (i * 4 + 3) (wrap64 (T (i * 4 + 3) + n))
          have a2 := s2.1.cell (12 + k) (by omega)
          rw [if_neg (show ¬ 12 + k = i * 4 + 3 by omega), if_neg (show ¬ 12 + k = i * 4 + k by omega)] at a2
          have f2 := s2.1.frozen (12 + k)
          have s3 := s2.1.set (12 + k) (wrap64 (T (12 + k) + n))
          have a3 := s3.1.cell 15 (by omega)
          rw [if_neg (show ¬ 15 = 12 + k by omega), if_neg (show ¬ 15 = i * 4 + 3 by omega), if_neg (show ¬ 15 = i * 4 + k by omega)] at a3
          have f3 := s3.1.frozen 15
          have s4 := s3.1.set 15 (wrap64 (T 15 + n))
          have hg4 := ((s1.2.trans s2.2).trans s3.2).trans s4.2
          have S4 := Lib.hid s4.1
          have G4 := Lib.hid hg4
          clear s1 s2 s3 s4 hg4
          go_wp2
          go_region
          go_wp2
          go_roundw
          case rel =>
            refine ⟨k + 1, by omega, by go_num, ?_, ?_, ?_⟩
            · rw [HT.out]
              exact IsTab.congr S4.out (fun j _ => addCell_eq T i k n hi3 hk3 j)
            · exact ht0.kept (grown_drew G4.out) (by simp)
            · exact hbl.trans (below_grown (grown_drew G4.out) (hbl.size) (fun q hq => by cases hq; omega))
          case measure => simp [intOf]; omega
        · go_wp2
          go_roundw
          case rel =>
            have hkl : k = (rowOf g i).length := by omega
            subst hkl
            exact ⟨i + 1, by omega, by go_num, ht1, ht0, hbl⟩
          case measure => simp [intOf]; omega
    · have hig : i = g.length := by omega
      subst hig
      go_wp2_with (first | (refine wpList_load_row rfl 65 _ rfl (w.heap.size + 1) rfl 65 _ (0, 0) _ ht1 Try.underlying65 rfl (by kernel_rfl) ?_) | (refine wpList_store_row rfl 65 _ _ rfl w.heap.size (tabArr (tabFold g g.length)) rfl rfl 65 _ ht0 (by kernel_rfl) (by simp [tabArr]) (by simp [tabArr, Value.oneCell']) ?_))
      exact bodyPost_ret (v := .agg (tabArr (tabFold g g.length))) (results_cell_row rfl _ _ w.heap.size 65 _ (0, 0) _ rfl (setRow_heap _ _ _ _ _ _ ht0) Try.underlying65 rfl (by kernel_rfl)) rfl ⟨rfl, below_setRow hbl (Nat.le_refl _) _⟩

end Go.Proofs.Ytlibfmbbchhjeaa
