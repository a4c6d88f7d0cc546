/- The step at an income, in the program. -/
import Derived.Test.YtmeejaafbbabaaaTaxM
import Derived.Laws.Rows
import Derived.Laws.Tables
import Derived.Laws.CopyOwn
namespace Go.Proofs.Ytmeejaafbbabaaa
open Go.RowKit

/-- A step as a value. -/
abbrev sv (f r : Int) : Value := .agg #[.int .i64 f, .int .i64 r]
/-- The block b holds a step alone. -/
def IsBox (w : World) (b : Nat) (f r : Int) : Prop := w.heap[b]? = some (.cells #[.int .i64 f, .int .i64 r] 33 (0, 0))

theorem IsBox.cells {w : World} {b : Nat} {f r : Int} (h : IsBox w b f r) : w.cell? ⟨b, 0, none⟩ = some (.int .i64 f) ∧ w.cell? ⟨b, 1, none⟩ = some (.int .i64 r) ∧ w.frozen? ⟨b, 0, none⟩ = false ∧ w.frozen? ⟨b, 1, none⟩ = false := by
  refine ⟨?_, ?_, frozen_of_row w b 0 _ _ h, frozen_of_row w b 1 _ _ h⟩
  · rw [cell_of_row w b 0 _ _ _ h]; rfl
  · rw [cell_of_row w b 1 _ _ _ h]; rfl

theorem IsBox.set {w : World} {b : Nat} {f r : Int} (h : IsBox w b f r) (f' r' : Int) : IsBox ((w.setCell ⟨b, 0, none⟩ (.int .i64 f')).setCell ⟨b, 1, none⟩ (.int .i64 r')) b f' r' := by
  unfold IsBox at *
  have h1 := heap_setCell_same w b 0 _ _ (.int .i64 f') h
  have h2 := heap_setCell_same _ b 1 _ _ (.int .i64 r') h1
  rw [h2]
  rfl

theorem IsBox.below {w w' : World} {b : Nat} {f r : Int} (h : IsBox w b f r) (hb : Below w.heap.size w w') : IsBox w' b f r := (hb.block b (Array.getElem?_eq_some_iff.1 h).1).trans h
theorem IsBox.lt {w : World} {b : Nat} {f r : Int} (h : IsBox w b f r) : b < w.heap.size := (Array.getElem?_eq_some_iff.1 h).1
theorem IsBox.new (w : World) (f r : Int) : IsBox (w.alloc (.cells #[.int .i64 f, .int .i64 r] 33)) w.heap.size f r := heap_alloc_new _ _
theorem IsBox.alloc {w : World} {b : Nat} {f r : Int} (h : IsBox w b f r) (o : Obj) : IsBox (w.alloc o) b f r := h.below ((Below.refl _ _).alloc (Nat.le_refl _) _)

theorem IsBox.row {w : World} {b : Nat} {f r : Int} (h : IsBox w b f r) (f' r' : Int) : IsBox (w.setRow b #[.int .i64 f', .int .i64 r']) b f' r' := setRow_heap w b _ _ _ _ h
theorem IsBox.rowOther {w : World} {b g : Nat} {f r : Int} (h : IsBox w b f r) (hne : b ≠ g) (cs : Array Value) : IsBox (w.setRow g cs) b f r := (setRow_other w g b cs hne).trans h

set_option maxHeartbeats 800000 in
theorem stepAt_impl (v : Value) (st : List (Int × Int)) (x : Int) (w : World) (hv : IsSteps w v st) (hs : Steps st) (_hx : 0 ≤ x ∧ x ≤ 2000) :
    Calls Try.prog 59 #[v, .int .i64 x] w fun e w' => e = .returned (sv (frm st (atX st x)) (rat st (atX st x))) ∧ Below w.heap.size w w' := by
  obtain ⟨a, cap, rfl, hc⟩ := hv
  have hl1 := hs.len1
  have hl5 := hs.len5
  obtain ⟨b0, off0, rfl, c00, c01⟩ := hc 0 (by omega)
  simp only [Nat.zero_mul, Nat.add_zero] at c00 c01
  have i2 : 0 < st.length := by omega
  have i3 : st ≠ [] := by intro hg; rw [hg] at i2; exact absurd i2 (by decide)
  have hbb : b0 < w.heap.size := World.block_lt_of_cell? w _ c00
  have d0 : (w.alloc (.cells #[.int .i64 0, .int .i64 0] 33)).cell? ⟨b0, off0, none⟩ = some (.int .i64 (frm st 0)) := (Below.cell ((Below.refl w.heap.size w).alloc (Nat.le_refl _) _) (by exact hbb)).trans c00
  have d1 : (w.alloc (.cells #[.int .i64 0, .int .i64 0] 33)).cell? ⟨b0, off0 + 1, none⟩ = some (.int .i64 (rat st 0)) := (Below.cell ((Below.refl w.heap.size w).alloc (Nat.le_refl _) _) (by exact hbb)).trans c01
  go_enter Try.func59, Try.ntmps59
  go_wp2
  go_loopw [13] (fun s wr => ∃ k : Nat, k ≤ st.length ∧ s = .int .i64 k ∧ IsBox wr (w.heap.size + 1) (frm st (atI st x k)) (rat st (atI st x k)) ∧ IsBox wr w.heap.size 0 0 ∧ Below w.heap.size w wr) (fun s _ => st.length - (intOf s).toNat)
  case atStart => exact ⟨0, Nat.zero_le _, rfl, heap_alloc2_new _ _ _, (IsBox.new w 0 0).alloc _, ((Below.refl _ _).alloc (Nat.le_refl _) _).alloc (by simp) _⟩
  case round =>
    clear d0 d1
    obtain ⟨k, hk, rfl, hb1, hb0, hbl⟩ := hrel
    have hsz := hbl.size
    by_cases hlt : k < st.length
    · obtain ⟨b, off, e, ck0, ck1⟩ := hc k hlt
      simp only [Option.some.injEq, Addr.mk.injEq, and_true] at e
      obtain ⟨rfl, rfl⟩ := e
      have d0 : wr.cell? ⟨b0, off0 + k * 2, none⟩ = some (.int .i64 (frm st k)) := (hbl.cell (by exact hbb)).trans ck0
      have d1 : wr.cell? ⟨b0, off0 + k * 2 + 1, none⟩ = some (.int .i64 (rat st k)) := (hbl.cell (by exact hbb)).trans ck1
      have k1 : (k : Int) < (st.length : Int) := by omega
      clear hc
      by_cases hle : frm st k ≤ x
      · have hbx := hb1.alloc (.cells #[.int .i64 (frm st k), .int .i64 (rat st k)] 33)
        have hby := hb0.alloc (.cells #[.int .i64 (frm st k), .int .i64 (rat st k)] 33)
        have hbz : Below w.heap.size w (wr.alloc (.cells #[.int .i64 (frm st k), .int .i64 (rat st k)] 33)) := hbl.alloc hsz _
        have he : atI st x (k + 1) = k := by simp [atI, hle]
        have HE := Lib.hid he
        clear he
        go_wp2_with (refine wpList_store_row rfl 33 _ _ rfl (w.heap.size + 1) #[.int .i64 (frm st k), .int .i64 (rat st k)] rfl rfl 33 _ hbx (by kernel_rfl) rfl (by simp [Value.oneCell']) ?_)
        go_roundw
        case rel => exact ⟨k + 1, by omega, by go_num, by rw [HE.out]; exact hbx.row _ _, hby.rowOther (by omega) _, below_setRow hbz (by omega) _⟩
        case measure => simp [intOf]; omega
      · have he : atI st x (k + 1) = atI st x k := by simp [atI, hle]
        have HE := Lib.hid he
        clear he
        go_wp2
        go_roundw
        case rel => exact ⟨k + 1, by omega, by go_num, by rw [HE.out]; exact hb1.alloc _, hb0.alloc _, hbl.alloc hsz _⟩
        case measure => simp [intOf]; omega
    · have hkl : k = st.length := by omega
      subst hkl
      have hbr := hb0.row (frm st (atI st x st.length)) (rat st (atI st x st.length))
      go_wp2_with (first | (refine wpList_load_row rfl 33 _ rfl (w.heap.size + 1) rfl 33 _ (0, 0) _ hb1 Try.underlying33 rfl (by kernel_rfl) ?_) | (refine wpList_store_row rfl 33 _ _ rfl w.heap.size #[.int .i64 (frm st (atI st x st.length)), .int .i64 (rat st (atI st x st.length))] rfl rfl 33 _ hb0 (by kernel_rfl) rfl (by simp [Value.oneCell']) ?_))
      exact bodyPost_ret (v := sv (frm st (atX st x)) (rat st (atX st x))) (results_cell_row rfl _ _ w.heap.size 33 _ (0, 0) _ rfl hbr Try.underlying33 rfl (by kernel_rfl)) rfl ⟨rfl, below_setRow hbl (Nat.le_refl _) _⟩

end Go.Proofs.Ytmeejaafbbabaaa
