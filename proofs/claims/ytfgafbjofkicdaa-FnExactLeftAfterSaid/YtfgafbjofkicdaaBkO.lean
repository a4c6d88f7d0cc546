/- The book of a loan behind all its times. -/
import Derived.Test.YtfgafbjofkicdaaBkP
import Derived.Test.YtfgafbjofkicdaaLoanA
namespace Go.Proofs.Ytfgafbjofkicdaa
open Go.RowKit

/-- The value of a book. -/
abbrev bkv (A P B T lf : Int) (ev : Value) (pd : Int) (pv : Value) : Value := .agg #[.int .i64 A, .int .i64 P, .int .i64 B, .int .i64 T, .int .i64 lf, ev, .int .i64 pd, pv]
/-- What the times leave, one after another. -/
def seqL (f : Nat → Int) (n : Nat) : List Int := (List.range n).map f
theorem seqL_succ (f : Nat → Int) (n : Nat) : seqL f (n + 1) = seqL f n ++ [f n] := by simp [seqL, List.range_succ]
theorem seqL_len (f : Nat → Int) (n : Nat) : (seqL f n).length = n := by simp [seqL]

/-- How much is left and paid, time by time. -/
structure Course (P B : Int) (A : Int) (n : Nat) (wv : Value) (lf pd : Nat → Int) : Prop where
  zero : lf 0 = A
  next : ∀ t, t < n → lf (t + 1) = lf t + intr (lf t) P B - pd t
  lfb : ∀ t, t ≤ n → 0 ≤ lf t ∧ lf t ≤ 1000000
  inb : ∀ t, t < n → 0 ≤ intr (lf t) P B ∧ intr (lf t) P B ≤ 1000000
  pdb : ∀ t, t < n → 0 ≤ pd t ∧ pd t ≤ 2000000
  pay : ∀ t, t < n → ∀ wx, Calls Try.prog 76 #[wv, .int .i64 (lf t + intr (lf t) P B), .bool (decide (t + 1 = n))] wx fun e w' => e = .returned (.int .i64 (pd t)) ∧ Below wx.heap.size wx w'

set_option maxRecDepth 100000 in
set_option maxHeartbeats 6400000 in
theorem bookOf_impl (A P B : Int) (n : Nat) (wv : Value) (lf pd : Nat → Int) (w : World) (hP : 0 ≤ P ∧ P ≤ 10) (hB : 1 ≤ B ∧ B ≤ 10) (hn : 1 ≤ n ∧ n ≤ 8) (hc : Course P B A n wv lf pd) :
    Calls Try.prog 62 #[lv A P B n, wv] w fun e w' => ∃ ev pv px, e = .returned (bkv A P B n (lf n) ev px pv) ∧ Own w' w.heap.size ev (seqL (fun t => lf (t + 1)) n) ∧ Own w' w.heap.size pv (seqL pd n) ∧ Below w.heap.size w w' := by
  have HC := Lib.hid hc
  clear hc
  have e0 := HC.out.zero
  have h1 := (Below.refl w.heap.size w).alloc (Nat.le_refl _) (.cells #[.int .i64 A, .int .i64 P, .int .i64 B, .int .i64 (n : Int)] 24)
  have hL := IsBoxL.new w A P B (n : Int)
  go_enter Try.func62, Try.ntmps62
  go_wp2
  obtain ⟨wa, hwa⟩ : ∃ wa, w.alloc (.cells #[.int .i64 A, .int .i64 P, .int .i64 B, .int .i64 (n : Int)] 24) = wa := ⟨_, rfl⟩
  rw [hwa] at hL h1 ⊢
  have za : wa.heap.size = w.heap.size + 1 := by rw [← hwa]; simp
  clear hwa
  have hR : IsBook (wa.alloc (.cells #[.int .i64 0, .int .i64 0, .int .i64 0, .int .i64 0, .int .i64 0, .slice none 0 0, .int .i64 0, .slice none 0 0] 62)) (w.heap.size + 1) 0 0 0 0 0 (.slice none 0 0) 0 (.slice none 0 0) := by rw [← za]; exact heap_alloc_new _ _
  have h2 := h1.alloc h1.size (.cells #[.int .i64 0, .int .i64 0, .int .i64 0, .int .i64 0, .int .i64 0, .slice none 0 0, .int .i64 0, .slice none 0 0] 62)
  have hL2 := hL.alloc (.cells #[.int .i64 0, .int .i64 0, .int .i64 0, .int .i64 0, .int .i64 0, .slice none 0 0, .int .i64 0, .slice none 0 0] 62)
  obtain ⟨wb, hwb⟩ : ∃ wb, wa.alloc (.cells #[.int .i64 0, .int .i64 0, .int .i64 0, .int .i64 0, .int .i64 0, .slice none 0 0, .int .i64 0, .slice none 0 0] 62) = wb := ⟨_, rfl⟩
  rw [hwb] at hR h2 hL2 ⊢
  have zb : wb.heap.size = w.heap.size + 2 := by rw [← hwb]; simp [za]
  clear hwb hL h1
  have h3 := h2.alloc h2.size (.cells #[.int .i64 A, .int .i64 P, .int .i64 B, .int .i64 (n : Int), .int .i64 A, .slice none 0 0, .int .i64 0, .slice none 0 0] 62)
  have hL3 := hL2.alloc (.cells #[.int .i64 A, .int .i64 P, .int .i64 B, .int .i64 (n : Int), .int .i64 A, .slice none 0 0, .int .i64 0, .slice none 0 0] 62)
  have hR3 := hR.kept (World.grownBy_alloc wb (.cells #[.int .i64 A, .int .i64 P, .int .i64 B, .int .i64 (n : Int), .int .i64 A, .slice none 0 0, .int .i64 0, .slice none 0 0] 62) none) (by simp)
  have S0 : BookSt (wb.alloc (.cells #[.int .i64 A, .int .i64 P, .int .i64 B, .int .i64 (n : Int), .int .i64 A, .slice none 0 0, .int .i64 0, .slice none 0 0] 62)) (w.heap.size + 2) (w.heap.size + 1 + 1) A P B n A 0 [] [] (.slice none 0 0) (.slice none 0 0) :=
    ⟨by rw [show w.heap.size + 1 + 1 = wb.heap.size by omega]; exact heap_alloc_new _ _, ⟨rfl, .inl ⟨rfl, rfl⟩⟩, ⟨rfl, .inl ⟨rfl, rfl⟩⟩, .inl rfl, by simp [Value.ownBlock], by simp [Value.ownBlock], Nat.le_refl _⟩
  have zc : (wb.alloc (.cells #[.int .i64 A, .int .i64 P, .int .i64 B, .int .i64 (n : Int), .int .i64 A, .slice none 0 0, .int .i64 0, .slice none 0 0] 62)).heap.size = w.heap.size + 3 := by simp [zb]
  generalize wb.alloc (.cells #[.int .i64 A, .int .i64 P, .int .i64 B, .int .i64 (n : Int), .int .i64 A, .slice none 0 0, .int .i64 0, .slice none 0 0] 62) = wc at *
  clear hL2 hR h2 zb za
  go_loopw [14] (fun tv wr => ∃ t : Nat, t ≤ n ∧ tv = .int .i64 t ∧ (∃ ev pv px, BookSt wr (w.heap.size + 2) (w.heap.size + 1 + 1) A P B n (lf t) px (seqL (fun t => lf (t + 1)) t) (seqL pd t) ev pv) ∧ Below (w.heap.size + 2) wc wr) (fun tv _ => n - (intOf tv).toNat)
  case atStart => exact ⟨0, Nat.zero_le _, rfl, ⟨_, _, _, by rw [e0]; exact S0⟩, Below.refl _ _⟩
  case round =>
    obtain ⟨t, ht, rfl, ⟨ev, pv, px, S1⟩, hbl⟩ := hrel
    rename World => wr
    clear S0
    have zr : w.heap.size + 3 ≤ wr.heap.size := by have := hbl.size; omega
    have hLr : IsBoxL wr w.heap.size A P B n := (hbl.block _ (by omega)).trans hL3
    by_cases hlt : t < n
    · have t1 : (t : Int) < (n : Int) := by omega
      have hx := HC.out.next t hlt
      have HPT := fun (b : Bool) (hb : b = decide (t + 1 = n)) => passTime_impl wr (w.heap.size + 2) (w.heap.size + 1 + 1) A P B n (lf t) px (pd t) _ _ ev pv wv b S1 (by omega) (by rw [seqL_len, seqL_len]; omega) (HC.out.lfb t ht) hP hB (HC.out.inb t hlt) (HC.out.pdb t hlt) (by subst hb; exact HC.out.pay t hlt)
      rw [← hx, ← seqL_succ (fun t => lf (t + 1)) t, ← seqL_succ pd t] at HPT
      have HP := Lib.hid HPT
      clear HPT hx S1
      obtain ⟨⟨c0, c1, c2, c3⟩, _⟩ := hLr.cells
      by_cases hlast : t + 1 = n
      · have q1 : ((t : Int) == (n : Int) - 1) = true := by rw [beq_iff_eq]; omega
        have HQ := Lib.hid (HP.out true (by simp [hlast]))
        clear HP
        go_wp2_with (go_at_call 73; refine HQ.out.mono ?_; rintro e w4 ⟨rfl, ⟨ev', pv', S4⟩, hb4⟩)
        have HS4 : Hid (∃ ev pv px, BookSt w4 (w.heap.size + 2) (w.heap.size + 1 + 1) A P B n (lf (t + 1)) px (seqL (fun t => lf (t + 1)) (t + 1)) (seqL pd (t + 1)) ev pv) := ⟨_, _, _, S4⟩
        have hb5 := hbl.trans hb4
        clear S4 hb4 c0 c1 c2 c3 HQ
        go_roundw
        case rel => exact ⟨t + 1, by omega, by go_num, HS4.out, hb5⟩
        case measure => simp [intOf]; omega
      · have q1 : ((t : Int) == (n : Int) - 1) = false := by rw [beq_eq_false_iff_ne]; omega
        have HQ := Lib.hid (HP.out false (by simp [hlast]))
        clear HP
        go_wp2_with (go_at_call 73; refine HQ.out.mono ?_; rintro e w4 ⟨rfl, ⟨ev', pv', S4⟩, hb4⟩)
        have HS4 : Hid (∃ ev pv px, BookSt w4 (w.heap.size + 2) (w.heap.size + 1 + 1) A P B n (lf (t + 1)) px (seqL (fun t => lf (t + 1)) (t + 1)) (seqL pd (t + 1)) ev pv) := ⟨_, _, _, S4⟩
        have hb5 := hbl.trans hb4
        clear S4 hb4 c0 c1 c2 c3 HQ
        go_roundw
        case rel => exact ⟨t + 1, by omega, by go_num, HS4.out, hb5⟩
        case measure => simp [intOf]; omega
    · have hte : t = n := by omega
      subst hte
      have hRr : IsBook wr (w.heap.size + 1) 0 0 0 0 0 (.slice none 0 0) 0 (.slice none 0 0) := (hbl.block _ (by omega)).trans hR3
      have n1 := S1.ne
      have n2 := S1.np
      have l1 := S1.oe.lt
      have l2 := S1.op.lt
      obtain ⟨a1, cp1, rfl, _⟩ := id S1.oe.ints
      obtain ⟨a2, cp2, rfl, _⟩ := id S1.op.ints
      obtain ⟨⟨b0, b1, b2, b3, b4, b5, b6, b7⟩, bf⟩ := S1.bk.cells
      have B5 := h3.trans (hbl.mono (Nat.le_add_right _ _))
      go_wp2_with (refine wpList_store_row rfl 62 _ _ rfl (w.heap.size + 1) #[.int .i64 A, .int .i64 P, .int .i64 B, .int .i64 (t : Int), .int .i64 (lf t), .slice a1 (seqL (fun t => lf (t + 1)) t).length cp1, .int .i64 px, .slice a2 (seqL pd t).length cp2] rfl rfl 62 _ hRr (by kernel_rfl) rfl (by simp [Value.oneCell']) ?_)
      have g := grown_setRowL wr (w.heap.size + 1) #[.int .i64 A, .int .i64 P, .int .i64 B, .int .i64 (t : Int), .int .i64 (lf t), .slice a1 (seqL (fun t => lf (t + 1)) t).length cp1, .int .i64 px, .slice a2 (seqL pd t).length cp2]
      refine bodyPost_ret (v := bkv A P B t (lf t) (.slice a1 (seqL (fun t => lf (t + 1)) t).length cp1) px (.slice a2 (seqL pd t).length cp2)) (results_cell_row rfl _ _ (w.heap.size + 1) 62 _ (0, 0) _ rfl (setRow_heap _ _ _ _ _ _ hRr) Try.underlying62 rfl (by kernel_rfl)) rfl ?_
      exact ⟨_, _, _, rfl, (S1.oe.kept g (.inr fun e => by have := (l1 _ e).1; omega)).base (Nat.le_add_right _ _), (S1.op.kept g (.inr fun e => by have := (l2 _ e).1; omega)).base (Nat.le_add_right _ _), below_setRow B5 (Nat.le_add_right _ _) _⟩

end Go.Proofs.Ytfgafbjofkicdaa
