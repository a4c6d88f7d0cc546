/- One time passes. -/
import Derived.Test.YtfgafbjofkicdaaBkB
import Derived.Test.YtfgafbjofkicdaaBkW
namespace Go.Proofs.Ytfgafbjofkicdaa
open Go.RowKit

/-- Behind the interest, the payment, what is left then. -/
theorem BookSt.set4 {w : World} {n0 b : Nat} {A P B T lf pd : Int} {xs ys : List Int} {ev pv : Value} (h : BookSt w n0 b A P B T lf pd xs ys ev pv) (x : Int) : BookSt (w.setCell ⟨b, 4, none⟩ (.int .i64 x)) n0 b A P B T x pd xs ys ev pv :=
  ⟨h.bk.set4 x, h.oe.kept (grown_setCellB w b 4 _) (.inr h.ne), h.op.kept (grown_setCellB w b 4 _) (.inr h.np), h.ap, h.ne, h.np, h.lo⟩
theorem BookSt.set6 {w : World} {n0 b : Nat} {A P B T lf pd : Int} {xs ys : List Int} {ev pv : Value} (h : BookSt w n0 b A P B T lf pd xs ys ev pv) (x : Int) : BookSt (w.setCell ⟨b, 6, none⟩ (.int .i64 x)) n0 b A P B T lf x xs ys ev pv :=
  ⟨h.bk.set6 x, h.oe.kept (grown_setCellB w b 6 _) (.inr h.ne), h.op.kept (grown_setCellB w b 6 _) (.inr h.np), h.ap, h.ne, h.np, h.lo⟩
theorem BookSt.below {w w1 : World} {n0 b : Nat} {A P B T lf pd : Int} {xs ys : List Int} {ev pv : Value} (h : BookSt w n0 b A P B T lf pd xs ys ev pv) (g : Below w.heap.size w w1) : BookSt w1 n0 b A P B T lf pd xs ys ev pv :=
  h.grown ⟨g.os, g.tape, g.output, g.size, fun k hk _ => g.block k hk⟩

set_option maxRecDepth 100000 in
set_option maxHeartbeats 6400000 in
theorem passTime_impl (w : World) (n0 b : Nat) (A P B T lf pd px : Int) (xs ys : List Int) (ev pv wv : Value) (last : Bool) (hst : BookSt w n0 b A P B T lf pd xs ys ev pv) (hn : n0 ≤ w.heap.size) (hl : xs.length ≤ 1000 ∧ ys.length ≤ 1000)
    (hlf : 0 ≤ lf ∧ lf ≤ 1000000) (hP : 0 ≤ P ∧ P ≤ 10) (hB : 1 ≤ B ∧ B ≤ 10) (hin : 0 ≤ intr lf P B ∧ intr lf P B ≤ 1000000) (hpx : 0 ≤ px ∧ px ≤ 2000000)
    (hpay : ∀ wx, Calls Try.prog 76 #[wv, .int .i64 (lf + intr lf P B), .bool last] wx fun e w' => e = .returned (.int .i64 px) ∧ Below wx.heap.size wx w') :
    Calls Try.prog 73 #[.pointer (some ⟨b, 0, none⟩), wv, .bool last] w fun e w' => e = .returned (.tuple #[]) ∧ (∃ ev' pv', BookSt w' n0 b A P B T (lf + intr lf P B - px) px (xs ++ [lf + intr lf P B - px]) (ys ++ [px]) ev' pv') ∧ Below n0 w w' := by
  have HP := Lib.hid hpay
  have HH := Lib.hid (fun wx => (halves_at lf P B wx hlf hP hB).mono fun _ _ h => And.intro h.1 h.2.symm)
  have hm := mul_small hlf hP
  have hw : IntKind.i64.wrap (lf * P) = lf * P := IntWalk.i64_in _ (by omega)
  have hbb := hst.bk.lt
  obtain ⟨⟨b0, b1, b2, b3, b4, b5, b6, b7⟩, bf⟩ := hst.bk.cells
  clear hpay
  generalize intr lf P B = iv at *
  go_enter_defers Try.func73, Try.ntmps73
  go_wp2
  go_still_tail 6, (by kernel_rfl)
  change wpList _ _ _ _ _ w.drew
  have SA := hst.grown (grown_drewB w)
  have hn2 : n0 ≤ w.drew.heap.size := hn
  have HN := Lib.hid hn
  clear hst hn b0 b1 b2 b3 b4 b5 b6 b7 bf hbb
  have B0 : Below n0 w w.drew := (Below.refl n0 w).drew
  generalize w.drew = w2 at *
  go_wp2
  have SB := SA.grown (World.grownBy_alloc w2 (.cells #[.pointer (some ⟨b, 4, none⟩), .pointer (some ⟨b, 6, none⟩)] 80) none)
  have B1 := B0.alloc hn2 (.cells #[.pointer (some ⟨b, 4, none⟩), .pointer (some ⟨b, 6, none⟩)] 80)
  have HS : (w2.alloc (.cells #[.pointer (some ⟨b, 4, none⟩), .pointer (some ⟨b, 6, none⟩)] 80)).heap[w2.heap.size]? = some (.cells #[.pointer (some ⟨b, 4, none⟩), .pointer (some ⟨b, 6, none⟩)] 80 (0, 0)) := heap_alloc_new _ _
  have sne : w2.heap.size ≠ b := by have := SA.bk.lt; omega
  have sev : ev.ownBlock ≠ some w2.heap.size := fun e => by have := (SA.oe.lt _ e).2; omega
  have hn3 := B1.size
  clear SA B0 hn2
  generalize w2.alloc (.cells #[.pointer (some ⟨b, 4, none⟩), .pointer (some ⟨b, 6, none⟩)] 80) = w3 at *
  generalize w2.heap.size = s at *
  obtain ⟨⟨b0, b1, b2, b3, b4, b5, b6, b7⟩, bf⟩ := SB.bk.cells
  go_still_tail 23, (by kernel_rfl)
  still_call (HH.out w3.drew)
  repeat still_step
  refine wpStill_nil ?_
  change wpList _ _ _ _ _ w3.drew
  have wsum : IntKind.i64.wrap (lf + iv) = lf + iv := IntWalk.i64_in _ (by omega)
  have SC := SB.grown (grown_drewB w3)
  have S4 := SC.set4 (lf + iv)
  have B4 : Below n0 w (w3.drew.setCell ⟨b, 4, none⟩ (.int .i64 (lf + iv))) := (B1.drew).setCell (by exact SB.lo) _
  have H4 : (w3.drew.setCell ⟨b, 4, none⟩ (.int .i64 (lf + iv))).heap[s]? = some (.cells #[.pointer (some ⟨b, 4, none⟩), .pointer (some ⟨b, 6, none⟩)] 80 (0, 0)) := (heap_setCell_other _ _ _ _ sne).trans HS
  have e4 : w3.drew.cell? ⟨b, 4, none⟩ = some (.int .i64 lf) := b4
  have f4 : w3.drew.frozen? ⟨b, 4, none⟩ = false := bf 4
  clear b0 b1 b2 b3 b4 b5 b6 b7 bf HS SB B1 SC hn3
  generalize w3.drew = w4 at *
  have HQ := Lib.hid (HP.out (w4.setCell ⟨b, 4, none⟩ (.int .i64 (lf + iv))))
  clear HP
  go_wp2_with fail
  refine HQ.out.mono ?_
  rintro e w5 ⟨rfl, b5⟩
  have S5 := S4.below b5
  have hs4 := (Array.getElem?_eq_some_iff.1 H4).1
  have H5 := (b5.block _ hs4).trans H4
  have B5 := B4.trans (b5.mono (Nat.le_trans HN.out B4.size))
  clear e4 f4 HQ b5 hs4 H4 S4 B4
  obtain ⟨⟨_, _, _, _, e4, _, e6, _⟩, bf⟩ := S5.bk.cells
  have f4 := bf 4
  have f6 := bf 6
  have S6 := S5.set6 px
  have H6 := (heap_setCell_other w5 ⟨b, 6, none⟩ s (.int .i64 px) sne).trans H5
  have B6 : Below n0 w (w5.setCell ⟨b, 6, none⟩ (.int .i64 px)) := B5.setCell (by exact S5.lo) _
  clear H5 B5 S5
  go_wp2
  clear e4 e6 f4 f6 bf
  generalize w5.setCell ⟨b, 6, none⟩ (.int .i64 px) = w6 at *
  obtain ⟨⟨_, _, _, _, e4, _, e6, _⟩, bf⟩ := S6.bk.cells
  go_still_tail 11, (by kernel_rfl)
  change wpList _ _ _ _ _ w6.drew
  have wdif : IntKind.i64.wrap (lf + iv - px) = lf + iv - px := IntWalk.i64_in _ (by omega)
  have SC := S6.grown (grown_drewB w6)
  have S7 := SC.set4 (lf + iv - px)
  have B7 : Below n0 w (w6.drew.setCell ⟨b, 4, none⟩ (.int .i64 (lf + iv - px))) := (B6.drew).setCell (by exact S6.lo) _
  have H7 : (w6.drew.setCell ⟨b, 4, none⟩ (.int .i64 (lf + iv - px))).heap[s]? = some (.cells #[.pointer (some ⟨b, 4, none⟩), .pointer (some ⟨b, 6, none⟩)] 80 (0, 0)) := (heap_setCell_other _ _ _ _ sne).trans H6
  have e4' : w6.drew.cell? ⟨b, 4, none⟩ = some (.int .i64 (lf + iv)) := e4
  have f4 : w6.drew.frozen? ⟨b, 4, none⟩ = false := bf 4
  clear e4 e6 bf H6 S6 B6 SC
  generalize w6.drew = w7 at *
  go_wp2
  generalize w7.setCell ⟨b, 4, none⟩ (.int .i64 (lf + iv - px)) = w8 at *
  have c0 : w8.cell? ⟨s, 0, none⟩ = some (.pointer (some ⟨b, 4, none⟩)) := by rw [cell_of_row w8 s 0 _ _ _ H7]; rfl
  have c1 : w8.cell? ⟨s, 1, none⟩ = some (.pointer (some ⟨b, 6, none⟩)) := by rw [cell_of_row w8 s 1 _ _ _ H7]; rfl
  refine leaves_cons (f := 75) (args := #[.slice (some ⟨s, 0, none⟩) 2 2]) (by simp) (by simp [go_sem]) ?_
  refine (closeTime_d .returning w8 n0 b s A P B T (lf + iv - px) px xs ys ev pv S7 (Nat.le_trans HN.out B7.size) hl c0 c1 sev).mono ?_
  rintro e u' w9 ⟨rfl, rfl, hx, hb9⟩
  exact ⟨_, results_none rfl _ _ _, rfl, hx, B7.trans hb9⟩

end Go.Proofs.Ytfgafbjofkicdaa
