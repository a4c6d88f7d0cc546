/- The circle of debts that is taken down first, in the program. -/
import Derived.Test.YtbedjebnllimpaaCircI
namespace Go.Proofs.Ytbedjebnllimpaa
open Go.RowKit

theorem freeN_bound (hd : List Nat) : ∀ m, freeN hd m ≤ m
  | 0 => Nat.le_refl _
  | m + 1 => by
    have := freeN_bound hd m
    rw [freeN]
    split <;> omega

theorem own_oneN (w : World) (B : Nat) (a : Nat) (hb : B ≤ w.heap.size) : Own (w.alloc (.cells #[.int .i64 (a : Int)] 3)) B (sl w.heap.size 1 1) (ti [a]) :=
  ⟨rfl, .inr ⟨w.heap.size, 1, #[.int .i64 (a : Int)], rfl, hb, heap_alloc_new _ _, Nat.le_refl _, by decide, rfl, rfl⟩⟩

set_option maxRecDepth 100000 in
set_option maxHeartbeats 3200000 in
theorem firstCircle_impl (vg : Value) (g : List (List Int)) (hd1 : vDebts g = true) (w : World) (hg : IsGrid w vg g) :
    Calls Try.prog 72 #[vg] w fun e w' => ∃ v', e = .returned v' ∧ CircV w' v' (fcF g) ∧ Below w.heap.size w w' := by
  have HC := Lib.hid (fun a => circleFrom_impl vg g hd1 w hg 100 [a])
  have hn := ((vDebts_iff g).1 hd1).1
  have HG := Lib.hid hg
  obtain ⟨a, cap, rfl, _⟩ := id hg
  have q28 : ∀ (w : World) (a : Option Addr) (n c : Nat), (binOp .neq 28 (.slice a n c) (.slice none 0 0)).run Try.prog w = .ok (.bool (!a.isNone)) w := fun w a n c => run_neq_slice_nil w _ _ a n c Try.underlying28
  clear hg
  go_enter Try.func72, Try.ntmps72
  go_wp2
  go_loopw [7] (fun s wr => ∃ i : Nat, i ≤ g.length ∧ s = .int .i64 i ∧ fcS g (g.length - i) i = fcF g ∧ Below w.heap.size w wr) (fun s _ => g.length - (intOf s).toNat)
  case atStart => exact ⟨0, Nat.zero_le _, rfl, rfl, Below.refl _ _⟩
  case round =>
    obtain ⟨i, hi, rfl, hfc, hbl⟩ := hrel
    rename World => wr
    have HF := Lib.hid hfc
    clear hfc
    by_cases hlt : i < g.length
    · have i1 : (i : Int) < (g.length : Int) := by omega
      have hb2 : Below w.heap.size w (wr.alloc (.cells #[.int .i64 (i : Int)] 3)) := hbl.alloc hbl.size _
      have hfr := freeN_bound [i] g.length
      have hcc := HC.out i wr.heap.size 1 (wr.alloc (.cells #[.int .i64 (i : Int)] 3)) (by omega) (by simp) (by simp; omega) (fun j hj => by simp at hj; subst hj; simpa using hlt) hb2 (own_oneN wr _ i hbl.size)
      have HCC := Lib.hid hcc
      have hsz := hbl.size
      clear hcc hfr
      cases hcf : circF g 100 [i] with
      | none =>
        have HN : Hid (fcS g (g.length - (i + 1)) (i + 1) = fcF g) := by
          show _ = _
          rw [← HF.out, show g.length - i = (g.length - (i + 1)) + 1 by omega, fcS_skip _ _ hcf]
        have h := HCC.out
        rw [hcf] at h
        have HI2 := Lib.hid h
        clear h hcf
        go_wp2_with fail
        refine HI2.out.mono ?_
        rintro e w5 ⟨v5, rfl, hv5, _, gr5⟩
        have hv5' : v5 = .slice none 0 0 := hv5
        subst hv5'
        have hb5 : Below w.heap.size w w5 := hb2.trans (below_grown gr5 hb2.size (fun k hk => by cases hk; exact hsz))
        clear hv5 gr5
        go_wp2
        go_roundw
        case rel => exact ⟨i + 1, by omega, by go_num, HN.out, hb5⟩
        case measure => simp [intOf]; omega
      | some t =>
        have HN : Hid (fcF g = some t) := by
          show _ = _
          rw [← HF.out, show g.length - i = (g.length - (i + 1)) + 1 by omega, fcS_take _ _ hcf]
        have h := HCC.out
        rw [hcf] at h
        have HI2 := Lib.hid h
        clear h hcf
        go_wp2_with fail
        refine HI2.out.mono ?_
        rintro e w5 ⟨v5, rfl, hv5, _, gr5⟩
        obtain ⟨hi5, ht5⟩ : IsInts w5 v5 (ti t) ∧ 0 < t.length := hv5
        have HI5 := Lib.hid hi5
        obtain ⟨a5, c5, rfl, hc5⟩ := hi5
        obtain ⟨b5, f5, rfl, _⟩ := hc5 0 (by rw [ti_length]; exact ht5)
        have hb5 : Below w.heap.size w w5 := hb2.trans (below_grown gr5 hb2.size (fun k hk => by cases hk; exact hsz))
        clear gr5 hc5
        go_wp2
        go_ret
        exact ⟨_, rfl, by rw [HN.out]; exact ⟨HI5.out, ht5⟩, hb5⟩
    · have hie : i = g.length := by omega
      subst hie
      have HN : Hid (fcF g = none) := by show _ = _; rw [← HF.out, Nat.sub_self]; rfl
      go_wp2
      go_ret
      exact ⟨_, rfl, by rw [HN.out]; rfl, hbl⟩

end Go.Proofs.Ytbedjebnllimpaa
