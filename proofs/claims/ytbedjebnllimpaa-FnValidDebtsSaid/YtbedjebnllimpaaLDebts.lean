/- The laws FnValidDebts and FnBalancesOf: the walks, out of contracts of the program's functions that are handed in. -/
import Derived.Test.YtbedjebnllimpaaOwnH
import Derived.Test.YtbedjebnllimpaaDebtBS
import Derived.Test.YtbedjebnllimpaaDebtDD
import Derived.Test.YtbedjebnllimpaaTotC
import Derived.IntWalk
namespace Go.Proofs.Ytbedjebnllimpaa
open Go.RowKit

def DebtsC : Prop := ∀ (v : Value) (g : List (List Int)) (w : World), IsGrid w v g → g.length ≤ 9223372036854775807 → (∀ i, i < g.length → (rowOf g i).length ≤ 9223372036854775807) → FitsG g → Calls Try.prog 20 #[v] w fun e w' => e = .returned (.bool (vDebts g)) ∧ Below w.heap.size w w'
def BalancesC : Prop := ∀ (v : Value) (g : List (List Int)) (w : World), IsGrid w v g → g.length ≤ 9223372036854775807 → (∀ i, i < g.length → (rowOf g i).length ≤ 9223372036854775807) → FitsG g → Calls Try.prog 24 #[v] w fun e w' => ∃ v', e = .returned v' ∧ IsInts w' v' (balancesL g) ∧ Below w.heap.size w w'

theorem debts_rect {g : List (List Int)} (h : vDebts g = true) : Rect g g.length g.length := ⟨rfl, fun i hi => (((vDebts_iff g).1 h).2 i hi).1⟩

theorem debts_turn {g : List (List Int)} (h : vDebts g = true) : vDebts (turnL g) = true := by
  have hr := debts_rect h
  obtain ⟨h1, h2⟩ := (vDebts_iff g).1 h
  have hn : 0 < g.length := by omega
  have ht := hr.turn hn
  refine (vDebts_iff _).2 ⟨by rw [ht.1]; exact h1, fun k hk => ?_⟩
  rw [ht.1] at hk ⊢
  refine ⟨ht.2 k hk, by rw [hr.cell hn hk hk]; exact (h2 k hk).2.1, fun i hi => ?_⟩
  rw [hr.cell hn hi hk]
  exact (h2 i hi).2.2 k hk

theorem debts_turn_fits {g : List (List Int)} (h : vDebts g = true) : FitsG (turnL g) ∧ (turnL g).length ≤ 9223372036854775807 ∧ ∀ i, i < (turnL g).length → (rowOf (turnL g) i).length ≤ 9223372036854775807 := by
  obtain ⟨h1, h2⟩ := (vDebts_iff _).1 (debts_turn h)
  refine ⟨fun i k hi hk => ?_, by omega, fun i hi => by rw [(h2 i hi).1]; omega⟩
  rw [(h2 i hi).1] at hk
  have := (h2 i hi).2.2 k hk
  omega

theorem bal_turn {g : List (List Int)} (h : vDebts g = true) {k : Nat} (hk : k < g.length) : (balL (turnL g)).getD k 0 = -(balL g).getD k 0 := by
  have hr := debts_rect h
  have hn : 0 < g.length := by omega
  have ht := hr.turn hn
  rw [balL_at g k hk, balL_at (turnL g) k (by rw [ht.1]; exact hk), ht.1]
  have e1 : sumN (fun x => cellOf (turnL g) x k) g.length = sumN (cellOf g k) g.length := sumN_congr _ fun i hi => hr.cell hn hk hi
  have e2 : sumN (cellOf (turnL g) k) g.length = sumN (fun x => cellOf g x k) g.length := sumN_congr _ fun i hi => hr.cell hn hi hk
  rw [e1, e2]
  omega

theorem bal_tot (g : List (List Int)) : tot (balL g) = 0 := by
  unfold balL
  rw [tot_range (fun k => sumN (fun x => cellOf g x k) g.length - sumN (cellOf g k) g.length), sumN_sub]
  have := sumN_swap (fun i k => cellOf g i k) g.length g.length
  have e : sumN (fun k => sumN (cellOf g k) g.length) g.length = sumN (fun i => sumN (fun k => cellOf g i k) g.length) g.length := rfl
  rw [e, this]
  omega

set_option maxRecDepth 100000 in
set_option maxHeartbeats 1600000 in
theorem FnValidDebts_of (DI : DebtsC) (a : Option Addr) (n cap : Nat) (w : World) (h : IsBytes w a n) (hc : n ≤ cap) :
    Calls Try.prog 3 #[.slice a n cap] w fun e w' => e = .returned (.bool true) ∧ Below w.heap.size w w' := by
  by_cases hbig : (1048576 : Int) < (n : Int)
  · clear DI
    go_enter Try.func3, Try.ntmps3
    go_wp2
    go_ret
    exact ⟨rfl, Below.refl _ _⟩
  · have HDI := Lib.hid DI
    clear DI
    go_enter Try.func3, Try.ntmps3
    go_wp2_with fail
    refine (DrawValidDebts_any a n cap w h hc).mono ?_
    rintro e w1 ⟨v, g, rfl, g1, r67, b1⟩
    have hsz := sized_rows r67.sized
    have hft := r67.fits
    go_wp2_with fail
    refine (HDI.out v g _ g1 hsz.1 hsz.2 hft).mono ?_
    rintro e w2 ⟨rfl, hb2⟩
    have b2 : Below w.heap.size w w2 := b1.trans (hb2.mono b1.size)
    have g2 := g1.below hb2
    clear g1 hb2
    go_wp2_with fail
    refine (ValidDebts_spec v g _ g2 hsz.1 hsz.2).mono ?_
    rintro e w' ⟨rfl, rfl⟩
    cases hv : vDebts g
    · have HS := Lib.hid (ValidDebts_spec v g w2 g2 hsz.1 hsz.2)
      rw [hv] at HS
      go_wp2_with fail
      refine HS.out.mono ?_
      rintro e w' ⟨rfl, rfl⟩
      go_wp2
      go_ret
      exact ⟨rfl, b2⟩
    · have hr := debts_rect hv
      have hn := ((vDebts_iff g).1 hv).1
      have HT := Lib.hid (debts_turn hv)
      have HTF := Lib.hid (debts_turn_fits hv)
      have HTU := Lib.hid (turned_any v g g.length g.length w2 g2 hr (by omega) (by omega) (by omega))
      obtain ⟨av, cv, rfl, _⟩ := g2
      clear hr
      go_wp2_with fail
      refine HTU.out.mono ?_
      rintro e w3 ⟨t, rfl, t3, hb3⟩
      have b3 : Below w.heap.size w w3 := b2.trans (hb3.mono b2.size)
      go_wp2_with fail
      refine (HDI.out t (turnL g) _ t3 HTF.out.2.1 HTF.out.2.2 HTF.out.1).mono ?_
      rintro e w4 ⟨rfl, hb4⟩
      rw [HT.out]
      have b4 : Below w.heap.size w w4 := b3.trans (hb4.mono b3.size)
      go_wp2
      go_ret
      exact ⟨rfl, b4⟩

set_option maxRecDepth 100000 in
set_option maxHeartbeats 1600000 in
theorem FnBalancesOf_of (BI : BalancesC) (a : Option Addr) (n cap : Nat) (w : World) (h : IsBytes w a n) (hc : n ≤ cap) :
    Calls Try.prog 4 #[.slice a n cap] w fun e w' => e = .returned (.bool true) ∧ Below w.heap.size w w' := by
  by_cases hbig : (1048576 : Int) < (n : Int)
  · clear BI
    go_enter Try.func4, Try.ntmps4
    go_wp2
    go_ret
    exact ⟨rfl, Below.refl _ _⟩
  · have HBI := Lib.hid BI
    clear BI
    go_enter Try.func4, Try.ntmps4
    go_wp2_with fail
    refine (DrawBalancesOf_any a n cap w h hc).mono ?_
    rintro e w1 ⟨v, g, rfl, g1, r67, b1⟩
    have hsz := sized_rows r67.sized
    have hft := r67.fits
    have hbl : (balancesL g).length ≤ 9223372036854775807 := by
      unfold balancesL
      split
      · rw [balL_len]; exact hsz.1
      · exact Nat.zero_le _
    go_wp2_with fail
    refine (HBI.out v g _ g1 hsz.1 hsz.2 hft).mono ?_
    rintro e w2 ⟨z, rfl, z2, hb2⟩
    have b2 : Below w.heap.size w w2 := b1.trans (hb2.mono b1.size)
    have g2 := g1.below hb2
    clear g1 hb2
    go_wp2_with fail
    refine (BalancesOf_spec v g _ g2 hsz.1 hsz.2).mono ?_
    rintro e w3 ⟨y, rfl, y3, hb3⟩
    have b3 : Below w.heap.size w w3 := b2.trans (hb3.mono b2.size)
    have g3 := g2.below hb3
    have z3 := z2.below hb3
    clear g2 z2 hb3
    have hlz := z3
    obtain ⟨az, cz, rfl, _⟩ := hlz
    go_wp2_with fail
    refine (equalInts_any _ _ _ _ _ z3 y3.ints hbl).mono ?_
    rw [decide_eq_true rfl]
    rintro e w4 ⟨rfl, hb4⟩
    have b4 : Below w.heap.size w w4 := b3.trans (hb4.mono b3.size)
    have g4 := g3.below hb4
    have z4 := z3.below hb4
    clear g3 z3 y3 hb4
    cases hv : vDebts g
    · have e0 : balancesL g = [] := by rw [balancesL, hv]; rfl
      have hz0 : (((balancesL g).length : Int) == 0) = true := by rw [e0]; rfl
      clear e0
      go_wp2_with fail
      refine (BalancesOf_spec v g _ g4 hsz.1 hsz.2).mono ?_
      rintro e w5 ⟨y5, rfl, o5, hb5⟩
      have b5 : Below w.heap.size w w5 := b4.trans (hb5.mono b4.size)
      go_wp2_with fail
      refine (equalInts_any _ _ _ _ _ (z4.below hb5) o5.ints hbl).mono ?_
      rw [decide_eq_true rfl]
      rintro e w6 ⟨rfl, hb6⟩
      have b6 : Below w.heap.size w w6 := b5.trans (hb6.mono b5.size)
      go_wp2
      go_ret
      exact ⟨rfl, b6⟩
    · have e0 : balancesL g = balL g := by rw [balancesL, if_pos hv]
      rw [e0] at z4 ⊢
      have hr := debts_rect hv
      have hn := ((vDebts_iff g).1 hv).1
      have HT := Lib.hid (debts_turn hv)
      have HTF := Lib.hid (debts_turn_fits hv)
      have HTU := Lib.hid (turned_any v g g.length g.length w4 g4 hr (by omega) (by omega) (by omega))
      have HBT : Hid (∀ k, k < g.length → (balL (turnL g)).getD k 0 = -(balL g).getD k 0) := fun k hk => bal_turn hv hk
      have HTL : Hid ((turnL g).length = g.length) := (hr.turn (by omega)).1
      have HBB : Hid (∀ k, k < g.length → -1000 ≤ (balL g).getD k 0 ∧ (balL g).getD k 0 ≤ 1000) := fun k hk => by
        have hb := balP_bounds hv (a := g.length - 1) (b := g.length) (by omega) (Nat.le_refl _) hk
        have e : balP g (g.length - 1) g.length = balL g := by
          rw [balP_row, show g.length - 1 + 1 = g.length by omega, balP_full]
        rw [e] at hb; exact hb
      have hzn : (((balL g).length : Int) == 0) = false := by rw [balL_len]; exact beq_eq_false_iff_ne.2 (by omega)
      rw [balL_len] at hzn ⊢
      have Z4 := Lib.hid z4
      clear hr e0 z4
      obtain ⟨av, cv, rfl, _⟩ := g4
      go_wp2_with fail
      refine HTU.out.mono ?_
      rintro e w5 ⟨t, rfl, t5, hb5⟩
      have b5 : Below w.heap.size w w5 := b4.trans (hb5.mono b4.size)
      have z5 := Z4.out.below hb5
      go_wp2_with fail
      refine (HBI.out t (turnL g) _ t5 HTF.out.2.1 HTF.out.2.2 HTF.out.1).mono ?_
      rintro e w6 ⟨u, rfl, u6, hb6⟩
      have b6 : Below w.heap.size w w6 := b5.trans (hb6.mono b5.size)
      have z6 := z5.below hb6
      have eT : balancesL (turnL g) = balL (turnL g) := by rw [balancesL, if_pos HT.out]
      rw [eT] at u6
      have Z6 := Lib.hid z6
      have U6 := Lib.hid u6
      obtain ⟨au, cu, rfl, _⟩ := u6
      have hlu : (balL (turnL g)).length = g.length := by rw [balL_len]; exact HTL.out
      rw [hlu]
      have HTOT := Lib.hid (bal_tot g)
      have HSF : Hid (SumFits (balL g)) := sumFits_abs (balL g) 1000 (fun x hx => by
        obtain ⟨j, hj, rfl⟩ := mem_getD hx
        exact HBB.out j (by rw [balL_len] at hj; exact hj)) (by decide) (by rw [balL_len]; omega)
      have hgi : g.length ≤ 6 := hn.2
      clear z5 z6 Z4 t5 hb5 hb6 eT hlu
      go_wp2
      go_loopw [6] (fun s wr => ∃ i : Nat, i ≤ g.length ∧ s = .int .i64 i ∧ Below w6.heap.size w6 wr) (fun s _ => g.length - (intOf s).toNat)
      case atStart => exact ⟨0, Nat.zero_le _, rfl, Below.refl _ _⟩
      case round =>
        obtain ⟨i, hi, rfl, hbw⟩ := hrel
        rename World => wo
        have zi := Z6.out.below hbw
        have ui := U6.out.below hbw
        by_cases hlt : i < g.length
        · obtain ⟨a1, c1, e1, hc1⟩ := zi
          rw [balL_len] at e1 hc1
          simp only [Value.slice.injEq, true_and] at e1
          obtain ⟨rfl, rfl⟩ := e1
          obtain ⟨a2, c2, e2, hc2⟩ := ui
          rw [balL_len, HTL.out] at e2 hc2
          simp only [Value.slice.injEq, true_and] at e2
          obtain ⟨rfl, rfl⟩ := e2
          obtain ⟨bz, fz, rfl, k1⟩ := hc1 i hlt
          obtain ⟨bu, fu, rfl, k2⟩ := hc2 i hlt
          rw [HBT.out i hlt] at k2
          have hb := HBB.out i hlt
          have i1 : (i : Int) < (g.length : Int) := by omega
          clear hc1 hc2
          generalize (balL g).getD i 0 = x at *
          have hne : ((-x) != (-x)) = false := by simp
          have wneg : IntKind.i64.wrap (-x) = -x := IntWalk.i64_in _ (by omega)
          go_wp2
          go_quiet (fail)
          clear wneg
          go_wp2
          go_roundw
          case rel => exact ⟨i + 1, by omega, by go_num, below_drewN hbw _⟩
          case measure => simp [intOf]; omega
        · have bo : Below w.heap.size w wo := b6.trans (hbw.mono b6.size)
          have HT2 := Lib.hid (total_any _ (balL g) wo zi (by rw [balL_len]; omega) HSF.out)
          have HT3 := HT2.out
          rw [HTOT.out, balL_len] at HT3
          have HT4 := Lib.hid HT3
          clear zi ui HT3 HT2
          go_wp2_with fail
          refine HT4.out.mono ?_
          rintro e w' ⟨rfl, rfl⟩
          go_wp2
          go_ret
          exact ⟨rfl, bo⟩

end Go.Proofs.Ytbedjebnllimpaa
