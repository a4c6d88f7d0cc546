/- Balances of debts, in the model: the walks. -/
import Derived.Test.YtbedjebnllimpaaDebtB
namespace Go.Proofs.Ytbedjebnllimpaa
open Go.RowKit

theorem drewN_zero (w : World) : w.drewN 0 = w := rfl
theorem grown_drew1 {w w' : World} {row : Option Nat} (h : w.grownBy w' row) : w.grownBy w'.drew row := ⟨h.os, h.tape, h.output, h.size, h.block⟩

set_option maxRecDepth 100000 in
set_option maxHeartbeats 3200000 in
theorem balances_spec (v : Value) (g : List (List Int)) (w : World) (hv : IsGrid w v g) (hd : vDebts g = true) :
    Calls Try.prog 70 #[v] w fun e w' => ∃ v', e = .returned v' ∧ Own w' w.heap.size v' (balL g) ∧ Below w.heap.size w w' := by
  obtain ⟨hn, hrow⟩ := (vDebts_iff g).1 hd
  have HV := Lib.hid hv
  obtain ⟨a, cap, rfl, _⟩ := id hv
  have HB : Hid (∀ a b k, a < g.length → b ≤ g.length → k < g.length → -1000 ≤ (balP g a b).getD k 0 ∧ (balP g a b).getD k 0 ≤ 1000) := fun a b k ha hb hk => balP_bounds hd ha hb hk
  have HC : Hid (∀ a b, a < g.length → b < g.length → 0 ≤ cellOf g a b ∧ cellOf g a b ≤ 50) := fun a b ha hb => (hrow a ha).2.2 b hb
  have HL : Hid (∀ a, a < g.length → (rowOf g a).length = g.length) := fun a ha => (hrow a ha).1
  have n6 : g.length ≤ 6 := hn.2
  have n1 : 1 ≤ g.length := hn.1
  clear hv hd hrow hn
  obtain ⟨i0, hi, hz0, hz1, hz2⟩ := info_parts infoInt
  go_enter Try.func70, Try.ntmps70
  go_wp2_with (at_make; refine wpList_make_full _ rfl _ _ 28 rfl w.heap.size 3 i0 (.int .i64 0) 1 Try.underlying28 hi hz0 hz1 _ _ _ _ g.length rfl rfl rfl rfl ?b2 ?b3 (Nat.le_refl _) ?_)
  case b2 => rw [hz2]; omega
  case b3 => unfold maxLen; omega
  intro w0 hown0 hgrow0
  have hb0 : Below w.heap.size w w0 := below_grown hgrow0 (Nat.le_refl _) (fun k h => by cases h)
  have hw0 : Own w0 w.heap.size (sl w.heap.size g.length g.length) (balP g 0 0) := by
    rw [balP_zero]; exact own_made hown0
  clear hown0 hgrow0
  go_wp2
  go_loopw [4, 5] (fun s _ wr => ∃ i : Nat, i ≤ g.length ∧ s = .int .i64 i ∧ Own wr w.heap.size (sl w.heap.size g.length g.length) (balP g i 0) ∧ Below w.heap.size w wr) (fun s _ _ => g.length - (intOf s).toNat)
  case atStart => exact ⟨0, Nat.zero_le _, rfl, hw0, hb0⟩
  case round =>
    obtain ⟨i, hi, rfl, hown, hbl⟩ := hrel
    rename World => wo
    clear hw0 hb0
    by_cases hlt : i < g.length
    · have i1 : (i : Int) < (g.length : Int) := by omega
      go_wp2
      go_loopw [5] (fun s wx => ∃ k : Nat, k ≤ g.length ∧ s = .int .i64 k ∧ Own wx w.heap.size (sl w.heap.size g.length g.length) (balP g i k) ∧ Below w.heap.size w wx) (fun s _ => g.length - (intOf s).toNat)
      case atStart => exact ⟨0, Nat.zero_le _, rfl, hown, hbl⟩
      case round =>
        clear hown hbl
        obtain ⟨k, hk, rfl, hown, hbl⟩ := hrel
        rename World => wi
        by_cases hlk : k < g.length
        · have k1 : (k : Int) < (g.length : Int) := by omega
          obtain ⟨b, off, ar, cr, rfl, ci, cc⟩ := (HV.out.below hbl).row i hlt
          have hrl := HL.out i hlt
          obtain ⟨br, fr, rfl, ck⟩ := cc k (by omega)
          have k2 : (k : Int) < ((rowOf g i).length : Int) := by omega
          have hcb := HC.out i k hlt hlk
          have hbi := HB.out i k i hlt (Nat.le_of_lt hlk) hlt
          have hbw : b < w.heap.size := by
            obtain ⟨b', o', _, _, e', c', _⟩ := HV.out.row i hlt
            simp only [Option.some.injEq, Addr.mk.injEq, and_true] at e'
            obtain ⟨rfl, rfl⟩ := e'
            exact World.block_lt_of_cell? w _ c'
          have hST := balP_step g i k hlt hlk
          have hlen := balP_len g i k
          generalize cellOf g i k = c at ck hcb hST
          have hbr : br < w.heap.size := by
            obtain ⟨b', o', ar', _, e', c', r'⟩ := HV.out.row i hlt
            obtain ⟨br', fr', e2, ck'⟩ := r' k (by omega)
            simp only [Option.some.injEq, Addr.mk.injEq, and_true] at e'
            obtain ⟨rfl, rfl⟩ := e'
            have cw := (hbl.cell (p := ⟨b, off + i, none⟩) hbw).trans c'
            rw [ci] at cw
            simp only [Option.some.injEq, Value.slice.injEq, true_and] at cw
            rw [← cw.1] at e2
            simp only [Option.some.injEq, Addr.mk.injEq, and_true] at e2
            rw [e2.1]
            exact World.block_lt_of_cell? w _ ck'
          have c1 := hown.cell hlen i hlt
          have f1 := hown.frozen hlen i
          have s1 := hown.set hlen i ((balP g i k).getD i 0 - c)
          have hb2 : -1100 ≤ ((balP g i k).set i ((balP g i k).getD i 0 - c)).getD k 0 ∧ ((balP g i k).set i ((balP g i k).getD i 0 - c)).getD k 0 ≤ 1100 := by
            rw [getD_set_int _ i k _ (by rw [hlen]; exact hlk)]
            have := HB.out i k k hlt (Nat.le_of_lt hlk) hlk
            split <;> omega
          have o1 := (s1.1).kept (grown_drew1 (World.grownBy.refl _ none)) (.inr (by simp [Value.ownBlock]))
          have b1 : Below w.heap.size w (wi.setCell ⟨w.heap.size, i, none⟩ (.int .i64 ((balP g i k).getD i 0 - c))).drew := (hbl.setCell (by exact Nat.le_refl _) _).drew
          have ci1 := (b1.cell (p := ⟨b, off + i, none⟩) hbw).trans ((hbl.cell (p := ⟨b, off + i, none⟩) hbw).symm.trans ci)
          have ck1 := (b1.cell (p := ⟨br, fr + k, none⟩) hbr).trans ((hbl.cell (p := ⟨br, fr + k, none⟩) hbr).symm.trans ck)
          have l1 : ((balP g i k).set i ((balP g i k).getD i 0 - c)).length = g.length := by simp [hlen]
          have c2 := o1.cell l1 k hlk
          have f2 := o1.frozen l1 k
          have s2 := o1.set l1 k (((balP g i k).set i ((balP g i k).getD i 0 - c)).getD k 0 + c)
          rw [hST] at s2
          generalize ((balP g i k).set i ((balP g i k).getD i 0 - c)).getD k 0 = y at *
          generalize (balP g i k).getD i 0 = x at *
          have S2 := Lib.hid s2
          have HRL := Lib.hid hrl
          have B1 := Lib.hid b1
          have CI1 := Lib.hid ci1
          have CK1 := Lib.hid ck1
          have C2 := Lib.hid c2
          have F2 := Lib.hid f2
          clear cc hST hlen s1 s2 hown hrl o1 b1 ci1 ck1 c2 f2
          go_wp2
          go_region
          have b1 := B1.out
          have ci1 := CI1.out
          have ck1 := CK1.out
          have c2 := C2.out
          have f2 := F2.out
          generalize (wi.setCell ⟨w.heap.size, i, none⟩ (.int .i64 (x - c))).drew = w1 at *
          clear ci ck c1 f1 B1 CI1 CK1 C2 F2
          go_wp2
          go_region
          have b2 : Below w.heap.size w (w1.setCell ⟨w.heap.size, k, none⟩ (.int .i64 (y + c))).drew := (b1.setCell (by exact Nat.le_refl _) _).drew
          have o2 := S2.out.1.kept (grown_drew1 (World.grownBy.refl _ none)) (.inr (by simp [Value.ownBlock]))
          have O2 := Lib.hid o2
          clear o2 S2
          go_wp2
          go_roundw
          case rel => exact ⟨k + 1, by omega, by go_num, O2.out, b2⟩
          case measure => simp [intOf]; omega
        · have hke : k = g.length := by omega
          subst hke
          rw [balP_row] at hown
          go_wp2
          go_roundw
          case rel => exact ⟨i + 1, by omega, by go_num, hown, hbl⟩
          case measure => simp [intOf]; omega
    · have hie : i = g.length := by omega
      subst hie
      rw [balP_full] at hown
      go_wp2
      go_ret
      exact ⟨_, rfl, hown, hbl⟩

/-- What BalancesOf answers. -/
def balancesL (g : List (List Int)) : List Int := if vDebts g = true then balL g else []

set_option maxHeartbeats 800000 in
theorem BalancesOf_spec (v : Value) (g : List (List Int)) (w : World) (hv : IsGrid w v g) (hl : g.length ≤ 9223372036854775807) (hr : ∀ i, i < g.length → (rowOf g i).length ≤ 9223372036854775807) :
    Calls Try.prog 26 #[v] w fun e w' => ∃ v', e = .returned v' ∧ Own w' w.heap.size v' (balancesL g) ∧ Below w.heap.size w w' := by
  have H := Lib.hid (validDebts_spec v g w hv hl hr)
  cases hd : vDebts g
  · have E : Hid (balancesL g = []) := by show balancesL g = []; rw [balancesL, hd]; rfl
    have h := H.out
    rw [hd] at h
    have H2 := Lib.hid h
    obtain ⟨a, cap, rfl, _⟩ := hv
    clear h hd
    go_enter Try.func26, Try.ntmps26
    go_wp2_with fail
    refine H2.out.mono ?_
    rintro e w' ⟨rfl, rfl⟩
    go_wp2
    go_ret
    exact ⟨_, rfl, by rw [E.out]; exact ⟨rfl, .inl ⟨rfl, rfl⟩⟩, Below.refl _ _⟩
  · have E : Hid (balancesL g = balL g) := by show balancesL g = balL g; rw [balancesL, if_pos hd]
    have h := H.out
    rw [hd] at h
    have H2 := Lib.hid h
    have HB := Lib.hid (balances_spec v g w hv hd)
    obtain ⟨a, cap, rfl, _⟩ := hv
    clear h hd
    go_enter Try.func26, Try.ntmps26
    go_wp2_with fail
    refine H2.out.mono ?_
    rintro e w' ⟨rfl, rfl⟩
    go_wp2_with fail
    refine HB.out.mono ?_
    rintro e w' ⟨v', rfl, ho, hb⟩
    have HO := Lib.hid ho
    clear ho
    go_wp2
    go_ret
    exact ⟨_, rfl, by rw [E.out]; exact HO.out, hb⟩

end Go.Proofs.Ytbedjebnllimpaa
