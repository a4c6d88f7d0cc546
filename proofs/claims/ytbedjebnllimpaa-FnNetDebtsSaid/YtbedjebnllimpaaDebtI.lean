/- Debts of friends and balances of debts, in the program. -/
import Derived.Test.YtbedjebnllimpaaSettle
import Derived.Test.YtbedjebnllimpaaPI
import Derived.StillTailTactics
namespace Go.Proofs.Ytbedjebnllimpaa
open Go.RowKit

theorem rowD_no_any {g : List (List Int)} {a : Nat} (hl : (rowOf g a).length = g.length) (h : allR (rowOf g a) 0 50 = false) : rowD g a = false := by
  unfold allR at h
  rw [List.all_eq_false] at h
  obtain ⟨x, hx, hx2⟩ := h
  obtain ⟨b, hb, rfl⟩ := List.getElem_of_mem hx
  refine rowD_no (b := b) (by omega) ?_
  have e : cellOf g a b = (rowOf g a)[b] := by unfold cellOf; simp [List.getD, hb]
  rw [e]
  simpa using hx2

theorem rowD_yes_all {g : List (List Int)} {a : Nat} (hl : (rowOf g a).length = g.length) (hz : cellOf g a a = 0) (h : allR (rowOf g a) 0 50 = true) : rowD g a = true := by
  refine rowD_yes hl hz fun b hb => ?_
  have hb' : b < (rowOf g a).length := by omega
  have e : cellOf g a b = (rowOf g a)[b] := by unfold cellOf; simp [List.getD, hb']
  rw [e]
  exact List.all_eq_true.1 h _ (List.getElem_mem hb')

set_option maxRecDepth 100000 in
set_option maxHeartbeats 3200000 in
theorem ValidDebts_impl (v : Value) (g : List (List Int)) (w : World) (hv : IsGrid w v g) (hl : g.length ≤ 9223372036854775807) (hr : ∀ i, i < g.length → (rowOf g i).length ≤ 9223372036854775807) :
    Calls Try.prog 20 #[v] w fun e w' => e = .returned (.bool (vDebts g)) ∧ w = w' := by
  obtain ⟨a, cap, rfl, _⟩ := id hv
  cases h6 : inR g.length 1 6
  · have E : Hid (vDebts g = false) := by show _ = _; rw [vDebts, h6, Bool.and_false]
    go_enter Try.func20, Try.ntmps20
    go_wp2_with (go_at_call 66; refine (inRange_impl _ _ _ _).mono ?_; rintro e w' ⟨rfl, rfl⟩)
    go_ret
    exact ⟨ret_bool E.out.symm, rfl⟩
  · have h6b := inR_true h6
    go_enter Try.func20, Try.ntmps20
    go_wp2_with (go_at_call 66; refine (inRange_impl _ _ _ _).mono ?_; rintro e w' ⟨rfl, rfl⟩)
    go_loop [11] (fun s => ∃ i : Nat, i ≤ g.length ∧ s = .int .i64 i ∧ (∀ j, j < i → rowD g j = true)) (fun s => g.length - (intOf s).toNat)
    case atStart => exact ⟨0, Nat.zero_le _, rfl, fun j hj => absurd hj (Nat.not_lt_zero _)⟩
    case round =>
      obtain ⟨i, hi, rfl, hok⟩ := hrel
      have HOK := Lib.hid hok
      clear hok
      by_cases hlt : i < g.length
      · obtain ⟨b, off, ar, cr, rfl, ci, cc⟩ := hv.row i hlt
        have hli := hr i hlt
        have i1 : (i : Int) < (g.length : Int) := by omega
        have hrow : IsInts w (.slice ar (rowOf g i).length cr) (rowOf g i) := ⟨ar, cr, rfl, cc⟩
        have HA := Lib.hid (allInRange_impl _ _ 0 50 w hrow hli)
        have HCC := Lib.hid cc
        clear cc hrow
        by_cases hsame : (rowOf g i).length = g.length
        · have hne : (((rowOf g i).length : Int) != (g.length : Int)) = false := by simp; omega
          have k1 : (i : Int) < ((rowOf g i).length : Int) := by omega
          obtain ⟨br, fr, rfl, ck⟩ := HCC.out i (by omega)
          have HSM := Lib.hid hsame
          clear hsame
          cases hall : allR (rowOf g i) 0 50
          · have HF : Hid (vDebts g = false) := vDebts_no hlt (rowD_no_any HSM.out hall)
            have h := HA.out
            rw [hall] at h
            have HA2 := Lib.hid h
            clear h hall
            go_wp2_with (go_at_call 67; refine HA2.out.mono ?_; rintro e w' ⟨rfl, rfl⟩)
            go_ret
            exact ⟨ret_bool HF.out.symm, rfl⟩
          · have HAL := Lib.hid hall
            have h := HA.out
            rw [hall] at h
            have HA2 := Lib.hid h
            clear h hall
            by_cases hz : cellOf g i i = 0
            · have hz1 : (cellOf g i i != 0) = false := by simp [hz]
              have HR : Hid (rowD g i = true) := rowD_yes_all HSM.out hz HAL.out
              clear hz
              go_wp2_with (go_at_call 67; refine HA2.out.mono ?_; rintro e w' ⟨rfl, rfl⟩)
              go_round
              case rel =>
                refine ⟨i + 1, by omega, by go_num, fun j hj => ?_⟩
                by_cases hji : j = i
                · subst hji; exact HR.out
                · exact HOK.out j (by omega)
              case measure => simp [intOf]; omega
            · have hz1 : (cellOf g i i != 0) = true := by simp [hz]
              have HF : Hid (vDebts g = false) := vDebts_no hlt (by unfold rowD; rw [decide_eq_false hz]; simp)
              clear hz
              go_wp2_with (go_at_call 67; refine HA2.out.mono ?_; rintro e w' ⟨rfl, rfl⟩)
              go_ret
              exact ⟨ret_bool HF.out.symm, rfl⟩
        · have hne : (((rowOf g i).length : Int) != (g.length : Int)) = true := by simp; omega
          have HF : Hid (vDebts g = false) := vDebts_no hlt (by unfold rowD; rw [decide_eq_false hsame]; simp)
          clear hsame
          go_wp2_with fail
          go_ret
          exact ⟨ret_bool HF.out.symm, rfl⟩
      · have HV : Hid (vDebts g = true) := by show _ = _; rw [vDebts_all (fun j hj => HOK.out j (by omega)), h6]
        go_wp2
        go_ret
        exact ⟨ret_bool HV.out.symm, rfl⟩

set_option maxRecDepth 100000 in
set_option maxHeartbeats 3200000 in
theorem BalancesOf_impl (v : Value) (g : List (List Int)) (w : World) (hv : IsGrid w v g) (hl : g.length ≤ 9223372036854775807) (hr : ∀ i, i < g.length → (rowOf g i).length ≤ 9223372036854775807) :
    Calls Try.prog 24 #[v] w fun e w' => ∃ v', e = .returned v' ∧ Own w' w.heap.size v' (balancesL g) ∧ Below w.heap.size w w' := by
  have H := Lib.hid (ValidDebts_impl v g w hv hl hr)
  cases hd : vDebts g
  · have E : Hid (balancesL g = []) := by show balancesL g = []; rw [balancesL, hd]; rfl
    have h := H.out
    rw [hd] at h
    have H2 := Lib.hid h
    obtain ⟨a, cap, rfl, _⟩ := hv
    clear h hd
    go_enter Try.func24, Try.ntmps24
    go_wp2_with fail
    refine H2.out.mono ?_
    rintro e w' ⟨rfl, rfl⟩
    go_wp2
    go_ret
    exact ⟨_, rfl, by rw [E.out]; exact ⟨rfl, .inl ⟨rfl, rfl⟩⟩, Below.refl _ _⟩
  · have E : Hid (balancesL g = balL g) := by show balancesL g = balL g; rw [balancesL, if_pos hd]
    have h := H.out
    rw [hd] at h
    have H2 := Lib.hid h
    clear h
    obtain ⟨hn, hrow⟩ := (vDebts_iff g).1 hd
    have HV := Lib.hid hv
    obtain ⟨a, cap, rfl, _⟩ := id hv
    have HB : Hid (∀ a b k, a < g.length → b ≤ g.length → k < g.length → -1000 ≤ (balP g a b).getD k 0 ∧ (balP g a b).getD k 0 ≤ 1000) := fun a b k ha hb hk => balP_bounds hd ha hb hk
    have HC : Hid (∀ a b, a < g.length → b < g.length → 0 ≤ cellOf g a b ∧ cellOf g a b ≤ 50) := fun a b ha hb => (hrow a ha).2.2 b hb
    have HL : Hid (∀ a, a < g.length → (rowOf g a).length = g.length) := fun a ha => (hrow a ha).1
    have n6 : g.length ≤ 6 := hn.2
    have n1 : 1 ≤ g.length := hn.1
    clear hv hd hrow hn
    obtain ⟨i0, hi, hz0, hz1, hz2⟩ := info_parts infoInt
    go_enter Try.func24, Try.ntmps24
    go_wp2_with fail
    refine H2.out.mono ?_
    rintro e w' ⟨rfl, rfl⟩
    go_wp2_with (at_make; refine wpList_make_full _ rfl _ _ 28 rfl w.heap.size 3 i0 (.int .i64 0) 1 Try.underlying28 hi hz0 hz1 _ _ _ _ g.length rfl rfl rfl rfl ?b2 ?b3 (Nat.le_refl _) ?_)
    case b2 => rw [hz2]; omega
    case b3 => unfold maxLen; omega
    intro w0 hown0 hgrow0
    have hb0 : Below w.heap.size w w0 := below_grown hgrow0 (Nat.le_refl _) (fun k h => by cases h)
    have hw0 : Own w0 w.heap.size (sl w.heap.size g.length g.length) (balP g 0 0) := by
      rw [balP_zero]; exact own_made hown0
    clear hown0 hgrow0
    go_wp2
    go_loopw [16] (fun s wr => ∃ i : Nat, i ≤ g.length ∧ s = .int .i64 i ∧ Own wr w.heap.size (sl w.heap.size g.length g.length) (balP g i 0) ∧ Below w.heap.size w wr) (fun s _ => g.length - (intOf s).toNat)
    case atStart => exact ⟨0, Nat.zero_le _, rfl, hw0, hb0⟩
    case round =>
      obtain ⟨i, hi, rfl, hown, hbl⟩ := hrel
      rename World => wo
      clear hw0 hb0
      by_cases hlt : i < g.length
      · have i1 : (i : Int) < (g.length : Int) := by omega
        obtain ⟨b, off, ar, cr, rfl, ci0, cc⟩ := HV.out.row i hlt
        have ci := (hbl.cell (p := ⟨b, off + i, none⟩) (World.block_lt_of_cell? w _ ci0)).trans ci0
        have hrl := HL.out i hlt
        have HRW : Hid (∀ wx, Below w.heap.size w wx → ∀ k, k < g.length → ∃ br fr, ar = some ⟨br, fr, none⟩ ∧ wx.cell? ⟨br, fr + k, none⟩ = some (.int .i64 (cellOf g i k))) := fun wx hx k hk => by
          obtain ⟨br, fr, e, c⟩ := cc k (by omega)
          exact ⟨br, fr, e, (hx.cell (p := ⟨br, fr + k, none⟩) (World.block_lt_of_cell? w _ c)).trans c⟩
        clear cc ci0
        rw [hrl] at ci
        clear hrl
        go_wp2
        go_loopw [23] (fun s wx => ∃ k : Nat, k ≤ g.length ∧ s = .int .i64 k ∧ Own wx w.heap.size (sl w.heap.size g.length g.length) (balP g i k) ∧ Below w.heap.size w wx) (fun s _ => g.length - (intOf s).toNat)
        case atStart => exact ⟨0, Nat.zero_le _, rfl, hown, hbl⟩
        case round =>
          clear hown hbl ci
          obtain ⟨k, hk, rfl, hown, hbl⟩ := hrel
          rename World => wi
          by_cases hlk : k < g.length
          · have k1 : (k : Int) < (g.length : Int) := by omega
            obtain ⟨br, fr, rfl, ck⟩ := HRW.out wi hbl k hlk
            have hcb := HC.out i k hlt hlk
            have hbi := HB.out i k i hlt (Nat.le_of_lt hlk) hlt
            have hbk := HB.out i k k hlt (Nat.le_of_lt hlk) hlk
            have hlen := balP_len g i k
            have hbd : -1100 ≤ ((balP g i k).set k ((balP g i k).getD k 0 + cellOf g i k)).getD i 0 ∧ ((balP g i k).set k ((balP g i k).getD k 0 + cellOf g i k)).getD i 0 ≤ 1100 := by
              rw [getD_set_int _ k i _ (by rw [hlen]; exact hlt)]
              split <;> omega
            have hset := settle_impl w.heap.size g.length g.length (balP g i k) k i (cellOf g i k) w.heap.size wi.drew (hown.kept (grown_drew1 (World.grownBy.refl _ none)) (.inr (by simp [Value.ownBlock]))) hlen hlk hlt (by omega) (by omega)
            rw [stl_balP g i k hlt hlk] at hset
            have HSE := Lib.hid hset
            have hgr : g.length ≤ 6 := n6
            clear hset hlen hbd hbi hbk hown
            generalize cellOf g i k = c at *
            go_wp2
            go_still_tail 7, (by kernel_rfl)
            change wpList _ _ _ _ _ wi.drew
            go_wp2_with (go_at_call 69; refine HSE.out.mono ?_)
            rintro e w' ⟨rfl, ho2, hg2⟩
            have hb2 : Below w.heap.size w w' := hbl.drew.trans (below_grown hg2 hbl.size (fun k hk => by cases hk; exact Nat.le_refl _))
            have O2 := Lib.hid ho2
            clear ho2 hg2 ck
            go_wp2
            go_roundw
            case rel => exact ⟨k + 1, by omega, by go_num, O2.out, hb2⟩
            case measure => simp [intOf]; omega
          · have hke : k = g.length := by omega
            subst hke
            rw [balP_row] at hown
            go_wp2
            go_roundw
            case rel => exact ⟨i + 1, by omega, by go_num, hown, hbl⟩
            case measure => simp [intOf]; omega
      · have hie : i = g.length := by omega
        subst hie
        rw [balP_full] at hown
        go_wp2
        go_ret
        exact ⟨_, rfl, by rw [E.out]; exact hown, hbl⟩

end Go.Proofs.Ytbedjebnllimpaa
