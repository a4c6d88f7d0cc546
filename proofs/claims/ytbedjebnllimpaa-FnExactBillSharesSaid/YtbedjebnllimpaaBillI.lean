/- Bills that are shared, in the program. -/
import Derived.Test.YtbedjebnllimpaaBill
import Derived.Test.YtbedjebnllimpaaPI
import Derived.Test.YtbedjebnllimpaaInts
namespace Go.Proofs.Ytbedjebnllimpaa
open Go.RowKit

theorem billOK_of (xs : List Int) : billOK xs = (inR xs.length 1 6 && allR xs 0 50) := by
  unfold billOK allR
  rw [Bool.and_comm]

theorem getD_set_bill (xs : List Int) (i k : Nat) (x : Int) (hk : k < xs.length) : (xs.set i x).getD k 0 = if k = i then x else xs.getD k 0 := by
  by_cases e : k = i
  · subst e; rw [if_pos rfl]; simp [List.getD, hk]
  · rw [if_neg e]
    have e' : ¬ i = k := fun h => e h.symm
    simp [List.getD, e']

set_option maxRecDepth 100000 in
set_option maxHeartbeats 3200000 in
theorem BillShares_impl (v : Value) (xs : List Int) (w : World) (hv : IsInts w v xs) (hl : xs.length ≤ 9223372036854775807) :
    Calls Try.prog 48 #[v] w fun e w' => ∃ v', e = .returned v' ∧ Own w' w.heap.size v' (billL xs) ∧ Below w.heap.size w w' := by
  have HV := Lib.hid hv
  have hv' := hv
  obtain ⟨a, cap, rfl, hc⟩ := hv
  cases h1 : inR xs.length 1 6
  · have E : Hid (billL xs = []) := by show _ = _; rw [billL, billOK_of, h1]; rfl
    clear hc
    go_enter Try.func48, Try.ntmps48
    go_wp2_with (go_at_call 66; refine (inRange_impl _ _ _ _).mono ?_; rintro e w' ⟨rfl, rfl⟩)
    go_ret
    exact ⟨_, rfl, by rw [E.out]; exact own_nilV _ _, Below.refl _ _⟩
  · cases h2 : allR xs 0 50
    · have E : Hid (billL xs = []) := by show _ = _; rw [billL, billOK_of, h1, h2]; rfl
      clear hc
      go_enter Try.func48, Try.ntmps48
      go_wp2_with (first | (go_at_call 66; refine (inRange_impl _ _ _ _).mono ?_; rintro e w' ⟨rfl, rfl⟩) | (go_at_call 67; refine (allInRange_impl _ _ _ _ _ hv' hl).mono ?_; rintro e w' ⟨rfl, rfl⟩))
      go_ret
      exact ⟨_, rfl, by rw [E.out]; exact own_nilV _ _, Below.refl _ _⟩
    · have h6b := inR_true h1
      have hb : ∀ x ∈ xs, 0 ≤ x ∧ x ≤ 50 := allR_true h2
      have hsf : SumFits xs := sumFits_of xs 50 hb (by decide) (by omega)
      have htb := tot_bounds xs 50 hb
      have hsl : splitL (tot xs) xs.length = (List.range xs.length).map (evenAt (tot xs) xs.length) := splitL_yes (by unfold inR; exact decide_eq_true (by omega)) (by unfold inR; exact decide_eq_true (by omega))
      have HF : Hid (billL xs = (List.range xs.length).map fun i => xs.getD i 0 - (splitL (tot xs) xs.length).getD i 0) := by show billL xs = _; rw [billL, billOK_of, h1, h2]; rfl
      have HSL : Hid ((splitL (tot xs) xs.length).length = xs.length) := by show _ = _; rw [hsl]; simp
      have HSB : Hid (∀ i, i < xs.length → 0 ≤ (splitL (tot xs) xs.length).getD i 0 ∧ (splitL (tot xs) xs.length).getD i 0 ≤ 301) := fun i hi => by
        rw [hsl]
        have e : ((List.range xs.length).map (evenAt (tot xs) xs.length)).getD i 0 = evenAt (tot xs) xs.length i := by simp [List.getD, hi]
        have h1 := Int.ediv_nonneg htb.1 (show (0 : Int) ≤ xs.length by omega)
        have h2 := Int.ediv_le_self (xs.length : Int) htb.1
        rw [e]; unfold evenAt; split <;> omega
      have HB := Lib.hid hb
      have HS := Lib.hid (sum_impl _ xs w HV.out hl hsf)
      have HSP := Lib.hid (SplitEven_impl (tot xs) xs.length w)
      clear hb hsf hc hsl
      go_enter Try.func48, Try.ntmps48
      go_wp2_with (first | (go_at_call 66; refine (inRange_impl _ _ _ _).mono ?_; rw [h1]; rintro e w' ⟨rfl, rfl⟩) | (go_at_call 67; refine (allInRange_impl _ _ _ _ _ hv' hl).mono ?_; rw [h2]; rintro e w' ⟨rfl, rfl⟩) | (go_at_call 90; refine HS.out.mono ?_; rintro e w' ⟨rfl, rfl⟩) | (go_at_call 89; refine HSP.out.mono ?_))
      rintro e w1 ⟨v1, rfl, ho1, hb1⟩
      have hs1 : w.heap.size ≤ w1.heap.size := hb1.size
      generalize splitL (tot xs) xs.length = ss at *
      rcases id ho1.2 with ⟨_, hz⟩ | ⟨g1, cap1, cur1, rfl, _⟩
      · exfalso; have := HSL.out; omega
      have hgl := ho1.lt g1 rfl
      have o2 : Own w1 w.heap.size (sl g1 xs.length cap1) ss := by have h := HSL.out; rw [← h]; exact ho1
      have HL := HSL.out
      rw [HL]
      clear ho1 htb
      go_wp2
      go_loopw [22] (fun s wr => ∃ (k : Nat) (ys : List Int), k ≤ xs.length ∧ s = .int .i64 k ∧ ys.length = xs.length ∧ (∀ j, j < xs.length → ys.getD j 0 = if j < k then xs.getD j 0 - ss.getD j 0 else ss.getD j 0) ∧ Own wr w.heap.size (sl g1 xs.length cap1) ys ∧ Below w.heap.size w wr) (fun s _ => xs.length - (intOf s).toNat)
      case atStart => exact ⟨0, ss, Nat.zero_le _, rfl, HL, fun j _ => by rw [if_neg (Nat.not_lt_zero _)], o2, hb1⟩
      case round =>
        obtain ⟨k, ys, hk, rfl, hyl, hys, hown, hbl⟩ := hrel
        rename World => wr
        clear o2 hb1
        have HYS := Lib.hid hys
        have HYL := Lib.hid hyl
        clear hys
        by_cases hlt : k < xs.length
        · have i1 : (k : Int) < (xs.length : Int) := by omega
          obtain ⟨a', cap', e', hc'⟩ := HV.out
          simp only [Value.slice.injEq, true_and] at e'
          obtain ⟨rfl, rfl⟩ := e'
          obtain ⟨b, off, rfl, cx0⟩ := hc' k hlt
          have cx := (hbl.cell (p := ⟨b, off + k, none⟩) (World.block_lt_of_cell? w _ cx0)).trans cx0
          have c1 := hown.cell hyl k hlt
          have hyk : ys.getD k 0 = ss.getD k 0 := by rw [HYS.out k hlt, if_neg (Nat.lt_irrefl _)]
          rw [hyk] at c1
          have f1 := hown.frozen hyl k
          have s1 := hown.set hyl k (xs.getD k 0 - ss.getD k 0)
          have hsb := HSB.out k hlt
          have hxb := HB.out (xs.getD k 0) (by simp [List.getD, hlt])
          have wxy : IntKind.i64.wrap (xs.getD k 0 - ss.getD k 0) = xs.getD k 0 - ss.getD k 0 := IntWalk.i64_in _ (by omega)
          have hb2 : Below w.heap.size w _ := hbl.trans (below_grown s1.2 hbl.size (fun q hq => by cases hq; exact hgl.1))
          have HNY : Hid (∀ j, j < xs.length → (ys.set k (xs.getD k 0 - ss.getD k 0)).getD j 0 = if j < k + 1 then xs.getD j 0 - ss.getD j 0 else ss.getD j 0) := fun j hj => by
            rw [getD_set_bill _ _ _ _ (by rw [HYL.out]; exact hj)]
            by_cases e : j = k
            · subst e; rw [if_pos rfl, if_pos (Nat.lt_succ_self _)]
            · rw [if_neg e, HYS.out j hj]
              by_cases h : j < k
              · rw [if_pos h, if_pos (by omega)]
              · rw [if_neg h, if_neg (by omega)]
          have S1 := Lib.hid s1.1
          clear s1 hown hyk hyl
          generalize hx : xs.getD k 0 = x at *
          generalize hs : ss.getD k 0 = y at *
          clear hx hs
          go_wp2
          go_roundw
          case rel => exact ⟨k + 1, ys.set k (x - y), by omega, by go_num, by rw [List.length_set]; exact HYL.out, HNY.out, S1.out, hb2⟩
          case measure => simp [intOf]; omega
        · have hke : k = xs.length := by omega
          subst hke
          have hfin : ys = billL xs := by
            rw [HF.out]
            exact list_of_getD ys xs.length (fun i => xs.getD i 0 - ss.getD i 0) HYL.out (fun j hj => by rw [HYS.out j hj, if_pos hj])
          have O : Hid (Own wr w.heap.size (sl g1 xs.length cap1) (billL xs)) := by show Own _ _ _ _; rw [← hfin]; exact hown
          clear hfin hown hyl
          go_wp2
          go_ret
          exact ⟨_, rfl, O.out, hbl⟩

end Go.Proofs.Ytbedjebnllimpaa
