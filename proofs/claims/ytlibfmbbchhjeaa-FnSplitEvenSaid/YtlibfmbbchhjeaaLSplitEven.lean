/- The law FnSplitEven: equal shares are shares of equal parts; the walk. -/
import Derived.Test.YtlibfmbbchhjeaaOwnH
import Derived.Test.YtlibfmbbchhjeaaDraws
import Derived.Test.YtlibfmbbchhjeaaRestI
import Derived.Test.YtlibfmbbchhjeaaSplit
namespace Go.Proofs.Ytlibfmbbchhjeaa
open Go.RowKit

theorem tot_ones (m : Nat) : tot (List.replicate m 1) = m := by
  unfold tot
  induction m with
  | zero => rfl
  | succ m ih => rw [List.replicate_succ, List.sum_cons, ih]; omega

theorem ones_valid {m : Nat} (h : 1 ≤ m ∧ m ≤ 8) : vParts (List.replicate m 1) = true := by
  unfold vParts
  have e1 : inR ((List.replicate m (1 : Int)).length : Int) 1 8 = true := by unfold inR; rw [decide_eq_true_iff]; simp; omega
  have e2 : allR (List.replicate m 1) 0 50 = true := by
    unfold allR
    rw [List.all_eq_true]
    intro x hx
    have := List.eq_of_mem_replicate hx
    subst this
    rfl
  rw [e1, e2, tot_ones]
  simp
  omega

theorem getD_ones {m j : Nat} (h : j < m) : (List.replicate m (1 : Int)).getD j 0 = 1 := by simp [List.getD, h]

theorem cntA_ones (t : Int) (m i : Nat) (hi : i < m) : ∀ n, n ≤ m → cntA (rAt t (List.replicate m 1)) i n = min i n := by
  intro n
  induction n with
  | zero => intro _; simp [cntA]
  | succ n ih =>
    intro hn
    rw [cntA_succ, ih (by omega)]
    have e : rAt t (List.replicate m 1) n = rAt t (List.replicate m 1) i := by unfold rAt; rw [getD_ones (by omega), getD_ones hi]
    by_cases hni : n < i
    · rw [if_pos (by rw [aheadB_iff]; exact .inr ⟨e, hni⟩)]; omega
    · rw [if_neg (by rw [aheadB_iff]; omega)]; omega

theorem rest_ones {t : Int} {m : Nat} (ht : inR t 0 100000 = true) (h : 1 ≤ m ∧ m ≤ 8) : restL t (List.replicate m 1) = splitL t m := by
  have hm : inR (m : Int) 1 8 = true := by unfold inR; rw [decide_eq_true_iff]; omega
  have hc : cShare t (List.replicate m 1) = true := by unfold cShare; rw [ht, ones_valid h]; rfl
  rw [splitL_yes ht hm, restL, if_pos hc, List.length_replicate]
  apply List.map_congr_left
  intro i hi
  have hi' : i < m := by simpa using hi
  have hq : qAt t (List.replicate m 1) i = t / m := by unfold qAt; rw [getD_ones hi', tot_ones, Int.mul_one]
  have hl : leftI t (List.replicate m 1) = t % m := by
    unfold leftI
    rw [List.map_replicate, tot_ones, Int.mul_one]
    have e : tot (List.replicate m (t / (m : Int))) = m * (t / m) := by
      unfold tot
      have : ∀ (k : Nat) (z : Int), (List.replicate k z).sum = k * z := by
        intro k z
        induction k with
        | zero => simp
        | succ k ih => rw [List.replicate_succ, List.sum_cons, ih, Int.natCast_add, Int.add_mul]; omega
      exact this m _
    rw [e]
    have := Int.mul_ediv_add_emod t m
    omega
  unfold restAt evenAt
  rw [hq, hl, List.length_replicate, cntA_ones t m i hi' m (Nat.le_refl _)]
  have e : min i m = i := by omega
  rw [e]
  split <;> simp

set_option maxHeartbeats 1600000 in
theorem FnSplitEven_walk (a : Option Addr) (n cap : Nat) (w : World) (h : IsBytes w a n) (hc : n ≤ cap) :
    Calls Try.prog 6 #[.slice a n cap] w fun e w' => e = .returned (.bool true) ∧ Below w.heap.size w w' := by
  by_cases hbig : (1048576 : Int) < (n : Int)
  · go_enter Try.func6, Try.ntmps6
    go_wp2
    go_ret
    exact ⟨rfl, Below.refl _ _⟩
  · go_enter Try.func6, Try.ntmps6
    go_wp2_with fail
    refine (DrawSplitEven_any a n cap w h hc).mono ?_
    rintro e w1 ⟨t, m, rfl, ht, hm, b1⟩
    have hL := splitL_length t m
    go_wp2_with fail
    refine (SplitEven_impl t m _).mono ?_
    rintro e w2 ⟨v2, rfl, o2, hb2⟩
    have b2 : Below w.heap.size w w2 := b1.trans (hb2.mono b1.size)
    go_wp2_with fail
    refine (SplitEven_spec t m _).mono ?_
    rintro e w3 ⟨v3, rfl, o3, hb3⟩
    have b3 : Below w.heap.size w w3 := b2.trans (hb3.mono b2.size)
    have o2a := o2.below hb3
    clear o2 hb3
    go_wp2_with fail
    refine (equalInts_any _ _ _ _ _ o2a.ints o3.ints (by omega)).mono ?_
    rintro e w4 ⟨rfl, hb4⟩
    have b4 : Below w.heap.size w w4 := b3.trans (hb4.mono b3.size)
    have o2b := o2a.below hb4
    have hv2 := o2b.ints
    have ob2 := o2b
    clear o2a o3 hb4 b2 b3 o2b
    obtain ⟨av, cv, rfl, _⟩ := ob2.ints
    by_cases hv : inR t 0 100000 = true ∧ inR m 1 8 = true
    · obtain ⟨k, rfl⟩ : ∃ k : Nat, m = k := ⟨m.toNat, by omega⟩
      have hk := inR_true hv.2
      have hkn : 1 ≤ k ∧ k ≤ 8 := by omega
      have hlen : (splitL t k).length = k := by rw [splitL_yes hv.1 hv.2]; simp
      have e0 : (((splitL t k).length : Int) == 0) = false := by rw [hlen]; simp; omega
      have HR := Lib.hid (rest_ones hv.1 hkn)
      have oe := own_empty w4 w.heap.size b4.size
      have hbe : Below w4.heap.size w4 (w4.alloc (.cells #[] 3)) := (Below.refl _ _).alloc (Nat.le_refl _) _
      have be : Below w.heap.size w (w4.alloc (.cells #[] 3)) := b4.trans (hbe.mono b4.size)
      have hv2e := hv2.below hbe
      clear hv hlen
      go_wp2
      go_loopw [6, 7] (fun o i wr => ∃ j : Nat, j ≤ k ∧ i = .int .i64 j ∧ Own wr w.heap.size o (List.replicate j 1) ∧ Below w.heap.size w wr ∧ IsInts wr (.slice av (splitL t k).length cv) (splitL t k) ∧ (∀ q, o.ownBlock = some q → w4.heap.size ≤ q) ∧ Below w4.heap.size w4 wr)
        (fun _ i _ => k - (intOf i).toNat)
      case atStart => exact ⟨0, Nat.zero_le _, rfl, oe, be, hv2e, by simp [Value.ownBlock], hbe⟩
      case round =>
        clear oe be hv2e hbe
        obtain ⟨j, hj, rfl, hown, hbel, hvr, hfr, hb4r⟩ := hrel
        have HFR := Lib.hid hfr
        clear hfr
        have hsz := hbel.size
        by_cases hlt : j < k
        · go_wp2_with (at_builtin; refine wpList_push hown (by simp; omega) hsz (h := ?_))
          intro v5 w5 o5 g5 m5
          have b5 : Below w.heap.size w w5 := hbel.trans (hown.pushed_below g5 hsz)
          have b45 : Below w4.heap.size w4 w5 := hb4r.trans (below_grown g5 hb4r.size (fun q hq => HFR.out q hq))
          have e5 : List.replicate j (1 : Int) ++ [1] = List.replicate (j + 1) 1 := by rw [List.replicate_succ']
          rw [e5] at o5
          have hfr5 : ∀ q, v5.ownBlock = some q → w4.heap.size ≤ q := by
            intro q hq
            rcases m5 with h | ⟨z, h, hz⟩
            · exact HFR.out q (h.symm.trans hq)
            · rw [h] at hq; cases hq; exact Nat.le_trans hb4r.size hz
          have HF5 := Lib.hid hfr5
          clear hown g5 m5 e5 hfr5
          go_wp2
          go_roundw
          case rel => exact ⟨j + 1, by omega, by go_num, o5, b5, hv2.below b45, HF5.out, b45⟩
          case measure => simp [intOf]; omega
        · have hjk : j = k := by omega
          subst hjk
          have hvi := hown.ints
          have hlr := restL_length t (List.replicate j 1)
          clear hb4r
          go_wp2_with fail
          refine (ShareByRest_impl t _ (List.replicate j 1) _ hvi (by simp; omega)).mono ?_
          rintro e w5 ⟨v5, rfl, o5, hb5⟩
          have b5 : Below w.heap.size w w5 := hbel.trans (hb5.mono hsz)
          have hv5 := hvr.below hb5
          clear hown hvi hvr hb5
          go_wp2_with fail
          refine (equalInts_any _ _ _ _ _ o5.ints hv5 (by omega)).mono ?_
          rintro e w6 ⟨rfl, hb6⟩
          have b6 : Below w.heap.size w w6 := b5.trans (hb6.mono b5.size)
          clear o5 hv5 hb6
          go_wp2
          go_ret
          exact ⟨ret_bool (by rw [HR.out]; simp), b6⟩
    · have hnil : splitL t m = [] := by rw [splitL, if_neg hv]
      have e0 : (((splitL t m).length : Int) == 0) = true := by rw [hnil]; rfl
      clear hnil hv
      go_wp2_with fail
      refine (SplitEven_spec t m _).mono ?_
      rintro e w5 ⟨v5, rfl, o5, hb5⟩
      have b5 : Below w.heap.size w w5 := b4.trans (hb5.mono b4.size)
      have hv5 := hv2.below hb5
      go_wp2_with fail
      refine (equalInts_any _ _ _ _ _ hv5 o5.ints (by omega)).mono ?_
      rintro e w6 ⟨rfl, hb6⟩
      have b6 : Below w.heap.size w w6 := b5.trans (hb6.mono b5.size)
      go_wp2
      go_ret
      exact ⟨ret_bool (by simp), b6⟩

end Go.Proofs.Ytlibfmbbchhjeaa
