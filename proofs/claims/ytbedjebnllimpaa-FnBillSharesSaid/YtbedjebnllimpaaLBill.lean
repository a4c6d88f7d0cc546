/- The law FnBillShares: the walk, out of contracts of the program's functions that are handed in. -/
import Derived.Test.YtbedjebnllimpaaOwnH
import Derived.Test.YtbedjebnllimpaaBill
import Derived.Test.YtbedjebnllimpaaLGroupsOf
namespace Go.Proofs.Ytbedjebnllimpaa
open Go.RowKit

def BillC : Prop := ∀ (v : Value) (xs : List Int) (w : World), IsInts w v xs → xs.length ≤ 9223372036854775807 → Calls Try.prog 48 #[v] w fun e w' => ∃ v', e = .returned v' ∧ IsInts w' v' (billL xs) ∧ Below w.heap.size w w'
def GroupsC2 : Prop := ∀ (v : Value) (xs : List Int) (w : World), IsInts w v xs → xs.length ≤ 9223372036854775807 → Calls Try.prog 34 #[v] w fun e w' => e = .returned (.int .i64 (groupsV xs)) ∧ Below w.heap.size w w'

/-- The even shares of the first n. -/
theorem even_sum (q r : Int) : ∀ n : Nat, 0 ≤ r → tot ((List.range n).map fun i : Nat => if (i : Int) < r then q + 1 else q) = q * n + if r < n then r else (n : Int)
  | 0, h => by simp [tot]; omega
  | n + 1, h => by
    rw [List.range_succ, List.map_append]
    have ih := even_sum q r n h
    have e : tot (((List.range n).map fun i : Nat => if (i : Int) < r then q + 1 else q) ++ ([n].map fun i : Nat => if (i : Int) < r then q + 1 else q)) = tot ((List.range n).map fun i : Nat => if (i : Int) < r then q + 1 else q) + if (n : Int) < r then q + 1 else q := by
      simp [tot, List.sum_append]
    rw [e, ih, Int.natCast_add, Int.mul_add]
    by_cases h1 : (n : Int) < r
    · rw [if_pos h1, if_neg (show ¬ r < (n : Int) by omega)]
      by_cases h2 : r < (n : Int) + ((1 : Nat) : Int)
      · rw [if_pos h2]; omega
      · rw [if_neg h2]; omega
    · rw [if_neg h1]
      by_cases h3 : r < (n : Int)
      · rw [if_pos h3, if_pos (show r < (n : Int) + ((1 : Nat) : Int) by omega)]; omega
      · rw [if_neg h3, if_pos (show r < (n : Int) + ((1 : Nat) : Int) by omega)]; omega

theorem tot_sub (xs ys : List Int) (h : ys.length = xs.length) : tot ((List.range xs.length).map fun i => xs.getD i 0 - ys.getD i 0) = tot xs - tot ys := by
  have key : ∀ m, m ≤ xs.length → tot ((List.range m).map fun i => xs.getD i 0 - ys.getD i 0) = tot (xs.take m) - tot (ys.take m) := by
    intro m
    induction m with
    | zero => intro _; simp [tot]
    | succ m ih =>
      intro hm
      rw [List.range_succ, List.map_append, tot_take_succ xs m (by omega), tot_take_succ ys m (by omega)]
      have e : tot (((List.range m).map fun i => xs.getD i 0 - ys.getD i 0) ++ ([m].map fun i => xs.getD i 0 - ys.getD i 0)) = tot ((List.range m).map fun i => xs.getD i 0 - ys.getD i 0) + (xs.getD m 0 - ys.getD m 0) := by
        simp [tot, List.sum_append]
      rw [e, ih (by omega)]
      have e1 : xs.getD m 0 = xs[m]'(by omega) := by simp [List.getD, show m < xs.length by omega]
      have e2 : ys.getD m 0 = ys[m]'(by omega) := by simp [List.getD, show m < ys.length by omega]
      rw [e1, e2]; omega
  have := key xs.length (Nat.le_refl _)
  rwa [List.take_length, List.take_of_length_le (by omega)] at this

/-- What holds of shared bills. -/
theorem bill_facts {xs : List Int} (h : billOK xs = true) : (billL xs).length = xs.length ∧ tot (billL xs) = 0 ∧ (∀ i k, i < xs.length → k < xs.length → -1 ≤ xs.getD i 0 - (billL xs).getD i 0 - (xs.getD k 0 - (billL xs).getD k 0) ∧ xs.getD i 0 - (billL xs).getD i 0 - (xs.getD k 0 - (billL xs).getD k 0) ≤ 1) ∧ (∀ i, i < xs.length → -60 ≤ (billL xs).getD i 0 ∧ (billL xs).getD i 0 ≤ 60 ∧ 0 ≤ xs.getD i 0 ∧ xs.getD i 0 ≤ 50) ∧ vBal (billL xs) = true := by
  obtain ⟨hb, hn⟩ := (billOK_iff xs).1 h
  have htb := tot_bounds xs 50 hb
  have hsl : splitL (tot xs) xs.length = (List.range xs.length).map (evenAt (tot xs) xs.length) := splitL_yes (by unfold inR; exact decide_eq_true (by omega)) (by unfold inR; exact decide_eq_true (by omega))
  have e : billL xs = (List.range xs.length).map fun i => xs.getD i 0 - (splitL (tot xs) xs.length).getD i 0 := by rw [billL, if_pos h]
  have hss : (splitL (tot xs) xs.length).length = xs.length := by rw [hsl]; simp
  have hat : ∀ i, i < xs.length → (splitL (tot xs) xs.length).getD i 0 = evenAt (tot xs) xs.length i := fun i hi => by rw [hsl]; simp [List.getD, hi]
  have hba : ∀ i, i < xs.length → (billL xs).getD i 0 = xs.getD i 0 - evenAt (tot xs) xs.length i := fun i hi => by
    rw [← hat i hi, e]; simp [List.getD, hi]
  have hr0 : 0 ≤ tot xs % (xs.length : Int) := Int.emod_nonneg _ (by omega)
  have hr1 : tot xs % (xs.length : Int) < xs.length := Int.emod_lt_of_pos _ (by omega)
  have hdm := Int.mul_ediv_add_emod (tot xs) xs.length
  have hq0 := Int.ediv_nonneg htb.1 (show (0 : Int) ≤ xs.length by omega)
  have hq1 : tot xs / (xs.length : Int) ≤ 50 := by
    have := Int.ediv_le_ediv (show (0 : Int) < xs.length by omega) htb.2
    rwa [Int.mul_ediv_cancel _ (show (xs.length : Int) ≠ 0 by omega)] at this
  have hts : tot (splitL (tot xs) xs.length) = tot xs := by
    rw [hsl]
    have hev := even_sum (tot xs / xs.length) (tot xs % xs.length) xs.length hr0
    have e2 : (List.range xs.length).map (evenAt (tot xs) xs.length) = (List.range xs.length).map fun i : Nat => if (i : Int) < tot xs % xs.length then tot xs / xs.length + 1 else tot xs / xs.length := rfl
    rw [e2, hev, if_pos hr1]
    rw [Int.mul_comm]; exact hdm
  have hlen : (billL xs).length = xs.length := by rw [e]; simp
  have ht0 : tot (billL xs) = 0 := by rw [e, tot_sub xs _ hss, hts]; omega
  have hbd : ∀ i, i < xs.length → -60 ≤ (billL xs).getD i 0 ∧ (billL xs).getD i 0 ≤ 60 ∧ 0 ≤ xs.getD i 0 ∧ xs.getD i 0 ≤ 50 := fun i hi => by
    have hx := hb _ (getD_mem hi)
    rw [hba i hi]
    unfold evenAt
    split <;> omega
  refine ⟨hlen, ht0, fun i k hi hk => ?_, hbd, (vBal_iff _).2 ⟨fun x hx => ?_, by rw [hlen]; exact hn, ht0⟩⟩
  · rw [hba i hi, hba k hk]
    unfold evenAt
    split <;> split <;> omega
  · obtain ⟨j, hj, rfl⟩ := mem_getD hx
    rw [hlen] at hj
    have := hbd j hj
    omega

theorem groups_one {xs : List Int} (h : vBal xs = true) : 1 ≤ groupsV xs := by
  obtain ⟨_, hn, ht⟩ := (vBal_iff xs).1 h
  have hp := pow_le6 hn.2
  have hp1 : 2 ^ 1 ≤ 2 ^ xs.length := Nat.pow_le_pow_right (by decide) hn.1
  have hd := gp_drop (xs := xs) (s := 2 ^ xs.length - 1) (i := 0) (by omega) (by omega) (bit_full xs.length hn.2 0 (by omega))
  have h0 := (gp_bounds xs _ (2 ^ xs.length - 1 - 2 ^ 0) (Nat.le_refl _)).1
  rw [(full_facts xs hn.2).2.2, if_pos ht] at hd
  rw [groupsV, if_pos h]
  omega

set_option maxRecDepth 100000 in
set_option maxHeartbeats 3200000 in
theorem FnBillShares_of (BI : BillC) (GI : GroupsC2) (a : Option Addr) (n cap : Nat) (w : World) (h : IsBytes w a n) (hc : n ≤ cap) :
    Calls Try.prog 10 #[.slice a n cap] w fun e w' => e = .returned (.bool true) ∧ Below w.heap.size w w' := by
  by_cases hbig : (1048576 : Int) < (n : Int)
  · clear BI GI
    go_enter Try.func10, Try.ntmps10
    go_wp2
    go_ret
    exact ⟨rfl, Below.refl _ _⟩
  · have HBI := Lib.hid BI
    have HGI := Lib.hid GI
    clear BI GI
    go_enter Try.func10, Try.ntmps10
    go_wp2_with fail
    refine (DrawBillShares_any a n cap w h hc).mono ?_
    rintro e w1 ⟨v, xs, rfl, o1, hb, b1⟩
    have hx7 := hb.1
    have hl : xs.length ≤ 9223372036854775807 := by omega
    have hbl : (billL xs).length ≤ 9223372036854775807 := by
      unfold billL
      split
      · simp; omega
      · exact Nat.zero_le _
    go_wp2_with fail
    refine (HBI.out v xs _ o1.ints hl).mono ?_
    rintro e w2 ⟨z, rfl, z2, hb2⟩
    have b2 : Below w.heap.size w w2 := b1.trans (hb2.mono b1.size)
    have o2 := o1.below hb2
    have Z2 := Lib.hid z2
    obtain ⟨az, cz, rfl, _⟩ := z2
    clear o1 hb2
    go_wp2_with fail
    refine (BillShares_spec v xs _ o2.ints hl).mono ?_
    rintro e w3 ⟨y, rfl, y3, hb3⟩
    have b3 : Below w.heap.size w w3 := b2.trans (hb3.mono b2.size)
    have o3 := o2.below hb3
    have z3 := Z2.out.below hb3
    clear o2 hb3 Z2
    go_wp2_with fail
    refine (equalInts_any _ _ _ _ _ z3 y3.ints hbl).mono ?_
    rw [decide_eq_true rfl]
    rintro e w4 ⟨rfl, hb4⟩
    have b4 : Below w.heap.size w w4 := b3.trans (hb4.mono b3.size)
    have o4 := o3.below hb4
    have z4 := z3.below hb4
    clear o3 z3 y3 hb4
    cases hv : billOK xs
    · have e0 : billL xs = [] := by rw [billL, hv]; rfl
      have hz0 : (((billL xs).length : Int) == 0) = true := by rw [e0]; rfl
      clear e0
      go_wp2_with fail
      refine (BillShares_spec v xs _ o4.ints hl).mono ?_
      rintro e w5 ⟨y5, rfl, o5, hb5⟩
      have b5 : Below w.heap.size w w5 := b4.trans (hb5.mono b4.size)
      go_wp2_with fail
      refine (equalInts_any _ _ _ _ _ (z4.below hb5) o5.ints hbl).mono ?_
      rw [decide_eq_true rfl]
      rintro e w6 ⟨rfl, hb6⟩
      have b6 : Below w.heap.size w w6 := b5.trans (hb6.mono b5.size)
      go_wp2
      go_ret
      exact ⟨rfl, b6⟩
    · obtain ⟨f1, f2, f3, f4, f5⟩ := bill_facts hv
      have hn := ((billOK_iff xs).1 hv).2
      have hg := groups_one f5
      have HF3 := Lib.hid f3
      have HF4 := Lib.hid f4
      have HF1 := Lib.hid f1
      have HF2 := Lib.hid f2
      have HSF : Hid (SumFits (billL xs)) := sumFits_abs (billL xs) 60 (fun x hx => by
        obtain ⟨j, hj, rfl⟩ := mem_getD hx
        have := f4 j (by rw [f1] at hj; exact hj); omega) (by decide) (by rw [f1]; omega)
      have hzn : (((billL xs).length : Int) == 0) = false := beq_eq_false_iff_ne.2 (by omega)
      have HG := Lib.hid hg
      rw [f1] at hzn ⊢
      have O4 := Lib.hid o4.ints
      have Z4 := Lib.hid z4
      clear f1 f2 f3 f4 f5 hv hg
      obtain ⟨av, cv, rfl, _⟩ := o4.ints
      clear o4 z4
      go_wp2
      go_loopw [5, 6, 7] (fun s _ _ wr => ∃ i : Nat, i ≤ xs.length ∧ s = .int .i64 i ∧ Below w4.heap.size w4 wr) (fun s _ _ _ => xs.length - (intOf s).toNat)
      case atStart => exact ⟨0, Nat.zero_le _, rfl, Below.refl _ _⟩
      case round =>
        obtain ⟨i, hi, rfl, hbo⟩ := hrel
        rename World => wo
        by_cases hlt : i < xs.length
        · have i1 : (i : Int) < (xs.length : Int) := by omega
          go_wp2
          go_loopw [6, 7] (fun s _ wr => ∃ k : Nat, k ≤ xs.length ∧ s = .int .i64 k ∧ Below w4.heap.size w4 wr) (fun s _ _ => xs.length - (intOf s).toNat)
          case atStart => exact ⟨0, Nat.zero_le _, rfl, hbo⟩
          case round =>
            clear hbo
            obtain ⟨k, hk, rfl, hbi⟩ := hrel
            rename World => wi
            by_cases hlk : k < xs.length
            · have k1 : (k : Int) < (xs.length : Int) := by omega
              obtain ⟨a1, c1, e1, hc1⟩ := O4.out.below hbi
              simp only [Value.slice.injEq, true_and] at e1
              obtain ⟨rfl, rfl⟩ := e1
              obtain ⟨a2, c2, e2, hc2⟩ := Z4.out.below hbi
              rw [HF1.out] at e2 hc2
              simp only [Value.slice.injEq, true_and] at e2
              obtain ⟨rfl, rfl⟩ := e2
              obtain ⟨bx, fx, rfl, x1⟩ := hc1 i hlt
              obtain ⟨bx2, fx2, ex, x2⟩ := hc1 k hlk
              simp only [Option.some.injEq, Addr.mk.injEq, and_true] at ex
              obtain ⟨rfl, rfl⟩ := ex
              obtain ⟨by1, fy, rfl, y1⟩ := hc2 i hlt
              obtain ⟨by2, fy2, ey, y2⟩ := hc2 k hlk
              simp only [Option.some.injEq, Addr.mk.injEq, and_true] at ey
              obtain ⟨rfl, rfl⟩ := ey
              have q1 := HF4.out i hlt
              have q2 := HF4.out k hlk
              have q3 := HF3.out i k hlt hlk
              clear hc1 hc2
              generalize xs.getD i 0 = p1 at *
              generalize xs.getD k 0 = p2 at *
              generalize (billL xs).getD i 0 = r1 at *
              generalize (billL xs).getD k 0 = r2 at *
              have v1 : IntKind.i64.wrap (p1 - r1) = p1 - r1 := IntWalk.i64_in _ (by omega)
              have v2 : IntKind.i64.wrap (p2 - r2) = p2 - r2 := IntWalk.i64_in _ (by omega)
              have v3 : IntKind.i64.wrap (p1 - r1 - (p2 - r2)) = p1 - r1 - (p2 - r2) := IntWalk.i64_in _ (by omega)
              go_wp2
              go_quiet (fail)
              clear v1 v2 v3
              have d1 : ¬ (1 < p1 - r1 - (p2 - r2)) := by omega
              have d2 : ¬ (p1 - r1 - (p2 - r2) < -1) := by omega
              go_wp2
              go_roundw
              case rel => exact ⟨k + 1, by omega, by go_num, below_drewN hbi _⟩
              case measure => simp [intOf]; omega
            · go_wp2
              go_roundw
              case rel => exact ⟨i + 1, by omega, by go_num, hbi⟩
              case measure => simp [intOf]; omega
        · have bo : Below w.heap.size w wo := b4.trans (hbo.mono b4.size)
          have zo := Z4.out.below hbo
          have HT2 := total_any _ (billL xs) wo zo (by rw [HF1.out]; omega) HSF.out
          rw [HF2.out, HF1.out] at HT2
          have HT4 := Lib.hid HT2
          have hgc := HGI.out _ (billL xs) wo zo (by rw [HF1.out]; omega)
          rw [HF1.out] at hgc
          have HGC := Lib.hid hgc
          have hge := HG.out
          clear HT2 zo hgc
          go_wp2_with fail
          refine HT4.out.mono ?_
          rintro e w' ⟨rfl, rfl⟩
          go_wp2_with fail
          refine HGC.out.mono ?_
          rintro e w5 ⟨rfl, hb5⟩
          generalize groupsV (billL xs) = gv at *
          go_wp2
          go_ret
          exact ⟨rfl, bo.trans (hb5.mono bo.size)⟩

end Go.Proofs.Ytbedjebnllimpaa
