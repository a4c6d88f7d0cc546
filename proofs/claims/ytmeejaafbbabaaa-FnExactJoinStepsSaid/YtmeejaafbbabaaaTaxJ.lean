/- Taxes, what is left, rates, pairs: the program's functions. -/
import Derived.Test.YtmeejaafbbabaaaTaxI
namespace Go.Proofs.Ytmeejaafbbabaaa
open Go.RowKit

/-- What HundredTax answers. -/
def hundA (st : List (Int × Int)) (x : Int) : Int := if canT st x then taxT st x else -1
def netA (st : List (Int × Int)) (x : Int) : Int := if canT st x then netT st x else -1
def rateA (st : List (Int × Int)) (x : Int) : Int := if canT st x then rateT st x else -1
/-- No Rate is less than the one ahead. -/
def upB (st : List (Int × Int)) : Bool := (List.range st.length).all fun i => decide (i = 0) || decide (rat st (i - 1) ≤ rat st i)
def riseA (st : List (Int × Int)) : Bool := vSteps st && upB st
/-- Steps and two incomes, with a sum that is one. -/
def canP (st : List (Int × Int)) (a b : Int) : Bool := canT st a && canT st b && decide (a + b ≤ 2000)
def pairA (st : List (Int × Int)) (a b : Int) : Int := if canP st a b then 2 * taxT st ((a + b) / 2) else -1

theorem field_rate (f r : Int) (w : World) : (Instr.field 33 (.agg #[.int .i64 f, .int .i64 r]) 1).run Try.prog w = .ok (.int .i64 r) w := by rfl

set_option maxHeartbeats 400000 in
theorem netOf_impl (v : Value) (st : List (Int × Int)) (x : Int) (w : World) (hv : IsSteps w v st) (hs : Steps st) (hx : 0 ≤ x ∧ x ≤ 2000) :
    Calls Try.prog 60 #[v, .int .i64 x] w fun e w' => e = .returned (.int .i64 (netT st x)) ∧ Below w.heap.size w w' := by
  have hb := hs.tax_bounds hx.1
  go_enter Try.func60, Try.ntmps60
  go_wp2_with fail
  refine (hundredOf_impl _ _ _ _ hv hs hx).mono ?_
  rintro e w' ⟨rfl, hbl⟩
  go_wp2
  go_ret
  exact ⟨rfl, hbl⟩

set_option maxHeartbeats 400000 in
theorem HundredTax_impl (v : Value) (st : List (Int × Int)) (x : Int) (w : World) (hv : IsSteps w v st) (hl : st.length ≤ 9223372036854775807) :
    Calls Try.prog 23 #[v, .int .i64 x] w fun e w' => e = .returned (.int .i64 (hundA st x)) ∧ Below w.heap.size w w' := by
  cases h1 : canT st x
  · go_enter Try.func23, Try.ntmps23
    go_wp2_with fail
    refine (canTax_impl _ _ _ _ hv hl).mono ?_
    rintro e w' ⟨rfl, hb⟩
    rw [h1]
    go_wp2
    go_ret
    exact ⟨ret_int (by rw [hundA, h1]; rfl), hb⟩
  · obtain ⟨hs, hx⟩ := canT_true h1
    go_enter Try.func23, Try.ntmps23
    go_wp2_with fail
    refine (canTax_impl _ _ _ _ hv hl).mono ?_
    rintro e w' ⟨rfl, hb⟩
    rw [h1]
    go_wp2_with fail
    refine (hundredOf_impl _ _ _ _ (hv.below hb) hs hx).mono ?_
    rintro e w'' ⟨rfl, hb2⟩
    go_wp2
    go_ret
    exact ⟨ret_int (by rw [hundA, h1]; rfl), hb.trans (hb2.mono hb.size)⟩

set_option maxHeartbeats 400000 in
theorem NetOf_impl (v : Value) (st : List (Int × Int)) (x : Int) (w : World) (hv : IsSteps w v st) (hl : st.length ≤ 9223372036854775807) :
    Calls Try.prog 27 #[v, .int .i64 x] w fun e w' => e = .returned (.int .i64 (netA st x)) ∧ Below w.heap.size w w' := by
  cases h1 : canT st x
  · go_enter Try.func27, Try.ntmps27
    go_wp2_with fail
    refine (canTax_impl _ _ _ _ hv hl).mono ?_
    rintro e w' ⟨rfl, hb⟩
    rw [h1]
    go_wp2
    go_ret
    exact ⟨ret_int (by rw [netA, h1]; rfl), hb⟩
  · obtain ⟨hs, hx⟩ := canT_true h1
    go_enter Try.func27, Try.ntmps27
    go_wp2_with fail
    refine (canTax_impl _ _ _ _ hv hl).mono ?_
    rintro e w' ⟨rfl, hb⟩
    rw [h1]
    go_wp2_with fail
    refine (netOf_impl _ _ _ _ (hv.below hb) hs hx).mono ?_
    rintro e w'' ⟨rfl, hb2⟩
    go_wp2
    go_ret
    exact ⟨ret_int (by rw [netA, h1]; rfl), hb.trans (hb2.mono hb.size)⟩

set_option maxHeartbeats 400000 in
theorem RateAt_impl (v : Value) (st : List (Int × Int)) (x : Int) (w : World) (hv : IsSteps w v st) (hl : st.length ≤ 9223372036854775807) :
    Calls Try.prog 25 #[v, .int .i64 x] w fun e w' => e = .returned (.int .i64 (rateA st x)) ∧ Below w.heap.size w w' := by
  cases h1 : canT st x
  · go_enter Try.func25, Try.ntmps25
    go_wp2_with fail
    refine (canTax_impl _ _ _ _ hv hl).mono ?_
    rintro e w' ⟨rfl, hb⟩
    rw [h1]
    go_wp2
    go_ret
    exact ⟨ret_int (by rw [rateA, h1]; rfl), hb⟩
  · obtain ⟨hs, hx⟩ := canT_true h1
    go_enter Try.func25, Try.ntmps25
    go_wp2_with fail
    refine (canTax_impl _ _ _ _ hv hl).mono ?_
    rintro e w' ⟨rfl, hb⟩
    rw [h1]
    go_wp2_with fail
    refine (stepAt_impl _ _ _ _ (hv.below hb) hs hx).mono ?_
    rintro e w'' ⟨rfl, hb2⟩
    dsimp only [sv]
    have hfd := field_rate (frm st (atX st x)) (rat st (atX st x))
    go_wp2
    go_ret
    exact ⟨ret_int (by rw [rateA, h1]; rfl), hb.trans (hb2.mono hb.size)⟩

set_option maxHeartbeats 800000 in
theorem PairTax_impl (v : Value) (st : List (Int × Int)) (x y : Int) (w : World) (hv : IsSteps w v st) (hl : st.length ≤ 9223372036854775807) :
    Calls Try.prog 37 #[v, .int .i64 x, .int .i64 y] w fun e w' => e = .returned (.int .i64 (pairA st x y)) ∧ Below w.heap.size w w' := by
  cases h1 : canT st x
  · go_enter Try.func37, Try.ntmps37
    go_wp2_with fail
    refine (canTax_impl _ _ _ _ hv hl).mono ?_
    rintro e w' ⟨rfl, hb⟩
    rw [h1]
    go_wp2
    go_ret
    exact ⟨ret_int (by rw [pairA, canP, h1]; rfl), hb⟩
  · obtain ⟨hs, hx⟩ := canT_true h1
    cases h2 : canT st y
    · go_enter Try.func37, Try.ntmps37
      go_wp2_with fail
      refine (canTax_impl _ _ _ _ hv hl).mono ?_
      rintro e w' ⟨rfl, hb⟩
      rw [h1]
      go_wp2_with fail
      refine (canTax_impl _ _ _ _ (hv.below hb) hl).mono ?_
      rintro e w'' ⟨rfl, hb2⟩
      rw [h2]
      go_wp2
      go_ret
      exact ⟨ret_int (by rw [pairA, canP, h1, h2]; rfl), hb.trans (hb2.mono hb.size)⟩
    · obtain ⟨_, hy⟩ := canT_true h2
      by_cases h3 : x + y ≤ 2000
      · have hm : 0 ≤ (x + y) / 2 ∧ (x + y) / 2 ≤ 2000 := by omega
        have ht := hs.tax_bounds hm.1
        have h3' : ¬ 2000 < x + y := by omega
        go_enter Try.func37, Try.ntmps37
        go_wp2_with fail
        refine (canTax_impl _ _ _ _ hv hl).mono ?_
        rintro e w' ⟨rfl, hb⟩
        rw [h1]
        go_wp2_with fail
        refine (canTax_impl _ _ _ _ (hv.below hb) hl).mono ?_
        rintro e w'' ⟨rfl, hb2⟩
        have hb3 := hb.trans (hb2.mono hb.size)
        rw [h2]
        go_wp2_with fail
        refine (hundredOf_impl _ _ _ _ (hv.below hb3) hs hm).mono ?_
        rintro e w3 ⟨rfl, hb4⟩
        go_wp2
        go_ret
        exact ⟨ret_int (by rw [pairA, canP, h1, h2, decide_eq_true h3]; rfl), hb3.trans (hb4.mono hb3.size)⟩
      · have h3' : 2000 < x + y := by omega
        go_enter Try.func37, Try.ntmps37
        go_wp2_with fail
        refine (canTax_impl _ _ _ _ hv hl).mono ?_
        rintro e w' ⟨rfl, hb⟩
        rw [h1]
        go_wp2_with fail
        refine (canTax_impl _ _ _ _ (hv.below hb) hl).mono ?_
        rintro e w'' ⟨rfl, hb2⟩
        have hb3 := hb.trans (hb2.mono hb.size)
        rw [h2]
        go_wp2
        go_ret
        exact ⟨ret_int (by rw [pairA, canP, h1, h2, decide_eq_false (show ¬ x + y ≤ 2000 by omega)]; rfl), hb3⟩

theorem upB_no {st : List (Int × Int)} {i : Nat} (hi : i < st.length) (h0 : 0 < i) (h : rat st i < rat st (i - 1)) : upB st = false := by
  unfold upB
  rw [List.all_eq_false]
  exact ⟨i, List.mem_range.2 hi, by simp; omega⟩
theorem upB_yes {st : List (Int × Int)} (h : ∀ i, i < st.length → 0 < i → rat st (i - 1) ≤ rat st i) : upB st = true := by
  unfold upB
  rw [List.all_eq_true]
  intro i hi
  have := List.mem_range.1 hi
  by_cases h0 : 0 < i
  · simp [h i this h0]
  · simp; omega

/-- The Rate of the step ahead of step k, 0 if there is none. -/
def aheadR (st : List (Int × Int)) (k : Nat) : Int := if k = 0 then 0 else rat st (k - 1)

set_option maxHeartbeats 800000 in
theorem IsRising_impl (v : Value) (st : List (Int × Int)) (w : World) (hv : IsSteps w v st) (hl : st.length ≤ 9223372036854775807) :
    Calls Try.prog 35 #[v] w fun e w' => e = .returned (.bool (riseA st)) ∧ Below w.heap.size w w' := by
  have hv0 := hv
  obtain ⟨a, cap, rfl, hc⟩ := hv
  cases h1 : vSteps st
  · go_enter Try.func35, Try.ntmps35
    go_wp2_with fail
    refine (ValidSteps_impl _ _ _ hv0 hl).mono ?_
    rintro e w' ⟨rfl, hb⟩
    rw [h1]
    go_wp2
    go_ret
    exact ⟨ret_bool (by rw [riseA, h1]; rfl), hb⟩
  · have hs := vSteps_iff.1 h1
    have hl5 := hs.len5
    go_enter Try.func35, Try.ntmps35
    go_wp2_with fail
    refine (ValidSteps_impl _ _ _ hv0 hl).mono ?_
    rintro e w' ⟨rfl, hb⟩
    rw [h1]
    go_wp2
    go_loopw [3, 11] (fun t s wr => ∃ k : Nat, k ≤ st.length ∧ s = .int .i64 k ∧ t = .int .i64 (aheadR st k) ∧ (∀ i, i < k → 0 < i → rat st (i - 1) ≤ rat st i) ∧ Below w.heap.size w wr) (fun _ s _ => st.length - (intOf s).toNat)
    case atStart => exact ⟨0, Nat.zero_le _, rfl, rfl, fun i hi => by omega, hb⟩
    case round =>
      clear hb
      obtain ⟨k, hk, rfl, rfl, hup, hbl⟩ := hrel
      have HU := Lib.hid hup
      clear hup
      by_cases hlt : k < st.length
      · obtain ⟨b, off, rfl, c0, c1⟩ := hc k hlt
        have hbb : b < w.heap.size := World.block_lt_of_cell? w _ c0
        have d0 : wr.cell? ⟨b, off + k * 2, none⟩ = some (.int .i64 (frm st k)) := (hbl.cell (by exact hbb)).trans c0
        have d1 : wr.cell? ⟨b, off + k * 2 + 1, none⟩ = some (.int .i64 (rat st k)) := (hbl.cell (by exact hbb)).trans c1
        have k1 : (k : Int) < (st.length : Int) := by omega
        have hA : Hid (aheadR st (k + 1) = rat st k) := by show aheadR st (k + 1) = rat st k; simp [aheadR]
        clear hc
        by_cases hr : rat st k < aheadR st k
        · have hk0 : 0 < k := by
            rcases Nat.eq_zero_or_pos k with e | e
            · subst e; have := hs.rt 0 hlt; unfold aheadR at hr; rw [if_pos rfl] at hr; omega
            · exact e
          go_wp2
          go_ret
          exact ⟨ret_bool (by rw [riseA, h1, upB_no hlt hk0 (by unfold aheadR at hr; rwa [if_neg (by omega)] at hr)]; rfl), hbl.alloc hbl.size _⟩
        · go_wp2
          go_roundw
          case rel =>
            refine ⟨k + 1, by omega, by go_num, by rw [hA.out], fun i hi h0 => ?_, hbl.alloc hbl.size _⟩
            by_cases e : i = k
            · subst e; unfold aheadR at hr; rw [if_neg (by omega)] at hr; omega
            · exact HU.out i (by omega) h0
          case measure => simp [intOf]; omega
      · have HV := Lib.hid (upB_yes (st := st) (fun i hi h0 => HU.out i (by omega) h0))
        go_wp2
        go_ret
        exact ⟨ret_bool (by rw [riseA, h1, HV.out]; rfl), hbl⟩

end Go.Proofs.Ytmeejaafbbabaaa
