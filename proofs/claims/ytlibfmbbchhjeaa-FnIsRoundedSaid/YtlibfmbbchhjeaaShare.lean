/- What may be shared, and shares by rounded sums, in the program and in its model. -/
import Derived.Test.YtlibfmbbchhjeaaParts
import Derived.Test.YtlibfmbbchhjeaaSplit
namespace Go.Proofs.Ytlibfmbbchhjeaa
open Go.RowKit

/-- A total can be shared by weights. -/
def cShare (t : Int) (xs : List Int) : Bool := inR t 0 100000 && vParts xs

theorem vParts_facts {xs : List Int} (h : vParts xs = true) : (1 ≤ xs.length ∧ xs.length ≤ 8) ∧ (∀ x ∈ xs, 0 ≤ x ∧ x ≤ 50) ∧ 1 ≤ tot xs ∧ tot xs ≤ 400 ∧ SumFits xs := by
  unfold vParts at h
  simp only [Bool.and_eq_true, decide_eq_true_eq] at h
  have h1 := inR_true h.1.1
  have h2 := allR_true h.1.2
  have h3 := tot_bounds xs 50 h2
  exact ⟨by omega, h2, by omega, by omega, vParts_sumFits h.1.1 h.1.2⟩

theorem cShare_facts {t : Int} {xs : List Int} (h : cShare t xs = true) : 0 ≤ t ∧ t ≤ 100000 ∧ vParts xs = true := by
  unfold cShare at h
  simp only [Bool.and_eq_true] at h
  have := inR_true h.1
  exact ⟨this.1, this.2, h.2⟩

theorem tot_take_bounds {xs : List Int} (h : ∀ x ∈ xs, 0 ≤ x ∧ x ≤ 50) (hl : xs.length ≤ 8) (k : Nat) : 0 ≤ tot (xs.take k) ∧ tot (xs.take k) ≤ 400 := by
  have := tot_bounds (xs.take k) 50 (fun x hx => h x (List.mem_of_mem_take hx))
  have hl2 : (xs.take k).length ≤ 8 := by simp; omega
  omega

set_option maxHeartbeats 400000 in
theorem canShare_impl (t : Int) (v : Value) (xs : List Int) (w : World) (hv : IsInts w v xs) (hl : xs.length ≤ 9223372036854775807) :
    Calls Try.prog 58 #[.int .i64 t, v] w fun e w' => e = .returned (.bool (cShare t xs)) ∧ w = w' := by
  cases h1 : inR t 0 100000
  all_goals
    go_enter Try.func58, Try.ntmps58
    go_wp2_with (first | (go_at_call 53; refine (inRange_impl _ _ _ _).mono ?_; rintro e w' ⟨rfl, rfl⟩) | (go_at_call 18; refine (ValidParts_impl _ _ _ hv hl).mono ?_; rintro e w' ⟨rfl, rfl⟩))
    go_ret
    exact ⟨ret_bool (by rw [cShare, h1]; rfl), rfl⟩

set_option maxHeartbeats 400000 in
theorem validTotal_spec (t : Int) (v : Value) (xs : List Int) (w : World) (hv : IsInts w v xs) (hl : xs.length ≤ 9223372036854775807) :
    Calls Try.prog 60 #[.int .i64 t, v] w fun e w' => e = .returned (.bool (cShare t xs)) ∧ w = w' := by
  cases h1 : inR t 0 100000
  all_goals
    go_enter Try.func60, Try.ntmps60
    go_wp2_with (first | (go_at_call 66; refine (inRange_spec _ _ _ _).mono ?_; rintro e w' ⟨rfl, rfl⟩) | (go_at_call 56; refine (validParts_spec _ _ _ hv hl).mono ?_; rintro e w' ⟨rfl, rfl⟩))
    go_ret
    exact ⟨ret_bool (by rw [cShare, h1]; rfl), rfl⟩

/-- The total times a sum, divided by that of all and rounded, halves up. -/
def rd (t s u : Int) : Int := (2 * t * u + s) / (2 * s)

theorem rd_facts {t s u : Int} (h0 : 0 ≤ t) (h1 : t ≤ 100000) (h2 : 1 ≤ s) (h3 : s ≤ 400) (h4 : 0 ≤ u) (h5 : u ≤ 400) :
    (0 ≤ 2 * t * u ∧ 2 * t * u ≤ 80000000) ∧ 0 ≤ (2 * t * u + s) / (2 * s) ∧ (2 * t * u + s) / (2 * s) ≤ 80000400 := by
  have a : 0 ≤ 2 * t * u := Int.mul_nonneg (by omega) h4
  have b : 2 * t * u ≤ 200000 * 400 := Int.mul_le_mul (by omega) h5 h4 (by omega)
  refine ⟨⟨a, by omega⟩, Int.ediv_nonneg (by omega) (by omega), ?_⟩
  have := Int.ediv_le_self (2 * s) (show 0 ≤ 2 * t * u + s by omega)
  omega

theorem rd_bounds {t s u : Int} (h0 : 0 ≤ t) (h1 : t ≤ 100000) (h2 : 1 ≤ s) (h3 : s ≤ 400) (h4 : 0 ≤ u) (h5 : u ≤ 400) : 0 ≤ rd t s u ∧ rd t s u ≤ 80000400 := (rd_facts h0 h1 h2 h3 h4 h5).2

theorem rd_zero (t s : Int) (h2 : 1 ≤ s) : rd t s 0 = 0 := by
  unfold rd
  rw [Int.mul_zero, Int.zero_add]
  exact Int.ediv_eq_zero_of_lt (by omega) (by omega)

set_option maxHeartbeats 800000 in
theorem halvesUp_sums (a b : Int) (w : World) (ha : 0 ≤ a ∧ a ≤ 40000000) (hb : 1 ≤ b ∧ b ≤ 400) :
    Calls Try.prog 63 #[.int .i64 a, .int .i64 b] w fun e w' => e = .returned (.int .i64 ((2 * a + b) / (2 * b))) ∧ w = w' := by
  have hd0 := Int.ediv_nonneg (show 0 ≤ 2 * a + b by omega) (show 0 ≤ 2 * b by omega)
  have hd1 := Int.ediv_le_self (2 * b) (show 0 ≤ 2 * a + b by omega)
  have hb0 : 2 * b ≠ 0 := by omega
  generalize hq : (2 * a + b) / (2 * b) = q at *
  have HI : Hid (q = (2 * a + b) / (2 * b)) := hq.symm
  clear hq
  go_enter Try.func63, Try.ntmps63
  go_wp2
  go_ret
  exact ⟨ret_int HI.out.symm, rfl⟩

theorem halvesUp_rd {t s u : Int} (h0 : 0 ≤ t) (h1 : t ≤ 100000) (h2 : 1 ≤ s) (h3 : s ≤ 400) (h4 : 0 ≤ u) (h5 : u ≤ 400) (w : World) :
    Calls Try.prog 63 #[.int .i64 (t * u), .int .i64 s] w fun e w' => e = .returned (.int .i64 (rd t s u)) ∧ w = w' := by
  have f := (rd_facts h0 h1 h2 h3 h4 h5).1
  rw [Int.mul_assoc] at f
  have h := halvesUp_sums (t * u) s w (by omega) ⟨h2, h3⟩
  rw [rd, Int.mul_assoc]
  exact h

/-- The share by sums of the part with the index i. -/
def sumsAt (t : Int) (xs : List Int) (i : Nat) : Int := rd t (tot xs) (tot (xs.take (i + 1))) - rd t (tot xs) (tot (xs.take i))

def sumsL (t : Int) (xs : List Int) : List Int := if cShare t xs = true then (List.range xs.length).map (sumsAt t xs) else []

theorem sumsL_length (t : Int) (xs : List Int) : (sumsL t xs).length ≤ 8 := by
  unfold sumsL
  split
  · rename_i h
    have := (vParts_facts (cShare_facts h).2.2).1
    simp
    omega
  · simp

set_option maxHeartbeats 1600000 in
theorem ShareBySums_impl (t : Int) (v : Value) (xs : List Int) (w : World) (hv : IsInts w v xs) (hl : xs.length ≤ 9223372036854775807) :
    Calls Try.prog 27 #[.int .i64 t, v] w fun e w' => ∃ v', e = .returned v' ∧ Own w' w.heap.size v' (sumsL t xs) ∧ Below w.heap.size w w' := by
  have hv' := hv
  obtain ⟨a, cap, rfl, hc⟩ := hv
  cases h1 : cShare t xs
  · go_enter Try.func27, Try.ntmps27
    go_wp2_with (go_at_call 58; refine (canShare_impl _ _ _ _ hv' hl).mono ?_; rintro e w' ⟨rfl, rfl⟩)
    go_ret
    exact ⟨_, rfl, by rw [sumsL, h1]; exact own_nil _ _, Below.refl _ _⟩
  · obtain ⟨t0, t1, hvp⟩ := cShare_facts h1
    obtain ⟨hlen, hall, s0, s1, hsf⟩ := vParts_facts hvp
    have HS := Lib.hid (show sumsL t xs = (List.range xs.length).map (sumsAt t xs) by rw [sumsL, if_pos h1])
    obtain ⟨i0, hi, hz0, hz1, hz2⟩ := info_parts infoInt
    go_enter Try.func27, Try.ntmps27
    go_wp2_with (first | (go_at_call 58; refine (canShare_impl _ _ _ _ hv' hl).mono ?_; rintro e w' ⟨rfl, rfl⟩) | (go_at_call 55; refine (sum_impl _ _ _ hv' hl hsf).mono ?_; rintro e w' ⟨rfl, rfl⟩) | (at_make; refine wpList_make_full _ rfl _ _ 23 rfl w.heap.size 3 i0 (.int .i64 0) 1 Try.underlying23 hi hz0 hz1 _ _ _ _ xs.length rfl rfl rfl rfl ?b2 ?b3 (Nat.le_refl _) ?_))
    case b2 => rw [hz2]; omega
    case b3 => unfold maxLen; omega
    clear hi hz0 hz1 hz2 hvp
    intro w0 hown0 hgrow0
    have hb0 : Below w.heap.size w w0 := below_grown hgrow0 (Nat.le_refl _) (fun k h => by cases h)
    have ho0 : Own w0 w.heap.size (sl w.heap.size xs.length xs.length) (List.replicate xs.length 0) := own_made (by simpa using hown0)
    clear hown0 hgrow0
    go_wp2
    go_loopw [7, 8, 23] (fun u g i wr => ∃ (k : Nat) (ys : List Int), k ≤ xs.length ∧ i = .int .i64 k ∧ u = .int .i64 (tot (xs.take k)) ∧ g = .int .i64 (rd t (tot xs) (tot (xs.take k))) ∧ ys.length = xs.length ∧ (∀ j, j < k → ys.getD j 0 = sumsAt t xs j) ∧ Own wr w.heap.size (sl w.heap.size xs.length xs.length) ys ∧ Below w.heap.size w wr)
      (fun _ _ i _ => xs.length - (intOf i).toNat)
    case atStart => exact ⟨0, _, Nat.zero_le _, rfl, rfl, by rw [show tot (xs.take 0) = 0 from rfl, rd_zero _ _ s0], by simp, fun j hj => by omega, ho0, hb0⟩
    case round =>
      obtain ⟨k, ys, hk, rfl, rfl, rfl, hyl, hys, hown, hbel⟩ := hrel
      by_cases hlt : k < xs.length
      · obtain ⟨b, off, rfl, hcell0⟩ := hc k hlt
        have hcell : wr.cell? ⟨b, off + k, none⟩ = some (.int .i64 (xs.getD k 0)) := (hbel.cell (by exact World.block_lt_of_cell? w _ hcell0)).trans hcell0
        have hkl : k < ys.length := by omega
        have hdst := hown.cell hyl k hlt
        have hfr := hown.frozen hyl k
        have hsk := tot_take_succ xs k hlt
        have u0 := tot_take_bounds hall hlen.2 k
        have u1 := tot_take_bounds hall hlen.2 (k + 1)
        have g0 := rd_bounds t0 t1 s0 s1 u0.1 u0.2
        have g1 := rd_facts t0 t1 s0 s1 u1.1 u1.2
        rw [hsk] at u1 g1
        have HC1 := Lib.hid (halvesUp_rd t0 t1 s0 s1 u1.1 u1.2)
        have W1 : IntKind.i64.wrap (t * (tot (xs.take k) + xs[k])) = t * (tot (xs.take k) + xs[k]) := by
          have f := g1.1
          rw [Int.mul_assoc] at f
          exact IntWalk.i64_in _ (by omega)
        have st := hown.set hyl k (rd t (tot xs) (tot (xs.take k) + xs[k]) - rd t (tot xs) (tot (xs.take k)))
        have hb1 : Below w.heap.size w _ := hbel.trans (below_grown st.2 hbel.size (fun q hq => by cases hq; exact Nat.le_refl _))
        have g2 := rd_bounds t0 t1 s0 s1 u1.1 u1.2
        have HK := Lib.hid hsk
        have HA := Lib.hid hys
        have HL := Lib.hid hyl
        have O1 := Lib.hid st.1
        clear g1
        clear hsk hys hyl st hown ho0 hc hv' hsf hcell0 hall
        go_wp2_with (go_at_call 63; refine (HC1.out _).mono ?_; rintro e w' ⟨rfl, rfl⟩)
        go_roundw
        case rel =>
          refine ⟨k + 1, _, by omega, by go_num, by rw [HK.out], by rw [HK.out], ?_, ?_, O1.out, hb1⟩
          · simpa using HL.out
          · intro j hj
            by_cases hjk : j = k
            · subst hjk
              rw [getD_set_eq _ _ _ hkl, sumsAt, HK.out]
            · rw [getD_set_ne _ _ _ _ hjk]
              exact HA.out j (by omega)
        case measure => simp [intOf]; omega
      · have e := list_of_getD ys xs.length (sumsAt t xs) hyl (fun j hj => hys j (by omega))
        rw [e, ← HS.out] at hown
        clear hyl hys e
        go_wp2
        go_ret
        exact ⟨_, rfl, hown, hbel⟩

set_option maxHeartbeats 1600000 in
theorem running_spec (t : Int) (v : Value) (xs : List Int) (w : World) (hv : IsInts w v xs) (h1 : cShare t xs = true) :
    Calls Try.prog 64 #[.int .i64 t, v] w fun e w' => ∃ v', e = .returned v' ∧ Own w' w.heap.size v' (sumsL t xs) ∧ Below w.heap.size w w' := by
  have hv' := hv
  obtain ⟨a, cap, rfl, hc⟩ := hv
  obtain ⟨t0, t1, hvp⟩ := cShare_facts h1
  obtain ⟨hlen, hall, s0, s1, hsf⟩ := vParts_facts hvp
  have HS := Lib.hid (show sumsL t xs = (List.range xs.length).map (sumsAt t xs) by rw [sumsL, if_pos h1])
  have ho0 := own_empty w w.heap.size (Nat.le_refl _)
  have hb0 : Below w.heap.size w (w.alloc (.cells #[] 3)) := (Below.refl _ _).alloc (Nat.le_refl _) _
  have hl : xs.length ≤ 9223372036854775807 := by omega
  clear h1 hvp
  go_enter Try.func64, Try.ntmps64
  go_wp2_with (go_at_call 68; refine (sum_spec _ _ _ hv' hl hsf).mono ?_; rintro e w' ⟨rfl, rfl⟩)
  go_loopw [6, 7, 8, 9] (fun o u g i wr => ∃ k : Nat, k ≤ xs.length ∧ i = .int .i64 k ∧ u = .int .i64 (tot (xs.take k)) ∧ g = .int .i64 (rd t (tot xs) (tot (xs.take k))) ∧ Own wr w.heap.size o ((List.range k).map (sumsAt t xs)) ∧ Below w.heap.size w wr)
    (fun _ _ _ i _ => xs.length - (intOf i).toNat)
  case atStart => exact ⟨0, Nat.zero_le _, rfl, rfl, by rw [show tot (xs.take 0) = 0 from rfl, rd_zero _ _ s0], ho0, hb0⟩
  case round =>
    obtain ⟨k, hk, rfl, rfl, rfl, hown, hbel⟩ := hrel
    have hsz := hbel.size
    clear ho0 hb0
    by_cases hlt : k < xs.length
    · obtain ⟨b, off, rfl, hcell0⟩ := hc k hlt
      have hcell : wr.cell? ⟨b, off + k, none⟩ = some (.int .i64 (xs.getD k 0)) := (hbel.cell (by exact World.block_lt_of_cell? w _ hcell0)).trans hcell0
      have hsk := tot_take_succ xs k hlt
      have u0 := tot_take_bounds hall hlen.2 k
      have u1 := tot_take_bounds hall hlen.2 (k + 1)
      have g0 := rd_bounds t0 t1 s0 s1 u0.1 u0.2
      have g1 := rd_facts t0 t1 s0 s1 u1.1 u1.2
      rw [hsk] at u1 g1
      have HK := Lib.hid hsk
      clear hsk hc hv' hsf hcell0 hall
      go_wp2_with (at_builtin; refine wpList_push hown (by simp; omega) hsz (h := ?_))
      intro v' w1 hown1 hgr1 _
      have hb1 : Below w.heap.size w w1 := hbel.trans (hown.pushed_below hgr1 hsz)
      have e : (List.range k).map (sumsAt t xs) ++ [(2 * t * (tot (xs.take k) + xs[k]) + tot xs) / (2 * tot xs) - rd t (tot xs) (tot (xs.take k))] = (List.range (k + 1)).map (sumsAt t xs) := by
        rw [List.range_succ, List.map_append, List.map_cons, List.map_nil]
        congr 2
        rw [sumsAt, HK.out]
        rfl
      rw [e] at hown1
      clear hown hgr1 e
      go_wp2
      go_roundw
      case rel => exact ⟨k + 1, by omega, by go_num, by rw [HK.out], by rw [HK.out]; rfl, hown1, hb1⟩
      case measure => simp [intOf]; omega
    · have hk2 : k = xs.length := by omega
      have hown' : Own wr w.heap.size u6 (sumsL t xs) := by rw [HS.out, ← hk2]; exact hown
      clear hown hk2
      go_wp2
      go_ret
      exact ⟨_, rfl, hown', hbel⟩

end Go.Proofs.Ytlibfmbbchhjeaa
