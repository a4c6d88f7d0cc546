/- Shares by the largest rests, in the model. -/
import Derived.Test.YtlibfmbbchhjeaaRank
namespace Go.Proofs.Ytlibfmbbchhjeaa
open Go.RowKit

def rAt (t : Int) (xs : List Int) (i : Nat) : Int := t * xs.getD i 0 % tot xs
def qAt (t : Int) (xs : List Int) (i : Nat) : Int := t * xs.getD i 0 / tot xs
def leftI (t : Int) (xs : List Int) : Int := t - tot (xs.map (fun x => t * x / tot xs))
def restAt (t : Int) (xs : List Int) (i : Nat) : Int := qAt t xs i + if (cntA (rAt t xs) i xs.length : Int) < leftI t xs then 1 else 0
def restL (t : Int) (xs : List Int) : List Int := if cShare t xs = true then (List.range xs.length).map (restAt t xs) else []

theorem restL_length (t : Int) (xs : List Int) : (restL t xs).length ≤ 8 := by
  unfold restL
  split
  · rename_i h
    have := (vParts_facts (cShare_facts h).2.2).1
    simp
    omega
  · simp

theorem mul_facts2 {t : Int} {xs : List Int} (t0 : 0 ≤ t) (t1 : t ≤ 100000) (hall : ∀ x ∈ xs, 0 ≤ x ∧ x ≤ 50) (k : Nat) (hk : k < xs.length) : 0 ≤ t * xs[k] ∧ t * xs[k] ≤ 5000000 := by
  have h := hall xs[k] (List.getElem_mem hk)
  have a : 0 ≤ t * xs[k] := Int.mul_nonneg t0 h.1
  have b : t * xs[k] ≤ 100000 * 50 := Int.mul_le_mul t1 h.2 h.1 (by omega)
  exact ⟨a, by omega⟩

theorem qAt_list (t : Int) (xs : List Int) : (List.range xs.length).map (qAt t xs) = xs.map (fun x => t * x / tot xs) := by
  apply List.ext_getElem
  · simp
  · intro i h1 h2
    have hi : i < xs.length := by simpa using h2
    simp [qAt, List.getD, hi]

theorem qr_facts {t : Int} {xs : List Int} (h : cShare t xs = true) (i : Nat) : (0 ≤ qAt t xs i ∧ qAt t xs i ≤ 5000000) ∧ 0 ≤ rAt t xs i ∧ rAt t xs i ≤ 400 := by
  obtain ⟨t0, t1, hvp⟩ := cShare_facts h
  obtain ⟨hlen, hall, s0, s1, hsf⟩ := vParts_facts hvp
  have hm : 0 ≤ t * xs.getD i 0 ∧ t * xs.getD i 0 ≤ 5000000 := by
    by_cases hi : i < xs.length
    · have := mul_facts2 t0 t1 hall i hi
      simpa [List.getD, hi] using this
    · simp [List.getD, hi]
  have a1 : 0 ≤ qAt t xs i := Int.ediv_nonneg hm.1 (by omega)
  have a2 : qAt t xs i ≤ t * xs.getD i 0 := Int.ediv_le_self _ hm.1
  have a3 : 0 ≤ rAt t xs i := Int.emod_nonneg _ (by omega)
  have a4 : rAt t xs i < tot xs := Int.emod_lt_of_pos _ (by omega)
  omega

theorem getD_range (n : Nat) (f : Nat → Int) (i : Nat) (h : i < n) : ((List.range n).map f).getD i 0 = f i := by
  simp [List.getD, h]

theorem set_range (n : Nat) (f g : Nat → Int) (m : Nat) (u : Int) (hm : g m = u) (h : ∀ j, j ≠ m → g j = f j) : ((List.range n).map f).set m u = (List.range n).map g := by
  apply List.ext_getElem
  · simp
  · intro i h1 h2
    rw [List.getElem_set]
    split
    · rename_i e
      subst e
      simp [hm]
    · rename_i e
      have := h i (fun x => e x.symm)
      simp [this]

theorem firstMax_start (f : Nat → Int) : FirstMax f 1 0 := by
  refine ⟨by omega, fun j hj => ?_, fun j hj => by omega⟩
  have : j = 0 := by omega
  subst this
  exact Int.le_refl _
theorem firstMax_take {f : Nat → Int} {n m : Nat} (h : FirstMax f n m) (hlt : f m < f n) : FirstMax f (n + 1) n := by
  refine ⟨by omega, fun j hj => ?_, fun j hj => ?_⟩
  · by_cases e : j = n
    · subst e; exact Int.le_refl _
    · have := h.2.1 j (by omega); omega
  · have := h.2.1 j hj; omega
theorem firstMax_keep {f : Nat → Int} {n m : Nat} (h : FirstMax f n m) (hge : f n ≤ f m) : FirstMax f (n + 1) m := by
  refine ⟨by have := h.1; omega, fun j hj => ?_, h.2.2⟩
  by_cases e : j = n
  · subst e; omega
  · exact h.2.1 j (by omega)

/-- A slice with elements has its shape. -/
theorem Own.shape {w : World} {B : Nat} {v : Value} {xs : List Int} (h : Own w B v xs) (hp : 0 < xs.length) : ∃ g cap, v = sl g xs.length cap := by
  rcases h.2 with ⟨_, h0⟩ | ⟨g, cap, cur, hv, _⟩
  · omega
  · exact ⟨g, cap, hv⟩

/-- The shares with p of them one more. -/
def outF (t : Int) (xs : List Int) (p : Nat → Bool) (i : Nat) : Int := qAt t xs i + if p i = true then 1 else 0

theorem outF_end {t : Int} {xs : List Int} {p : Nat → Bool} {k : Nat} (h : Inv (rAt t xs) xs.length p k) (hk : leftI t xs = k) : (List.range xs.length).map (outF t xs p) = (List.range xs.length).map (restAt t xs) := by
  apply List.map_congr_left
  intro i hi
  have hi' : i < xs.length := by simpa using hi
  have := inv_end h i hi'
  unfold outF restAt
  rw [hk]
  by_cases hp : p i = true
  · rw [if_pos hp, if_pos (by have := this.1 hp; omega)]
  · rw [if_neg hp, if_neg (by intro hx; exact hp (this.2 (by omega)))]

set_option maxHeartbeats 3200000 in
theorem largest_spec (t : Int) (v : Value) (xs : List Int) (w : World) (hv : IsInts w v xs) (h1 : cShare t xs = true) :
    Calls Try.prog 61 #[.int .i64 t, v] w fun e w' => ∃ v', e = .returned v' ∧ Own w' w.heap.size v' (restL t xs) ∧ Below w.heap.size w w' := by
  have hv' := hv
  obtain ⟨a, cap, rfl, hc⟩ := hv
  obtain ⟨t0, t1, hvp⟩ := cShare_facts h1
  obtain ⟨hlen, hall, s0, s1, hsf⟩ := vParts_facts hvp
  have HS := Lib.hid (show restL t xs = (List.range xs.length).map (restAt t xs) by rw [restL, if_pos h1])
  have hqr := fun i => qr_facts h1 i
  have HQ := Lib.hid hqr
  have hlb := left_bounds h1
  have hl : xs.length ≤ 9223372036854775807 := by omega
  have hb0 : Below w.heap.size w ((w.alloc (.cells #[] 3)).alloc (.cells #[] 3)) := ((Below.refl _ _).alloc (Nat.le_refl _) _).alloc (by simp) _
  have ho0 : Own ((w.alloc (.cells #[] 3)).alloc (.cells #[] 3)) w.heap.size (sl w.heap.size 0 0) [] := (own_empty w w.heap.size (Nat.le_refl _)).below ((Below.refl _ _).alloc (Nat.le_refl _) _)
  have ho1 : Own ((w.alloc (.cells #[] 3)).alloc (.cells #[] 3)) w.heap.size (sl (w.heap.size + 1) 0 0) [] := by
    have := own_empty (w.alloc (.cells #[] 3)) w.heap.size (by simp)
    simpa using this
  have hap : Apart (sl w.heap.size 0 0) (sl (w.heap.size + 1) 0 0) := .inr (by simp [Value.ownBlock])
  clear h1 hvp hqr
  go_enter Try.func61, Try.ntmps61
  go_wp2_with (go_at_call 68; refine (sum_spec _ _ _ hv' hl hsf).mono ?_; rintro e w' ⟨rfl, rfl⟩)
  go_loopw [6, 7, 8] (fun o q i wr => ∃ k : Nat, k ≤ xs.length ∧ i = .int .i64 k ∧ Own wr w.heap.size o ((List.range k).map (qAt t xs)) ∧ Own wr w.heap.size q ((List.range k).map (rAt t xs)) ∧ Apart o q ∧ Below w.heap.size w wr)
    (fun _ _ i _ => xs.length - (intOf i).toNat)
  case atStart => exact ⟨0, Nat.zero_le _, rfl, ho0, ho1, hap, hb0⟩
  case round =>
    obtain ⟨k, hk, rfl, hown, hownr, hapk, hbel⟩ := hrel
    have hsz := hbel.size
    clear ho0 hb0 ho1 hap
    by_cases hlt : k < xs.length
    · obtain ⟨b, off, rfl, hcell0⟩ := hc k hlt
      have hbb : b < w.heap.size := World.block_lt_of_cell? w _ hcell0
      have hcell : wr.cell? ⟨b, off + k, none⟩ = some (.int .i64 (xs.getD k 0)) := (hbel.cell (by exact hbb)).trans hcell0
      have hm := mul_facts2 t0 t1 hall k hlt
      have ex : xs.getD k 0 = xs[k] := by simp [List.getD, hlt]
      have e1 : (List.range k).map (qAt t xs) ++ [t * xs[k] / tot xs] = (List.range (k + 1)).map (qAt t xs) := by
        rw [List.range_succ, List.map_append, List.map_cons, List.map_nil, qAt, ex]
      have e2 : (List.range k).map (rAt t xs) ++ [t * xs[k] % tot xs] = (List.range (k + 1)).map (rAt t xs) := by
        rw [List.range_succ, List.map_append, List.map_cons, List.map_nil, rAt, ex]
      have E1 := Lib.hid e1
      have E2 := Lib.hid e2
      clear e1 e2 ex hc hv' hsf hall
      go_wp2_with (at_builtin; refine wpList_push hown (by simp; omega) hsz (h := ?_))
      intro v1 w1 hown1 hgr1 hm1
      have hb1 : Below w.heap.size w w1 := hbel.trans (hown.pushed_below hgr1 hsz)
      have hownr1 := hownr.kept hgr1 hapk.symm
      have hap1 : Apart u7 v1 := hapk.symm.moved hm1 hownr
      have hsz1 := hb1.size
      have hcell1 : w1.cell? ⟨b, off + k, none⟩ = some (.int .i64 (xs.getD k 0)) := (hb1.cell (by exact hbb)).trans hcell0
      rw [E1.out] at hown1
      clear hown hgr1 hm1 hownr hapk hbel hsz hcell
      go_wp2_with (at_builtin; refine wpList_push hownr1 (by simp; omega) hsz1 (h := ?_))
      intro v2 w2 hownr2 hgr2 hm2
      have hb2 : Below w.heap.size w w2 := hb1.trans (hownr1.pushed_below hgr2 hsz1)
      have hown2 := hown1.kept hgr2 hap1.symm
      have hap2 : Apart v1 v2 := hap1.symm.moved hm2 hown1
      rw [E2.out] at hownr2
      clear hown1 hgr2 hm2 hownr1 hap1 hb1 hsz1 hcell1
      go_wp2
      go_roundw
      case rel => exact ⟨k + 1, by omega, by go_num, hown2, hownr2, hap2, hb2⟩
      case measure => simp [intOf]; omega
    · have hk2 : k = xs.length := by omega
      subst hk2
      have hn0 : 0 < xs.length := by omega
      obtain ⟨go, co, hvo⟩ := hown.shape (by simpa using hn0)
      obtain ⟨gr, cr, hvr⟩ := hownr.shape (by simpa using hn0)
      rw [List.length_map, List.length_range] at hvo hvr
      subst hvo hvr
      have hgne : go ≠ gr := by
        rcases hapk with h | h
        · simp [Value.ownBlock] at h
        · simpa [Value.ownBlock] using h
      have hqb : ∀ x ∈ (List.range xs.length).map (qAt t xs), 0 ≤ x ∧ x ≤ 5000000 := by
        intro x hx
        obtain ⟨i, _, rfl⟩ := List.mem_map.1 hx
        exact (HQ.out i).1
      have hsq := sumFits_of _ 5000000 hqb (by omega) (by simp; omega)
      have hsumq : tot ((List.range xs.length).map (qAt t xs)) = t - leftI t xs := by
        rw [qAt_list]; unfold leftI; omega
      have hlb' : 0 ≤ leftI t xs ∧ leftI t xs < xs.length := hlb
      have HSQ := Lib.hid hsumq
      have hlq : ((List.range xs.length).map (qAt t xs)).length ≤ 9223372036854775807 := by simp; omega
      clear hc hv' hsf hall hqb hapk hsumq hlb
      go_wp2_with (go_at_call 68; refine (sum_spec _ _ _ hown.ints hlq hsq).mono ?_; rw [HSQ.out]; rintro e w' ⟨rfl, rfl⟩)
      have hown0 : Own wr w.heap.size (sl go xs.length co) ((List.range xs.length).map (outF t xs fun _ => false)) := by
        have : (List.range xs.length).map (outF t xs fun _ => false) = (List.range xs.length).map (qAt t xs) := by
          apply List.map_congr_left; intro i _; simp [outF]
        rw [this]; exact hown
      have hownr0 : Own wr w.heap.size (sl gr xs.length cr) ((List.range xs.length).map (restF (rAt t xs) fun _ => false)) := by
        have : (List.range xs.length).map (restF (rAt t xs) fun _ => false) = (List.range xs.length).map (rAt t xs) := by
          apply List.map_congr_left; intro i _; simp [restF]
        rw [this]; exact hownr
      have hinv0 := inv_start (rAt t xs) xs.length
      clear hown hownr
      go_loopw [9] (fun l wq => ∃ (k : Nat) (p : Nat → Bool), (k : Int) ≤ leftI t xs ∧ l = .int .i64 (leftI t xs - k) ∧ Inv (rAt t xs) xs.length p k ∧ Own wq w.heap.size (sl go xs.length co) ((List.range xs.length).map (outF t xs p)) ∧ Own wq w.heap.size (sl gr xs.length cr) ((List.range xs.length).map (restF (rAt t xs) p)) ∧ Below w.heap.size w wq)
        (fun l _ => (intOf l).toNat)
      case atStart => exact ⟨0, _, hlb'.1, congrArg (Value.int .i64) (by omega), hinv0, hown0, hownr0, hbel⟩
      case round =>
        clear hown0 hownr0 hinv0 hbel hsz hsq
        obtain ⟨k, p, hk, rfl, hinv, hown, hownr, hbel⟩ := hrel
        have HI := Lib.hid hinv
        clear hinv
        by_cases hlt : (0 : Int) < leftI t xs - k
        · obtain ⟨wo, rfl⟩ : ∃ wo : World, wo = wr := ⟨_, rfl⟩
          have hszo := hbel.size
          go_wp2
          go_loopw [10, 11] (fun at' i wi => ∃ m n : Nat, n ≤ xs.length ∧ at' = .int .i64 m ∧ i = .int .i64 n ∧ FirstMax (restF (rAt t xs) p) n m ∧ Below wo.heap.size wo wi)
            (fun _ i _ => xs.length - (intOf i).toNat)
          case atStart => exact ⟨0, 1, by omega, rfl, rfl, firstMax_start _, Below.refl _ _⟩
          case round =>
            obtain ⟨m, n, hnl, rfl, rfl, hfm, hbi⟩ := hrel
            have hmn : m < n := hfm.1
            have HF := Lib.hid hfm
            clear hfm
            by_cases hni : n < xs.length
            · have hbor := hownr.baseLe
              have hcn : wr.cell? ⟨gr, n, none⟩ = some (.int .i64 (restF (rAt t xs) p n)) := by
                rw [← getD_range xs.length (restF (rAt t xs) p) n hni]
                exact (hbi.cell (by exact hbor.2)).trans (hownr.cell (by simp) n hni)
              have hcm : wr.cell? ⟨gr, m, none⟩ = some (.int .i64 (restF (rAt t xs) p m)) := by
                rw [← getD_range xs.length (restF (rAt t xs) p) m (by omega)]
                exact (hbi.cell (by exact hbor.2)).trans (hownr.cell (by simp) m (by omega))
              have i1 : (n : Int) < (xs.length : Int) := by omega
              have i2 : (m : Int) < (xs.length : Int) := by omega
              by_cases hgt : restF (rAt t xs) p m < restF (rAt t xs) p n
              · have HG := Lib.hid hgt
                go_wp2
                go_quiet (fail)
                go_wp2
                go_roundw
                case rel => exact ⟨n, n + 1, by omega, rfl, by go_num, firstMax_take HF.out HG.out, below_drewN hbi _⟩
                case measure => simp [intOf]; omega
              · have HG := Lib.hid (show restF (rAt t xs) p n ≤ restF (rAt t xs) p m by omega)
                have hdec : decide (restF (rAt t xs) p m < restF (rAt t xs) p n) = false := decide_eq_false hgt
                clear hgt
                go_wp2
                go_quiet (fail)
                go_wp2
                go_roundw
                case rel => exact ⟨m, n + 1, by omega, rfl, by go_num, firstMax_keep HF.out HG.out, below_drewN hbi _⟩
                case measure => simp [intOf]; omega
            · have hn2 : n = xs.length := by omega
              have hfm := HF.out
              rw [hn2] at hfm
              have hml : m < xs.length := hfm.1
              have hkn : k < xs.length := by omega
              obtain ⟨hpm, hinv'⟩ := inv_step (fun j _ => (HQ.out j).2.1) HI.out hkn hfm
              have o1 := hown.below hbi
              have r1 := hownr.below hbi
              have hb1 : Below w.heap.size w wr := hbel.trans (hbi.mono hszo)
              have hco := o1.cell (by simp) m hml
              rw [getD_range _ _ _ hml] at hco
              have hfo := o1.frozen (by simp) m
              have hq := (HQ.out m).1
              have eo : outF t xs p m = qAt t xs m := by simp [outF, hpm]
              rw [eo] at hco
              have st1 := o1.set (by simp) m (qAt t xs m + 1)
              rw [set_range xs.length (outF t xs p) (outF t xs fun j => p j || decide (j = m)) m (qAt t xs m + 1) (by simp [outF]) (fun j hj => by simp [outF, hj])] at st1
              have r2 := r1.kept st1.2 (.inr (by simpa [Value.ownBlock] using fun e => hgne e.symm))
              have hcr := r2.cell (by simp) m hml
              have hfr := r2.frozen (by simp) m
              have hb2 : Below w.heap.size w _ := hb1.trans (below_grown st1.2 hb1.size (fun q hq => by cases hq; exact o1.baseLe.1))
              have st2 := r2.set (by simp) m (-1)
              rw [set_range xs.length (restF (rAt t xs) p) (restF (rAt t xs) fun j => p j || decide (j = m)) m (-1) (by simp [restF]) (fun j hj => by simp [restF, hj])] at st2
              have o3 := st1.1.kept st2.2 (.inr (by simpa [Value.ownBlock] using hgne))
              have hb3 : Below w.heap.size w _ := hb2.trans (below_grown st2.2 hb2.size (fun q hq => by cases hq; exact r2.baseLe.1))
              have O3 := Lib.hid o3
              have R3 := Lib.hid st2.1
              have HI3 := Lib.hid hinv'
              have il : (m : Int) < (xs.length : Int) := by omega
              clear hfm hinv' o1 r1 st1 st2 r2 o3 eo hpm hn2
              go_wp2
              go_roundw
              case rel => exact ⟨k + 1, _, by omega, congrArg (Value.int .i64) (by omega), HI3.out, O3.out, R3.out, hb3⟩
              case measure => simp [intOf]; omega
        · have hle : leftI t xs = k := by omega
          have hfin := outF_end HI.out hle
          rw [hfin, ← HS.out] at hown
          clear hfin hle
          go_wp2
          go_ret
          exact ⟨_, rfl, hown, hbel⟩

end Go.Proofs.Ytlibfmbbchhjeaa
