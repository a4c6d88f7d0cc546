/- Shares by the largest rests, in the program. Readers of which some numbers have been picked; one of a list. Drawn weights, and drawn coins with their bounds. -/
import Derived.Test.YtpenbkfchgeafaaGreatDoorQOwnB
import Derived.Test.YtpenbkfchgeafaaGreatDoorQPush
import Derived.Deep.LoopGhost
import Derived.WalkMore
import Derived.Lib.Hide
namespace Go.Proofs.YtpenbkfchgeafaaGreatDoor
open Go.RowKit

set_option maxHeartbeats 800000 in
/-- The closure: whether the part with the index i is ahead of that with the index j; what it captured: total, weights, sum. -/
theorem isAhead_any (t : Int) (a : Option Addr) (cap : Nat) (xs : List Int) (i j : Nat) (p q s : Addr) (w : World) (h1 : cShare t xs = true)
    (hp : w.cell? p = some (.int .i64 t)) (hq : w.cell? q = some (.slice a xs.length cap)) (hs : w.cell? s = some (.int .i64 (tot xs)))
    (hc : ∀ j, j < xs.length → ∃ b off, a = some ⟨b, off, none⟩ ∧ w.cell? ⟨b, off + j, none⟩ = some (.int .i64 (xs.getD j 0)))
    (hi : i < xs.length) (hj : j < xs.length) :
    Calls Tryz.prog 71 #[.int .i64 i, .int .i64 j, .pointer (some p), .pointer (some q), .pointer (some s)] w fun e w' => e = .returned (.bool (aheadB (rAt t xs) i j)) ∧ ∃ m, w' = w.drewN m := by
  obtain ⟨t0, t1, hvp⟩ := cShare_facts h1
  obtain ⟨hlen, hall, s0, s1, hsf⟩ := vParts_facts hvp
  obtain ⟨b, off, rfl, hci⟩ := hc i hi
  obtain ⟨b2, off2, e2, hcj⟩ := hc j hj
  simp only [Option.some.injEq, Addr.mk.injEq, and_true] at e2
  obtain ⟨rfl, rfl⟩ := e2
  have mi := mul_facts2 t0 t1 hall i hi
  have mj := mul_facts2 t0 t1 hall j hj
  have ei : xs.getD i 0 = xs[i] := by simp [List.getD, hi]
  have ej : xs.getD j 0 = xs[j] := by simp [List.getD, hj]
  rw [ei] at hci
  rw [ej] at hcj
  have HE : Hid (aheadB (rAt t xs) i j = (decide (t * xs[j] % tot xs < t * xs[i] % tot xs) || (decide (t * xs[i] % tot xs = t * xs[j] % tot xs) && decide (i < j)))) := by
    unfold aheadB rAt
    rw [ei, ej]
    rfl
  have ri : IntKind.i64.wrap (t * xs[i]) = t * xs[i] := IntWalk.i64_in _ (by omega)
  have rj : IntKind.i64.wrap (t * xs[j]) = t * xs[j] := IntWalk.i64_in _ (by omega)
  have i1 : (i : Int) < (xs.length : Int) := by omega
  have i2 : (j : Int) < (xs.length : Int) := by omega
  have RI := Lib.hid ri
  have RJ := Lib.hid rj
  clear hc hall hsf hvp h1 ei ej ri rj
  go_enter Tryz.func71, Tryz.ntmps71
  go_wp2
  have ri := RI.out
  have rj := RJ.out
  go_quiet (fail)
  clear ri rj
  by_cases hAB : t * xs[j] % tot xs < t * xs[i] % tot xs
  · have hd : decide (t * xs[j] % tot xs < t * xs[i] % tot xs) = true := decide_eq_true hAB
    go_wp2
    go_ret
    exact ⟨ret_bool (by rw [HE.out, hd]; rfl), _, rfl⟩
  · have hd : decide (t * xs[j] % tot xs < t * xs[i] % tot xs) = false := decide_eq_false hAB
    by_cases hEq : t * xs[i] % tot xs = t * xs[j] % tot xs
    · have he : (t * xs[i] % tot xs == t * xs[j] % tot xs) = true := by simpa using hEq
      have HEq := Lib.hid hEq
      clear hEq
      go_wp2
      go_ret
      exact ⟨ret_bool (by rw [HE.out, hd, decide_eq_true HEq.out]; simp), _, rfl⟩
    · have he : (t * xs[i] % tot xs == t * xs[j] % tot xs) = false := by simpa using hEq
      have HEq := Lib.hid hEq
      clear hEq
      go_wp2
      go_ret
      exact ⟨ret_bool (by rw [HE.out, hd, decide_eq_false HEq.out]; simp), _, rfl⟩

theorem boxes3 (w : World) (x y z : Value) (tx ty tz : TypeId) :
    (((w.alloc (.cells #[x] tx)).alloc (.cells #[y] ty)).alloc (.cells #[z] tz)).cell? ⟨w.heap.size, 0, none⟩ = some x ∧
    (((w.alloc (.cells #[x] tx)).alloc (.cells #[y] ty)).alloc (.cells #[z] tz)).cell? ⟨w.heap.size + 1, 0, none⟩ = some y ∧
    (((w.alloc (.cells #[x] tx)).alloc (.cells #[y] ty)).alloc (.cells #[z] tz)).cell? ⟨w.heap.size + 1 + 1, 0, none⟩ = some z := by
  refine ⟨?_, ?_, ?_⟩
  · rw [World.cell?_alloc_past _ _ _ (by simp; omega), World.cell?_alloc_past _ _ _ (by simp), World.cell?_alloc_at _ _ _ _ rfl]; rfl
  · rw [World.cell?_alloc_past _ _ _ (by simp), World.cell?_alloc_at _ _ _ _ (by simp)]; rfl
  · rw [World.cell?_alloc_at _ _ _ _ (by simp)]; rfl

/-- The shares with the first k of them decided. -/
def shareF (t : Int) (xs : List Int) (k i : Nat) : Int := qAt t xs i + if i < k ∧ (cntA (rAt t xs) i xs.length : Int) < leftI t xs then 1 else 0

theorem shareF_zero (t : Int) (xs : List Int) : shareF t xs 0 = qAt t xs := by
  funext i; simp [shareF]
theorem shareF_end (t : Int) (xs : List Int) : (List.range xs.length).map (shareF t xs xs.length) = (List.range xs.length).map (restAt t xs) := by
  apply List.map_congr_left
  intro i hi
  have hi' : i < xs.length := by simpa using hi
  simp [shareF, restAt, hi']
theorem shareF_skip {t : Int} {xs : List Int} {k : Nat} (h : ¬ (cntA (rAt t xs) k xs.length : Int) < leftI t xs) : (List.range xs.length).map (shareF t xs (k + 1)) = (List.range xs.length).map (shareF t xs k) := by
  apply List.map_congr_left
  intro i hi
  unfold shareF
  by_cases e : i = k
  · subst e; simp [h]
  · have : i < k + 1 ↔ i < k := by omega
    simp [this]
theorem shareF_take {t : Int} {xs : List Int} {k : Nat} (h : (cntA (rAt t xs) k xs.length : Int) < leftI t xs) : ((List.range xs.length).map (shareF t xs k)).set k (qAt t xs k + 1) = (List.range xs.length).map (shareF t xs (k + 1)) := by
  apply set_range
  · simp [shareF, h]
  · intro i hi
    unfold shareF
    have : i < k + 1 ↔ i < k := by omega
    simp [this]
theorem cntA_mono (r : Nat → Int) (i : Nat) {n m : Nat} (h : n ≤ m) : cntA r i n ≤ cntA r i m := by
  induction m with
  | zero => have : n = 0 := by omega
            subst this; exact Nat.le_refl _
  | succ m ih =>
    by_cases e : n = m + 1
    · subst e; exact Nat.le_refl _
    · have := ih (by omega)
      rw [cntA_succ]
      omega

set_option maxHeartbeats 3200000 in
theorem ShareByRest_impl (t : Int) (v : Value) (xs : List Int) (w : World) (hv : IsInts w v xs) (hl : xs.length ≤ 9223372036854775807) :
    Calls Tryz.prog 56 #[.int .i64 t, v] w fun e w' => ∃ v', e = .returned v' ∧ Own w' w.heap.size v' (restL t xs) ∧ Below w.heap.size w w' := by
  have hv' := hv
  obtain ⟨a, cap, rfl, hc⟩ := hv
  have hb2 : Below w.heap.size w ((w.alloc (.cells #[.int .i64 t] 3)).alloc (.cells #[.slice a xs.length cap] 35)) := ((Below.refl _ _).alloc (Nat.le_refl _) _).alloc (by simp) _
  have hv2 := hv'.below hb2
  cases h1 : cShare t xs
  · go_enter Tryz.func56, Tryz.ntmps56
    go_wp2
    go_step3
    go_wp2_with (go_at_call 69; refine (canShare_impl _ _ _ _ hv2 hl).mono ?_; rintro e w' ⟨rfl, rfl⟩)
    rw [Exit.noGoto_ret]
    go_ret
    exact ⟨_, rfl, by rw [restL, h1]; exact own_nil _ _, hb2⟩
  · obtain ⟨t0, t1, hvp⟩ := cShare_facts h1
    obtain ⟨hlen, hall, s0, s1, hsf⟩ := vParts_facts hvp
    have HS := Lib.hid (show restL t xs = (List.range xs.length).map (restAt t xs) by rw [restL, if_pos h1])
    obtain ⟨i0, hi, hz0, hz1, hz2⟩ := info_parts infoInt
    go_enter Tryz.func56, Tryz.ntmps56
    go_wp2
    go_step3
    go_wp2_with (first | (go_at_call 69; refine (canShare_impl _ _ _ _ hv2 hl).mono ?_; rintro e w' ⟨rfl, rfl⟩) | (go_at_call 70; refine (sum_impl _ _ _ hv2 hl hsf).mono ?_; rintro e w' ⟨rfl, rfl⟩) | (at_make; refine wpList_make_full _ rfl _ _ 35 rfl (w.heap.size + 1 + 1 + 1) 3 i0 (.int .i64 0) 1 Tryz.underlying35 hi hz0 hz1 _ _ _ _ xs.length rfl rfl rfl rfl ?b2 ?b3 ?b4 ?_))
    case b2 => rw [hz2]; omega
    case b3 => unfold maxLen; omega
    case b4 => simp
    clear hi hz0 hz1 hz2 hvp
    intro w3 hown0 hgrow0
    have hsz3 : w.heap.size + 1 + 1 + 1 ≤ w3.heap.size := by have := hgrow0.size; simpa using this
    have hb03 : Below (w.heap.size + 1 + 1 + 1) (((w.alloc (.cells #[.int .i64 t] 3)).alloc (.cells #[.slice a xs.length cap] 35)).alloc (.cells #[.int .i64 (tot xs)] 3)) w3 := below_grown hgrow0 (by simp) (fun k h => by cases h)
    have hbw : Below w.heap.size w w3 := ((hb2.alloc (by simp; omega) _).trans (hb03.mono (by omega)))
    have hbx := boxes3 w (.int .i64 t) (.slice a xs.length cap) (.int .i64 (tot xs)) 3 35 3
    have c1 : w3.cell? ⟨w.heap.size, 0, none⟩ = some (.int .i64 t) := (hb03.cell (by show w.heap.size < _; omega)).trans hbx.1
    have c2 : w3.cell? ⟨w.heap.size + 1, 0, none⟩ = some (.slice a xs.length cap) := (hb03.cell (by show w.heap.size + 1 < _; omega)).trans hbx.2.1
    have c3 : w3.cell? ⟨w.heap.size + 1 + 1, 0, none⟩ = some (.int .i64 (tot xs)) := (hb03.cell (by show w.heap.size + 1 + 1 < _; omega)).trans hbx.2.2
    have ho0 : Own w3 (w.heap.size + 1 + 1 + 1) (sl (w.heap.size + 1 + 1 + 1) xs.length xs.length) (List.replicate xs.length 0) := own_made (by simpa using hown0)
    have hcells : ∀ wr, Below (w.heap.size + 1 + 1 + 1) w3 wr → wr.cell? ⟨w.heap.size, 0, none⟩ = some (.int .i64 t) ∧ wr.cell? ⟨w.heap.size + 1, 0, none⟩ = some (.slice a xs.length cap) ∧ wr.cell? ⟨w.heap.size + 1 + 1, 0, none⟩ = some (.int .i64 (tot xs)) ∧
        ∀ j, j < xs.length → ∃ b off, a = some ⟨b, off, none⟩ ∧ wr.cell? ⟨b, off + j, none⟩ = some (.int .i64 (xs.getD j 0)) := by
      intro wr hb
      refine ⟨(hb.cell (by show w.heap.size < _; omega)).trans c1, (hb.cell (by show w.heap.size + 1 < _; omega)).trans c2, (hb.cell (by show w.heap.size + 1 + 1 < _; omega)).trans c3, fun j hj => ?_⟩
      obtain ⟨b, off, ha, hcell⟩ := hc j hj
      have hbb := World.block_lt_of_cell? w _ hcell
      have hbb2 : b < w.heap.size := hbb
      exact ⟨b, off, ha, (hb.cell (by show b < _; omega)).trans ((hbw.cell hbb).trans hcell)⟩
    have HC := Lib.hid hcells
    have HX := Lib.hid h1
    clear hown0 hgrow0 hb03 hcells hc hbx h1
    go_wp2
    go_loopw [25] (fun i wr => ∃ (k : Nat) (ys : List Int), k ≤ xs.length ∧ i = .int .i64 k ∧ ys.length = xs.length ∧ (∀ j, j < k → ys.getD j 0 = qAt t xs j) ∧ Own wr (w.heap.size + 1 + 1 + 1) (sl (w.heap.size + 1 + 1 + 1) xs.length xs.length) ys ∧ Below (w.heap.size + 1 + 1 + 1) w3 wr)
      (fun i _ => xs.length - (intOf i).toNat)
    case atStart => exact ⟨0, _, Nat.zero_le _, rfl, by simp, fun j hj => by omega, ho0, Below.refl _ _⟩
    case round =>
      obtain ⟨k, ys, hk, rfl, hyl, hys, hown, hbel⟩ := hrel
      obtain ⟨d1, d2, d3, dc⟩ := HC.out wr hbel
      have hszr := hbel.size
      clear c1 c2 c3 ho0 hv' hb2 hv2
      by_cases hlt : k < xs.length
      · obtain ⟨b, off, rfl, hcell0⟩ := dc k hlt
        have ex : xs.getD k 0 = xs[k] := by simp [List.getD, hlt]
        rw [ex] at hcell0
        have hm := mul_facts2 t0 t1 hall k hlt
        have hkl : k < ys.length := by omega
        have hdst := hown.cell hyl k hlt
        have hfr := hown.frozen hyl k
        have st := hown.set hyl k (t * xs[k] / tot xs)
        have hb1 : Below (w.heap.size + 1 + 1 + 1) w3 _ := hbel.trans (below_grown st.2 (by omega) (fun q hq => by cases hq; exact Nat.le_refl _))
        have HA := Lib.hid hys
        have HL := Lib.hid hyl
        have HE : Hid (t * xs[k] / tot xs = qAt t xs k) := by show _ = _; rw [qAt, ex]
        have O1 := Lib.hid st.1
        clear hys hyl st hown dc hsf hall ex
        go_wp2
        go_roundw
        case rel =>
          refine ⟨k + 1, _, by omega, by go_num, ?_, ?_, O1.out, hb1⟩
          · simpa using HL.out
          · intro j hj
            by_cases hjk : j = k
            · subst hjk
              rw [getD_set_eq _ _ _ hkl, HE.out]
            · rw [getD_set_ne _ _ _ _ hjk]
              exact HA.out j (by omega)
        case measure => simp [intOf]; omega
      · have e := list_of_getD ys xs.length (qAt t xs) hyl (fun j hj => hys j (by omega))
        subst e
        have hqb : ∀ x ∈ (List.range xs.length).map (qAt t xs), 0 ≤ x ∧ x ≤ 5000000 := by
          intro x hx
          obtain ⟨i, _, rfl⟩ := List.mem_map.1 hx
          exact (qr_facts HX.out i).1
        have hsq := sumFits_of _ 5000000 hqb (by omega) (by simp; omega)
        have hsumq : tot ((List.range xs.length).map (qAt t xs)) = t - leftI t xs := by
          rw [qAt_list]; unfold leftI; omega
        have hlb := left_bounds HX.out
        have hlb' : 0 ≤ leftI t xs ∧ leftI t xs < xs.length := hlb
        have hlq : ((List.range xs.length).map (qAt t xs)).length ≤ 9223372036854775807 := by simp; omega
        have hqi : ∀ n, IsInts (wr.drewN n) (sl (w.heap.size + 1 + 1 + 1) xs.length xs.length) ((List.range xs.length).map (qAt t xs)) := fun n => hown.ints.below (below_drewN (Below.refl _ _) n)
        have HSQ := Lib.hid hsumq
        have HQI := Lib.hid hqi
        have hown0 : Own wr (w.heap.size + 1 + 1 + 1) (sl (w.heap.size + 1 + 1 + 1) xs.length xs.length) ((List.range xs.length).map (shareF t xs 0)) := by rw [shareF_zero]; exact hown
        clear hys hyl hown dc hsf hall hqb hsumq hlb hqi
        go_wp2
        go_quiet ((go_at_call 70; refine quiet_left (sum_impl _ _ _ (HQI.out _) hlq hsq)))
        have hw : wrap64 (t - (t - leftI t xs)) = leftI t xs := by rw [IntWalk.wrap64_in _ (by omega)]; omega
        rw [HSQ.out, hw]
        clear hw
        have hbq : Below (w.heap.size + 1 + 1 + 1) w3 (wr.drewN nq) := below_drewN hbel nq
        have hownq : Own (wr.drewN nq) (w.heap.size + 1 + 1 + 1) (sl (w.heap.size + 1 + 1 + 1) xs.length xs.length) ((List.range xs.length).map (shareF t xs 0)) := hown0.below (below_drewN (Below.refl _ _) nq)
        obtain ⟨wz, hwz⟩ : ∃ wz, wz = wr.drewN nq := ⟨_, rfl⟩
        rw [← hwz] at hbq hownq ⊢
        clear hwz hown0 hbel hsq d1 d2 d3 hszr
        go_wp2
        go_step3
        go_wp2
        go_loopg [46] xs.length (fun g i wy => ∃ k : Nat, k + g = xs.length ∧ i = .int .i64 k ∧ Own wy (w.heap.size + 1 + 1 + 1) (sl (w.heap.size + 1 + 1 + 1) xs.length xs.length) ((List.range xs.length).map (shareF t xs k)) ∧ Below (w.heap.size + 1 + 1 + 1) w3 wy)
        case atStart => exact ⟨0, by omega, rfl, hownq, hbq⟩
        case round =>
          clear hownq hbq
          obtain ⟨k, hkg, rfl, hown, hbel⟩ := hrel
          have HKG := Lib.hid hkg
          clear hkg
          cases gk with
          | zero =>
            have hk0 := HKG.out
            have hkz : ¬ ((k : Int) < (xs.length : Int)) := by omega
            have hk2 : k = xs.length := by omega
            rw [hk2, shareF_end, ← HS.out] at hown
            have hbf : Below w.heap.size w wr := hbw.trans (hbel.mono (by omega))
            have hown2 := hown.base (show w.heap.size ≤ w.heap.size + 1 + 1 + 1 by omega)
            clear hk0 hk2 hown
            go_wp2
            go_ret
            exact ⟨_, rfl, hown2, hbf⟩
          | succ g =>
            have hk0 := HKG.out
            have hkz : (k : Int) < (xs.length : Int) := by omega
            have hkn : k < xs.length := by omega
            clear hk0
            obtain ⟨wo, rfl⟩ : ∃ wo : World, wo = wr := ⟨_, rfl⟩
            have hszo := hbel.size
            go_wp2
            go_loopg [12, 51] xs.length (fun g2 c j wi => ∃ n : Nat, n + g2 = xs.length ∧ j = .int .i64 n ∧ c = .int .i64 (cntA (rAt t xs) k n) ∧ (0 < n → (cntA (rAt t xs) k n : Int) < leftI t xs) ∧ Below wo.heap.size wo wi)
            case atStart => exact ⟨0, by omega, rfl, rfl, fun h => by omega, Below.refl _ _⟩
            case round =>
              obtain ⟨n, hng, rfl, rfl, hcl, hbi⟩ := hrel
              have HNG := Lib.hid hng
              have HCL := Lib.hid hcl
              clear hng hcl
              have hbw2 : Below (w.heap.size + 1 + 1 + 1) w3 wr := hbel.trans (hbi.mono (by omega))
              have hown2 := hown.below hbi
              have hcle := cntA_le (rAt t xs) k n
              cases gk with
              | zero =>
                have hnz : ¬ ((n : Int) < (xs.length : Int)) := by have := HNG.out; omega
                have hn2 : n = xs.length := by have := HNG.out; omega
                have hlt := HCL.out (by omega)
                have HLT : Hid ((cntA (rAt t xs) k xs.length : Int) < leftI t xs) := by rw [hn2] at hlt; exact hlt
                have hcell := hown2.cell (by simp) k hkn
                have hfr := hown2.frozen (by simp) k
                have hkk : shareF t xs k k = qAt t xs k := by simp [shareF]
                rw [getD_range _ _ _ hkn, hkk] at hcell
                have hq := (qr_facts HX.out k).1
                have st := hown2.set (by simp) k (qAt t xs k + 1)
                rw [shareF_take HLT.out] at st
                have hb1 : Below (w.heap.size + 1 + 1 + 1) w3 _ := hbw2.trans (below_grown st.2 (by have := hbw2.size; omega) (fun q hq => by cases hq; exact Nat.le_refl _))
                have O1 := Lib.hid st.1
                clear hlt hkk st hown2 hown hn2
                go_wp2
                go_roundg g
                case measure => omega
                case rel => exact ⟨k + 1, by have := HKG.out; omega, by go_num, O1.out, hb1⟩
              | succ g2 =>
                have hnz : (n : Int) < (xs.length : Int) := by have := HNG.out; omega
                have hnn : n < xs.length := by have := HNG.out; omega
                obtain ⟨d1, d2, d3, dc⟩ := HC.out wr hbw2
                have cA := isAhead_any t a cap xs n k ⟨w.heap.size, 0, none⟩ ⟨w.heap.size + 1, 0, none⟩ ⟨w.heap.size + 1 + 1, 0, none⟩ wr HX.out d1 d2 d3 dc hnn hkn
                have CA := Lib.hid cA
                have HSU := Lib.hid (cntA_succ (rAt t xs) k n)
                have hmono := cntA_mono (rAt t xs) k (show n + 1 ≤ xs.length by omega)
                have HMO := Lib.hid hmono
                clear cA dc hmono d1 d2 d3
                cases hA : aheadB (rAt t xs) n k
                · have hsu : cntA (rAt t xs) k (n + 1) = cntA (rAt t xs) k n := by have := HSU.out; rw [hA] at this; simpa using this
                  have HSV := Lib.hid hsu
                  clear hsu
                  by_cases hge : leftI t xs ≤ (cntA (rAt t xs) k n : Int)
                  · have HSK : Hid ((List.range xs.length).map (shareF t xs (k + 1)) = (List.range xs.length).map (shareF t xs k)) := shareF_skip (by have := HMO.out; have := HSV.out; omega)
                    go_wp2_with (go_at_call 71; refine CA.out.mono ?_; rintro e w' ⟨rfl, nd, rfl⟩)
                    go_roundg g
                    case measure => omega
                    case rel => exact ⟨k + 1, by have := HKG.out; omega, by go_num, by rw [HSK.out]; exact hown2.below (below_drewN (Below.refl _ _) _), below_drewN hbw2 _⟩
                  · go_wp2_with (go_at_call 71; refine CA.out.mono ?_; rintro e w' ⟨rfl, nd, rfl⟩)
                    go_roundg g2
                    case measure => omega
                    case rel => exact ⟨n + 1, by have := HNG.out; omega, by go_num, by rw [HSV.out], fun _ => by rw [HSV.out]; omega, below_drewN hbi _⟩
                · have hsu : cntA (rAt t xs) k (n + 1) = cntA (rAt t xs) k n + 1 := by have := HSU.out; rw [hA] at this; simpa using this
                  have HSV := Lib.hid hsu
                  clear hsu
                  by_cases hge : leftI t xs ≤ (cntA (rAt t xs) k n : Int) + 1
                  · have HSK : Hid ((List.range xs.length).map (shareF t xs (k + 1)) = (List.range xs.length).map (shareF t xs k)) := shareF_skip (by have := HMO.out; have := HSV.out; omega)
                    go_wp2_with (go_at_call 71; refine CA.out.mono ?_; rintro e w' ⟨rfl, nd, rfl⟩)
                    go_roundg g
                    case measure => omega
                    case rel => exact ⟨k + 1, by have := HKG.out; omega, by go_num, by rw [HSK.out]; exact hown2.below (below_drewN (Below.refl _ _) _), below_drewN hbw2 _⟩
                  · go_wp2_with (go_at_call 71; refine CA.out.mono ?_; rintro e w' ⟨rfl, nd, rfl⟩)
                    go_roundg g2
                    case measure => omega
                    case rel => exact ⟨n + 1, by have := HNG.out; omega, by go_num, by rw [HSV.out]; go_num, fun _ => by rw [HSV.out]; omega, below_drewN hbi _⟩

end Go.Proofs.YtpenbkfchgeafaaGreatDoor

namespace Go.Proofs.YtpenbkfchgeafaaGreatDoor
open Go.RowKit

theorem own_lit (w : World) (B : Nat) (xs : List Int) (cs : Array Value) (hcs : cs.toList = xs.map (Value.int .i64)) (hB : B ≤ w.heap.size) (hl : xs.length ≤ 1048576) : Own (w.alloc (.cells cs 3)) B (sl w.heap.size xs.length xs.length) xs := by
  have h := World.ownsRow_lit (e := 3) (size := 1) w cs xs.length hB (by unfold maxLen; omega) (by rw [← Array.length_toList, hcs]; simp)
  rw [hcs] at h
  exact h

/-- A reader of which at most q numbers have been picked. -/
def HasReader (w : World) (B R : Nat) (a : Option Addr) (q : Nat) : Prop := ∃ n cap p, IsReader w B R a n cap p ∧ p ≤ q

theorem HasReader.more {w : World} {B R : Nat} {a : Option Addr} {q q' : Nat} (h : HasReader w B R a q) (hq : q ≤ q') : HasReader w B R a q' := by
  obtain ⟨n, cap, p, hr, hp⟩ := h
  exact ⟨n, cap, p, hr, by omega⟩
theorem HasReader.kept {w w' : World} {B R : Nat} {a : Option Addr} {q : Nat} {row : Option Nat} (h : HasReader w B R a q) (hg : w.grownBy w' row) (hr : ∀ k, row = some k → B ≤ k ∧ k ≠ R) : HasReader w' B R a q := by
  obtain ⟨n, cap, p, hrd, hp⟩ := h
  exact ⟨n, cap, p, hrd.kept hg hr, hp⟩
theorem HasReader.later {w w' : World} {B R : Nat} {a : Option Addr} {q : Nat} (h : HasReader w B R a q) (hb : Below w.heap.size w w') : HasReader w' B R a q :=
  h.kept (grown_below hb none) (fun k hk => by cases hk)
theorem HasReader.lt {w : World} {B R : Nat} {a : Option Addr} {q : Nat} (h : HasReader w B R a q) : B ≤ R ∧ R < w.heap.size := by
  obtain ⟨n, cap, p, hrd, hp⟩ := h
  exact ⟨hrd.base, (Array.getElem?_eq_some_iff.1 hrd.block).1⟩

theorem pick_has (n : Int) (B R : Nat) (a : Option Addr) (q : Nat) (w : World) (h : HasReader w B R a q) (hq : q ≤ 1000000) (hn : -1000000 ≤ n ∧ n ≤ 1000000) :
    Calls Tryz.prog 16 #[.pointer (some ⟨R, 0, none⟩), .int .i64 n] w fun e w' => ∃ y, e = .returned (.int .i64 y) ∧ Picked n y ∧ HasReader w' B R a (q + 1) ∧ w.grownBy w' (some R) := by
  obtain ⟨len, cap, p, hr, hp⟩ := h
  refine (pick_any n B R a len cap p w hr (by omega) hn).mono ?_
  rintro e w' ⟨y, he, hy, hr', hg⟩
  exact ⟨y, he, hy, ⟨len, cap, p + 1, hr', by omega⟩, hg⟩

theorem one_has (v : Value) (xs : List Int) (B R : Nat) (a : Option Addr) (q : Nat) (w : World) (h : HasReader w B R a q) (hq : q ≤ 1000000) (hv : IsInts w v xs) (hne : v.ownBlock ≠ some R) (hl0 : 0 < xs.length) (hl : xs.length ≤ 1000000) :
    Calls Tryz.prog 13 #[.pointer (some ⟨R, 0, none⟩), v] w fun e w' => ∃ y, e = .returned (.int .i64 y) ∧ y ∈ xs ∧ HasReader w' B R a (q + 1) ∧ w.grownBy w' (some R) := by
  obtain ⟨len, cap, p, hr, hp⟩ := h
  refine (one_any v xs B R a len cap p w hr (by omega) hv hne hl0 hl).mono ?_
  rintro e w' ⟨y, he, hy, hr', hg⟩
  exact ⟨y, he, hy, ⟨len, cap, p + 1, hr', by omega⟩, hg⟩

/-- One of a list that is built at the call. -/
theorem one_lit (xs : List Int) (cs : Array Value) (n : Nat) (hcs : cs.toList = xs.map (Value.int .i64)) (hn : n = xs.length) (g B R : Nat) (a : Option Addr) (q : Nat) (w : World) (h : HasReader w B R a q) (hq : q ≤ 1000000) (hl0 : 0 < xs.length) (hl : xs.length ≤ 1000000) (hgw : g = w.heap.size) :
    Calls Tryz.prog 13 #[.pointer (some ⟨R, 0, none⟩), .slice (some ⟨g, 0, none⟩) n n] (w.alloc (.cells cs 3)) fun e w' => ∃ y, e = .returned (.int .i64 y) ∧ y ∈ xs ∧ HasReader w' B R a (q + 1) ∧ w.grownBy w' (some R) := by
  subst hn hgw
  have hb : Below w.heap.size w (w.alloc (.cells cs 3)) := (Below.refl _ _).alloc (Nat.le_refl _) _
  refine (one_has _ xs B R a q _ (h.later hb) hq (own_lit w w.heap.size xs cs hcs (Nat.le_refl _) (by omega)).ints ?_ hl0 hl).mono ?_
  · have := h.lt.2
    simp [Value.ownBlock]
    omega
  · rintro e w' ⟨y, he, hy, hr', hg⟩
    exact ⟨y, he, hy, hr', (World.grownBy_alloc w _ _).trans hg⟩

set_option maxHeartbeats 800000 in
theorem newReader_any (a : Option Addr) (n cap : Nat) (w : World) (h : IsBytes w a n) (hc : n ≤ cap) :
    Calls Tryz.prog 12 #[.slice a n cap] w fun e w' => e = .returned (.pointer (some ⟨w.heap.size, 0, none⟩)) ∧ HasReader w' w.heap.size w.heap.size a 0 ∧ Below w.heap.size w w' := by
  have hlow : ∀ b, a.map Addr.block = some b → 0 < n → b < w.heap.size := by
    intro b hb h0
    obtain ⟨b', off, x, rfl, hcell, _⟩ := h 0 h0
    simp at hb
    subst hb
    exact World.block_lt_of_cell? w _ hcell
  by_cases hbig : (2000 : Int) < (n : Int)
  · have hcc : (2000 : Int) ≤ (cap : Int) := by omega
    go_enter Tryz.func12, Tryz.ntmps12
    go_wp2
    go_ret
    have hb : Below w.heap.size w (w.alloc (.cells #[.slice a 2000 cap, .int .i64 0] 52)) := (Below.refl _ _).alloc (Nat.le_refl _) _
    exact ⟨rfl, ⟨2000, cap, 0, ⟨heap_alloc_new w _, fun j hj => (h.below hb hlow) j (by omega), fun b hb h0 => hlow b hb (by omega), Nat.le_refl _, Nat.le_refl _⟩, Nat.le_refl _⟩, hb⟩
  · go_enter Tryz.func12, Tryz.ntmps12
    go_wp2
    go_ret
    have hb : Below w.heap.size w (w.alloc (.cells #[.slice a n cap, .int .i64 0] 52)) := (Below.refl _ _).alloc (Nat.le_refl _) _
    exact ⟨rfl, ⟨n, cap, 0, ⟨heap_alloc_new w _, h.below hb hlow, hlow, Nat.le_refl _, by omega⟩, Nat.le_refl _⟩, hb⟩

theorem Own.neBlock {w : World} {B R : Nat} {v : Value} {xs : List Int} (h : Own w B v xs) (hR : R < B) : v.ownBlock ≠ some R := fun e => by
  have := (h.lt R e).1
  omega

theorem grown_fresh {w w1 w2 : World} {R : Nat} {row : Option Nat} (t : w.grownBy w1 (some R)) (g : w1.grownBy w2 row) (hr : ∀ k, row = some k → w.heap.size ≤ k) : w.grownBy w2 (some R) :=
  ⟨g.os.trans t.os, g.tape.trans t.tape, g.output.trans t.output, Nat.le_trans t.size g.size, fun k hk hne => (g.block k (Nat.lt_of_lt_of_le hk t.size) (fun e => by have := hr k e.symm; omega)).trans (t.block k hk hne)⟩

theorem below_reader {w w1 w2 : World} (hb : Below w.heap.size w w1) (hg : w1.grownBy w2 (some w.heap.size)) : Below w.heap.size w w2 :=
  hb.trans (below_grown hg hb.size (fun k hk => by cases hk; exact Nat.le_refl _))

end Go.Proofs.YtpenbkfchgeafaaGreatDoor

namespace Go.Proofs.YtpenbkfchgeafaaGreatDoor
open Go.RowKit

def Weights (xs : List Int) : Prop := xs.length ≤ 9 ∧ ∀ x ∈ xs, -1 ≤ x ∧ x ≤ 51

theorem Weights.fits {xs : List Int} (h : Weights xs) : Fits xs := fun x hx => by have := h.2 x hx; omega

theorem weights_push {xs : List Int} {m : Nat} {y : Int} (h : ∀ x ∈ xs, -1 ≤ x ∧ x ≤ 51) (hy : -1 ≤ y ∧ y ≤ 51) (hl : xs.length ≤ m) : (xs ++ [y]).length ≤ m + 1 ∧ ∀ x ∈ xs ++ [y], -1 ≤ x ∧ x ≤ 51 := by
  refine ⟨by simp; omega, fun x hx => ?_⟩
  rcases List.mem_append.1 hx with hx | hx
  · exact h x hx
  · simp at hx; subst hx; exact hy

set_option maxHeartbeats 3200000 in
theorem someWeights_any (B R : Nat) (a : Option Addr) (q : Nat) (w : World) (h : HasReader w B R a q) (hq : q ≤ 800000) :
    Calls Tryz.prog 18 #[.pointer (some ⟨R, 0, none⟩)] w fun e w' => ∃ v xs, e = .returned v ∧ Own w' w.heap.size v xs ∧ Weights xs ∧ HasReader w' B R a (q + 100) ∧ w.grownBy w' (some R) := by
  have hRl := h.lt
  have hb0 : Below w.heap.size w (w.alloc (.cells #[] 3)) := (Below.refl _ _).alloc (Nat.le_refl _) _
  have ho0 := own_empty w w.heap.size (Nat.le_refl _)
  go_enter Tryz.func18, Tryz.ntmps18
  go_wp2_with fail
  refine (one_lit [3, 4, 2, 5, 1, 8] _ 6 rfl rfl _ B R a q _ (h.later hb0) (by omega) (by simp) (by simp) (by simp)).mono ?_
  rintro e w1 ⟨n, rfl, hn, h1, g1⟩
  have hn8 : 1 ≤ n ∧ n ≤ 8 := by
    simp only [List.mem_cons, List.not_mem_nil, or_false] at hn
    omega
  have ho1 := ho0.kept g1 (.inr (by simp [Value.ownBlock]; omega))
  have hg1 : w.grownBy w1 (some R) := (World.grownBy_alloc w _ _).trans g1
  clear hn ho0 hb0 g1
  go_wp2
  go_loopg [3] 8 (fun g v wr => ∃ xs : List Int, xs.length + g = 8 ∧ Own wr w.heap.size v xs ∧ (xs.length ≤ 8 ∧ ∀ x ∈ xs, -1 ≤ x ∧ x ≤ 51) ∧ HasReader wr B R a (q + 1 + 4 * xs.length) ∧ w.grownBy wr (some R))
  case atStart => exact ⟨[], rfl, ho1, ⟨by simp, by simp⟩, h1.more (by omega), hg1⟩
  case round =>
    obtain ⟨xs, hxg, hown, hxs, hrd, hgr⟩ := hrel
    have HXG := Lib.hid hxg
    have HXS := Lib.hid hxs
    have hx8 := hxs.1
    obtain ⟨av, cv, rfl, _⟩ := hown.ints
    have hRs : w.heap.size ≤ wr.heap.size := hgr.size
    have hne := hown.neBlock hRl.2
    clear hxg hxs ho1 hg1 h1
    by_cases hlt : (xs.length : Int) < n
    · go_wp2_with fail
      refine (pick_has 51 B R a _ _ hrd (by omega) (by omega)).mono ?_
      rintro e w2 ⟨y1, rfl, ⟨p0, p1, _⟩, h2, g2⟩
      have p2 := p1 (by omega)
      have o2 := hown.kept g2 (.inr hne)
      have t2 := hgr.trans g2
      clear p1 hown hrd hgr g2
      go_wp2_with fail
      refine (pick_has 6 B R a _ _ h2 (by omega) (by omega)).mono ?_
      rintro e w3 ⟨y2, rfl, ⟨r0, r1, _⟩, h3, g3⟩
      have r2 := r1 (by omega)
      have o3 := o2.kept g3 (.inr hne)
      have t3 := t2.trans g3
      clear r1 o2 t2 h2 g3
      go_wp2_with fail
      refine (pick_has 12 B R a _ _ h3 (by omega) (by omega)).mono ?_
      rintro e w4 ⟨y3, rfl, ⟨s0, s1, _⟩, h4, g4⟩
      have s2 := s1 (by omega)
      have o4 := o3.kept g4 (.inr hne)
      have t4 := t3.trans g4
      clear s1 o3 t3 h3 g4
      go_wp2_with fail
      refine (one_lit [y1, y2, 1, 0, y3] _ 5 rfl rfl _ B R a _ _ h4 (by omega) (by simp) (by simp) rfl).mono ?_
      rintro e w5 ⟨y, rfl, hy, h5, g5⟩
      have hyb : -1 ≤ y ∧ y ≤ 51 := by
        simp only [List.mem_cons, List.not_mem_nil, or_false] at hy
        omega
      have o5 := o4.kept g5 (.inr hne)
      have t5 := t4.trans g5
      have hs5 : w.heap.size ≤ w5.heap.size := t5.size
      clear o4 t4 h4 g5 hy p0 p2 r0 r2 s0 s2
      go_wp2_with (at_builtin; refine wpList_push o5 (by omega) hs5 (h := ?_))
      intro v6 w6 o6 g6 m6
      have t6 : w.grownBy w6 (some R) := grown_fresh t5 g6 (fun k hk => (o5.lt k hk).1)
      have h6 := h5.kept g6 (fun k hk => by have := (o5.lt k hk).1; omega)
      have hx6 := weights_push HXS.out.2 hyb (Nat.le_refl xs.length)
      have HX6 := Lib.hid hx6
      clear o5 t5 h5 g6 m6 hx6
      go_wp2
      cases gk with
      | zero =>
        have := HXG.out
        omega
      | succ g =>
        go_roundg g
        case measure => omega
        case rel => exact ⟨_, by have := HXG.out; simp; omega, o6, ⟨by have := HX6.out.1; have := HXG.out; omega, HX6.out.2⟩, h6.more (by simp; omega), t6⟩
    · go_wp2_with fail
      refine (pick_has 30 B R a _ _ hrd (by omega) (by omega)).mono ?_
      rintro e w2 ⟨y1, rfl, ⟨p0, p1, _⟩, h2, g2⟩
      have p2 := p1 (by omega)
      have o2 := hown.kept g2 (.inr hne)
      have t2 := hgr.trans g2
      have hs2 : w.heap.size ≤ w2.heap.size := t2.size
      have h2m := h2.more (show q + 1 + 4 * xs.length + 1 ≤ q + 100 by omega)
      clear p1 hown hrd hgr g2 h2
      by_cases e0 : y1 = 0
      · subst e0
        have hbe : Below w2.heap.size w2 (w2.alloc (.cells #[] 3)) := (Below.refl _ _).alloc (Nat.le_refl _) _
        have oe := own_empty w2 w.heap.size hs2
        go_wp2
        go_ret
        exact ⟨_, _, rfl, oe, ⟨by simp, by simp⟩, h2m.later hbe, t2.trans (World.grownBy_alloc w2 _ _)⟩
      · by_cases e1 : y1 = 1
        · subst e1
          go_wp2_with (at_builtin; refine wpList_push o2 (by omega) hs2 (h := ?_))
          intro v6 w6 o6 g6 m6
          have t6 : w.grownBy w6 (some R) := grown_fresh t2 g6 (fun k hk => (o2.lt k hk).1)
          have h6 := h2m.kept g6 (fun k hk => by have := (o2.lt k hk).1; omega)
          have HX6 := Lib.hid (weights_push HXS.out.2 (show -1 ≤ (51 : Int) ∧ (51 : Int) ≤ 51 by omega) HXS.out.1)
          clear o2 t2 h2m g6 m6
          go_wp2
          go_ret
          exact ⟨_, _, rfl, o6, HX6.out, h6, t6⟩
        · by_cases e2 : y1 = 2
          · subst e2
            go_wp2_with (at_builtin; refine wpList_push o2 (by omega) hs2 (h := ?_))
            intro v6 w6 o6 g6 m6
            have t6 : w.grownBy w6 (some R) := grown_fresh t2 g6 (fun k hk => (o2.lt k hk).1)
            have h6 := h2m.kept g6 (fun k hk => by have := (o2.lt k hk).1; omega)
            have HX6 := Lib.hid (weights_push HXS.out.2 (show -1 ≤ (-1 : Int) ∧ (-1 : Int) ≤ 51 by omega) HXS.out.1)
            clear o2 t2 h2m g6 m6
            go_wp2
            go_ret
            exact ⟨_, _, rfl, o6, HX6.out, h6, t6⟩
          · by_cases e3 : y1 = 3
            · subst e3
              have hbe : Below w2.heap.size w2 (w2.alloc (.cells #[.int .i64 0, .int .i64 0] 3)) := (Below.refl _ _).alloc (Nat.le_refl _) _
              have oe := own_lit w2 w.heap.size [0, 0] #[.int .i64 0, .int .i64 0] rfl hs2 (by simp)
              go_wp2
              go_ret
              exact ⟨_, _, rfl, oe, ⟨by simp, by simp⟩, h2m.later hbe, t2.trans (World.grownBy_alloc w2 _ _)⟩
            · have f0 : (y1 == 0) = false := by simpa using e0
              have f1 : (y1 == 1) = false := by simpa using e1
              have f2 : (y1 == 2) = false := by simpa using e2
              have f3 : (y1 == 3) = false := by simpa using e3
              clear e0 e1 e2 e3
              go_wp2
              go_ret
              exact ⟨_, _, rfl, o2, ⟨by have := HXS.out.1; omega, HXS.out.2⟩, h2m, t2⟩

theorem coins_push {ys : List Int} {y : Int} (h : ∀ x ∈ ys, 0 ≤ x ∧ x ≤ 31) (hy : 0 ≤ y ∧ y ≤ 31) : ∀ x ∈ ys ++ [y], 0 ≤ x ∧ x ≤ 31 := fun x hx => by
  rcases List.mem_append.1 hx with h1 | h1
  · exact h x h1
  · obtain rfl := List.mem_singleton.1 h1
    exact hy

set_option maxHeartbeats 3200000 in
theorem someCoins_in (B R : Nat) (a : Option Addr) (q : Nat) (w : World) (h : HasReader w B R a q) (hq : q ≤ 800000) :
    Calls Tryz.prog 19 #[.pointer (some ⟨R, 0, none⟩)] w fun e w' => ∃ v xs, e = .returned v ∧ Own w' w.heap.size v xs ∧ xs.length ≤ 6 ∧ (∀ x ∈ xs, 0 ≤ x ∧ x ≤ 31) ∧ HasReader w' B R a (q + 20) ∧ w.grownBy w' (some R) := by
  have hRl := h.lt
  have hb0 : Below w.heap.size w (w.alloc (.cells #[] 3)) := (Below.refl _ _).alloc (Nat.le_refl _) _
  have ho0 := own_empty w w.heap.size (Nat.le_refl _)
  have hg0 : w.grownBy (w.alloc (.cells #[] 3)) (some R) := World.grownBy_alloc w _ _
  have h0 := h.later hb0
  have hsz0 := hb0.size
  clear hb0 h
  go_enter Tryz.func19, Tryz.ntmps19
  go_wp2_with fail
  refine (pick_has 3 B R a _ _ h0 (by omega) (by omega)).mono ?_
  rintro e w1 ⟨y0, rfl, ⟨p0, p1, _⟩, h1, g1⟩
  have p2 := p1 (by omega)
  have hne0 := ho0.neBlock hRl.2
  have ho1 := ho0.kept g1 (.inr hne0)
  have hg1 := hg0.trans g1
  have hs1 : w.heap.size ≤ w1.heap.size := hg1.size
  clear p1 ho0 hg0 h0 g1 hsz0
  by_cases hy : 0 < y0
  · go_wp2_with (at_builtin; refine wpList_push ho1 (by simp) hs1 (h := ?_))
    intro v2 w2 o2 g2 m2
    have t2 : w.grownBy w2 (some R) := grown_fresh hg1 g2 (fun k hk => (ho1.lt k hk).1)
    have h2 := h1.kept g2 (fun k hk => by have := (ho1.lt k hk).1; omega)
    obtain ⟨av, cv, rfl, _⟩ := o2.ints
    have hne := o2.neBlock hRl.2
    clear ho1 hg1 g2 m2 h1 hne0
    go_wp2_with fail
    refine (one_lit [2, 3, 1, 4, 0] _ 5 rfl rfl _ B R a _ _ h2 (by omega) (by simp) (by simp) rfl).mono ?_
    rintro e w3 ⟨n, rfl, hn, h3, g3⟩
    have hn8 : 0 ≤ n ∧ n ≤ 4 := by
      simp only [List.mem_cons, List.not_mem_nil, or_false] at hn
      omega
    have o3 := o2.kept g3 (.inr hne)
    have t3 := t2.trans g3
    clear hn o2 t2 h2 g3 hne
    go_wp2
    go_loopg [3, 4, 5] 4 (fun g v l k wr => ∃ (ys : List Int) (L N : Int), ys.length + g ≤ 5 ∧ (∀ x ∈ ys, 0 ≤ x ∧ x ≤ 31) ∧ N ≤ g ∧ l = .int .i64 L ∧ k = .int .i64 N ∧ (0 ≤ L ∧ L ≤ 30) ∧ Own wr w.heap.size v ys ∧ HasReader wr B R a (q + 2 + (4 - g)) ∧ g ≤ 4 ∧ w.grownBy wr (some R))
    case atStart => exact ⟨[] ++ [1], 1, n, by simp, by simp, by omega, rfl, rfl, by omega, o3, h3.more (by omega), by omega, t3⟩
    case round =>
      obtain ⟨ys, L, N, hlen, hall, hN, rfl, rfl, hL, own, hrd, hg4, hgr⟩ := hrel
      have HALL := Lib.hid hall
      clear hall
      clear o3 h3 t3
      obtain ⟨av, cv, rfl, _⟩ := own.ints
      have hRs : w.heap.size ≤ wr.heap.size := hgr.size
      have hne := own.neBlock hRl.2
      by_cases hc : 0 < N ∧ L < 28
      · have hc1 := hc.1
        have hc2 := hc.2
        have HLEN := Lib.hid hlen
        have HNG := Lib.hid hN
        clear hc
        go_wp2_with fail
        refine (pick_has 9 B R a _ _ hrd (by omega) (by omega)).mono ?_
        rintro e w5 ⟨y5, rfl, ⟨s0, s1, _⟩, h5, g5⟩
        have s2 := s1 (by omega)
        have o5 := own.kept g5 (.inr hne)
        have t5 := hgr.trans g5
        have hs5 : w.heap.size ≤ w5.heap.size := t5.size
        clear s1 own hrd hgr g5
        by_cases hm : L + 1 + y5 ≤ 30
        all_goals
          go_wp2_with (at_builtin; refine wpList_push o5 (by have := HLEN.out; omega) hs5 (h := ?_))
          intro v6 w6 o6 g6 m6
          have t6 : w.grownBy w6 (some R) := grown_fresh t5 g6 (fun k hk => (o5.lt k hk).1)
          have h6 := h5.kept g6 (fun k hk => by have := (o5.lt k hk).1; omega)
          clear o5 t5 h5 g6 m6
          go_wp2
          cases gk with
          | zero =>
            have := HNG.out
            omega
          | succ g =>
            go_roundg g
            case measure => omega
            case rel => exact ⟨_, _, N - 1, by have := HLEN.out; rw [List.length_append, List.length_singleton]; omega, coins_push HALL.out (by omega), by have := HNG.out; omega, by go_num, by go_num, by omega, o6, h6.more (by omega), by omega, t6⟩
      · have hrd9 := hrd.more (show q + 2 + (4 - gk) ≤ q + 6 by omega)
        have hl5 : ys.length ≤ 5 := by omega
        clear hlen hN hrd hg4
        have hfin : ¬ 0 < N ∨ (0 < N ∧ ¬ L < 28) := by omega
        clear hc
        rcases hfin with hc | ⟨hc, hc2⟩
        all_goals
          go_wp2_with fail
          refine (pick_has 24 B R a _ _ hrd9 (by omega) (by omega)).mono ?_
          rintro e w5 ⟨y1, rfl, ⟨s0, s1, _⟩, h5, g5⟩
          have s2 := s1 (by omega)
          have o5 := own.kept g5 (.inr hne)
          have t5 := hgr.trans g5
          have hs5 : w.heap.size ≤ w5.heap.size := t5.size
          clear s1 own hgr g5 hrd9 hc
          by_cases e0 : y1 = 0
          · subst e0
            have hbe : Below w5.heap.size w5 (w5.alloc (.cells #[.int .i64 1, .int .i64 5, .int .i64 10, .int .i64 25] 3)) := (Below.refl _ _).alloc (Nat.le_refl _) _
            have oe := own_lit w5 w.heap.size [1, 5, 10, 25] #[.int .i64 1, .int .i64 5, .int .i64 10, .int .i64 25] rfl hs5 (by simp)
            go_wp2
            go_ret
            exact ⟨_, _, rfl, oe, by simp, by simp, (h5.later hbe).more (by omega), t5.trans (World.grownBy_alloc w5 _ _)⟩
          · by_cases e1 : y1 = 1
            · subst e1
              clear e0
              go_wp2_with fail
              refine (one_lit [31, 1, 0] _ 3 rfl rfl _ B R a _ _ h5 (by omega) (by simp) (by simp) rfl).mono ?_
              rintro e w6 ⟨z, rfl, hz, h6, g6⟩
              have hz31 : 0 ≤ z ∧ z ≤ 31 := by
                simp only [List.mem_cons, List.not_mem_nil, or_false] at hz
                omega
              have o6 := o5.kept g6 (.inr hne)
              have t6 := t5.trans g6
              have hs6 : w.heap.size ≤ w6.heap.size := t6.size
              clear hz o5 t5 h5 g6
              go_wp2_with (at_builtin; refine wpList_push o6 (by omega) hs6 (h := ?_))
              intro v7 w7 o7 g7 m7
              have t7 : w.grownBy w7 (some R) := grown_fresh t6 g7 (fun k hk => (o6.lt k hk).1)
              have h7 := h6.kept g7 (fun k hk => by have := (o6.lt k hk).1; omega)
              go_wp2
              go_ret
              exact ⟨_, _, rfl, o7, by rw [List.length_append, List.length_singleton]; omega, coins_push HALL.out hz31, h7.more (by omega), t7⟩
            · by_cases e2 : y1 = 2
              · subst e2
                clear e0 e1
                have hbe : Below w5.heap.size w5 (w5.alloc (.cells #[] 3)) := (Below.refl _ _).alloc (Nat.le_refl _) _
                have oe := own_empty w5 w.heap.size hs5
                go_wp2
                go_ret
                exact ⟨_, _, rfl, oe, by simp, by simp, (h5.later hbe).more (by omega), t5.trans (World.grownBy_alloc w5 _ _)⟩
              · have f0 : (y1 == 0) = false := by simpa using e0
                have f1 : (y1 == 1) = false := by simpa using e1
                have f2 : (y1 == 2) = false := by simpa using e2
                clear e0 e1 e2
                go_wp2
                go_ret
                exact ⟨_, _, rfl, o5, by omega, HALL.out, h5.more (by omega), t5⟩
  · have o2 := ho1
    have t2 := hg1
    have h2 := h1
    have hne := hne0
    clear ho1 hg1 h1 hne0
    go_wp2_with fail
    refine (one_lit [2, 3, 1, 4, 0] _ 5 rfl rfl _ B R a _ _ h2 (by omega) (by simp) (by simp) rfl).mono ?_
    rintro e w3 ⟨n, rfl, hn, h3, g3⟩
    have hn8 : 0 ≤ n ∧ n ≤ 4 := by
      simp only [List.mem_cons, List.not_mem_nil, or_false] at hn
      omega
    have o3 := o2.kept g3 (.inr hne)
    have t3 := t2.trans g3
    clear hn o2 t2 h2 g3 hne
    go_wp2
    go_loopg [3, 4, 5] 4 (fun g v l k wr => ∃ (ys : List Int) (L N : Int), ys.length + g ≤ 5 ∧ (∀ x ∈ ys, 0 ≤ x ∧ x ≤ 31) ∧ N ≤ g ∧ l = .int .i64 L ∧ k = .int .i64 N ∧ (0 ≤ L ∧ L ≤ 30) ∧ Own wr w.heap.size v ys ∧ HasReader wr B R a (q + 2 + (4 - g)) ∧ g ≤ 4 ∧ w.grownBy wr (some R))
    case atStart => exact ⟨[], 0, n, by simp, by simp, by omega, rfl, rfl, by omega, o3, h3.more (by omega), by omega, t3⟩
    case round =>
      obtain ⟨ys, L, N, hlen, hall, hN, rfl, rfl, hL, own, hrd, hg4, hgr⟩ := hrel
      have HALL := Lib.hid hall
      clear hall
      clear o3 h3 t3
      obtain ⟨av, cv, rfl, _⟩ := own.ints
      have hRs : w.heap.size ≤ wr.heap.size := hgr.size
      have hne := own.neBlock hRl.2
      by_cases hc : 0 < N ∧ L < 28
      · have hc1 := hc.1
        have hc2 := hc.2
        have HLEN := Lib.hid hlen
        have HNG := Lib.hid hN
        clear hc
        go_wp2_with fail
        refine (pick_has 9 B R a _ _ hrd (by omega) (by omega)).mono ?_
        rintro e w5 ⟨y5, rfl, ⟨s0, s1, _⟩, h5, g5⟩
        have s2 := s1 (by omega)
        have o5 := own.kept g5 (.inr hne)
        have t5 := hgr.trans g5
        have hs5 : w.heap.size ≤ w5.heap.size := t5.size
        clear s1 own hrd hgr g5
        by_cases hm : L + 1 + y5 ≤ 30
        all_goals
          go_wp2_with (at_builtin; refine wpList_push o5 (by have := HLEN.out; omega) hs5 (h := ?_))
          intro v6 w6 o6 g6 m6
          have t6 : w.grownBy w6 (some R) := grown_fresh t5 g6 (fun k hk => (o5.lt k hk).1)
          have h6 := h5.kept g6 (fun k hk => by have := (o5.lt k hk).1; omega)
          clear o5 t5 h5 g6 m6
          go_wp2
          cases gk with
          | zero =>
            have := HNG.out
            omega
          | succ g =>
            go_roundg g
            case measure => omega
            case rel => exact ⟨_, _, N - 1, by have := HLEN.out; rw [List.length_append, List.length_singleton]; omega, coins_push HALL.out (by omega), by have := HNG.out; omega, by go_num, by go_num, by omega, o6, h6.more (by omega), by omega, t6⟩
      · have hrd9 := hrd.more (show q + 2 + (4 - gk) ≤ q + 6 by omega)
        have hl5 : ys.length ≤ 5 := by omega
        clear hlen hN hrd hg4
        have hfin : ¬ 0 < N ∨ (0 < N ∧ ¬ L < 28) := by omega
        clear hc
        rcases hfin with hc | ⟨hc, hc2⟩
        all_goals
          go_wp2_with fail
          refine (pick_has 24 B R a _ _ hrd9 (by omega) (by omega)).mono ?_
          rintro e w5 ⟨y1, rfl, ⟨s0, s1, _⟩, h5, g5⟩
          have s2 := s1 (by omega)
          have o5 := own.kept g5 (.inr hne)
          have t5 := hgr.trans g5
          have hs5 : w.heap.size ≤ w5.heap.size := t5.size
          clear s1 own hgr g5 hrd9 hc
          by_cases e0 : y1 = 0
          · subst e0
            have hbe : Below w5.heap.size w5 (w5.alloc (.cells #[.int .i64 1, .int .i64 5, .int .i64 10, .int .i64 25] 3)) := (Below.refl _ _).alloc (Nat.le_refl _) _
            have oe := own_lit w5 w.heap.size [1, 5, 10, 25] #[.int .i64 1, .int .i64 5, .int .i64 10, .int .i64 25] rfl hs5 (by simp)
            go_wp2
            go_ret
            exact ⟨_, _, rfl, oe, by simp, by simp, (h5.later hbe).more (by omega), t5.trans (World.grownBy_alloc w5 _ _)⟩
          · by_cases e1 : y1 = 1
            · subst e1
              clear e0
              go_wp2_with fail
              refine (one_lit [31, 1, 0] _ 3 rfl rfl _ B R a _ _ h5 (by omega) (by simp) (by simp) rfl).mono ?_
              rintro e w6 ⟨z, rfl, hz, h6, g6⟩
              have hz31 : 0 ≤ z ∧ z ≤ 31 := by
                simp only [List.mem_cons, List.not_mem_nil, or_false] at hz
                omega
              have o6 := o5.kept g6 (.inr hne)
              have t6 := t5.trans g6
              have hs6 : w.heap.size ≤ w6.heap.size := t6.size
              clear hz o5 t5 h5 g6
              go_wp2_with (at_builtin; refine wpList_push o6 (by omega) hs6 (h := ?_))
              intro v7 w7 o7 g7 m7
              have t7 : w.grownBy w7 (some R) := grown_fresh t6 g7 (fun k hk => (o6.lt k hk).1)
              have h7 := h6.kept g7 (fun k hk => by have := (o6.lt k hk).1; omega)
              go_wp2
              go_ret
              exact ⟨_, _, rfl, o7, by rw [List.length_append, List.length_singleton]; omega, coins_push HALL.out hz31, h7.more (by omega), t7⟩
            · by_cases e2 : y1 = 2
              · subst e2
                clear e0 e1
                have hbe : Below w5.heap.size w5 (w5.alloc (.cells #[] 3)) := (Below.refl _ _).alloc (Nat.le_refl _) _
                have oe := own_empty w5 w.heap.size hs5
                go_wp2
                go_ret
                exact ⟨_, _, rfl, oe, by simp, by simp, (h5.later hbe).more (by omega), t5.trans (World.grownBy_alloc w5 _ _)⟩
              · have f0 : (y1 == 0) = false := by simpa using e0
                have f1 : (y1 == 1) = false := by simpa using e1
                have f2 : (y1 == 2) = false := by simpa using e2
                clear e0 e1 e2
                go_wp2
                go_ret
                exact ⟨_, _, rfl, o5, by omega, HALL.out, h5.more (by omega), t5⟩

end Go.Proofs.YtpenbkfchgeafaaGreatDoor
