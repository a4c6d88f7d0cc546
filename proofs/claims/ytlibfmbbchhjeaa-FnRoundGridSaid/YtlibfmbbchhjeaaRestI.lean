/- Shares by the largest rests, in the program. -/
import Derived.Test.YtlibfmbbchhjeaaWorld
import Derived.Test.YtlibfmbbchhjeaaRest
import Derived.Deep.LoopGhost
import Derived.WalkMore
namespace Go.Proofs.Ytlibfmbbchhjeaa
open Go.RowKit

set_option maxHeartbeats 800000 in
/-- The closure: whether the part with the index i is ahead of that with the index j; what it captured: total, weights, sum. -/
theorem isAhead_any (t : Int) (a : Option Addr) (cap : Nat) (xs : List Int) (i j : Nat) (p q s : Addr) (w : World) (h1 : cShare t xs = true)
    (hp : w.cell? p = some (.int .i64 t)) (hq : w.cell? q = some (.slice a xs.length cap)) (hs : w.cell? s = some (.int .i64 (tot xs)))
    (hc : ∀ j, j < xs.length → ∃ b off, a = some ⟨b, off, none⟩ ∧ w.cell? ⟨b, off + j, none⟩ = some (.int .i64 (xs.getD j 0)))
    (hi : i < xs.length) (hj : j < xs.length) :
    Calls Try.prog 59 #[.int .i64 i, .int .i64 j, .pointer (some p), .pointer (some q), .pointer (some s)] w fun e w' => e = .returned (.bool (aheadB (rAt t xs) i j)) ∧ ∃ m, w' = w.drewN m := by
  obtain ⟨t0, t1, hvp⟩ := cShare_facts h1
  obtain ⟨hlen, hall, s0, s1, hsf⟩ := vParts_facts hvp
  obtain ⟨b, off, rfl, hci⟩ := hc i hi
  obtain ⟨b2, off2, e2, hcj⟩ := hc j hj
  simp only [Option.some.injEq, Addr.mk.injEq, and_true] at e2
  obtain ⟨rfl, rfl⟩ := e2
  have mi := mul_facts2 t0 t1 hall i hi
  have mj := mul_facts2 t0 t1 hall j hj
  have ei : xs.getD i 0 = xs[i] := by simp [List.getD, hi]
  have ej : xs.getD j 0 = xs[j] := by simp [List.getD, hj]
  rw [ei] at hci
  rw [ej] at hcj
  have HE : Hid (aheadB (rAt t xs) i j = (decide (t * xs[j] % tot xs < t * xs[i] % tot xs) || (decide (t * xs[i] % tot xs = t * xs[j] % tot xs) && decide (i < j)))) := by
    unfold aheadB rAt
    rw [ei, ej]
    rfl
  have ri : IntKind.i64.wrap (t * xs[i]) = t * xs[i] := IntWalk.i64_in _ (by omega)
  have rj : IntKind.i64.wrap (t * xs[j]) = t * xs[j] := IntWalk.i64_in _ (by omega)
  have i1 : (i : Int) < (xs.length : Int) := by omega
  have i2 : (j : Int) < (xs.length : Int) := by omega
  have RI := Lib.hid ri
  have RJ := Lib.hid rj
  clear hc hall hsf hvp h1 ei ej ri rj
  go_enter Try.func59, Try.ntmps59
  go_wp2
  have ri := RI.out
  have rj := RJ.out
  go_quiet (fail)
  clear ri rj
  by_cases hAB : t * xs[j] % tot xs < t * xs[i] % tot xs
  · have hd : decide (t * xs[j] % tot xs < t * xs[i] % tot xs) = true := decide_eq_true hAB
    go_wp2
    go_ret
    exact ⟨ret_bool (by rw [HE.out, hd]; rfl), _, rfl⟩
  · have hd : decide (t * xs[j] % tot xs < t * xs[i] % tot xs) = false := decide_eq_false hAB
    by_cases hEq : t * xs[i] % tot xs = t * xs[j] % tot xs
    · have he : (t * xs[i] % tot xs == t * xs[j] % tot xs) = true := by simpa using hEq
      have HEq := Lib.hid hEq
      clear hEq
      go_wp2
      go_ret
      exact ⟨ret_bool (by rw [HE.out, hd, decide_eq_true HEq.out]; simp), _, rfl⟩
    · have he : (t * xs[i] % tot xs == t * xs[j] % tot xs) = false := by simpa using hEq
      have HEq := Lib.hid hEq
      clear hEq
      go_wp2
      go_ret
      exact ⟨ret_bool (by rw [HE.out, hd, decide_eq_false HEq.out]; simp), _, rfl⟩

theorem boxes3 (w : World) (x y z : Value) (tx ty tz : TypeId) :
    (((w.alloc (.cells #[x] tx)).alloc (.cells #[y] ty)).alloc (.cells #[z] tz)).cell? ⟨w.heap.size, 0, none⟩ = some x ∧
    (((w.alloc (.cells #[x] tx)).alloc (.cells #[y] ty)).alloc (.cells #[z] tz)).cell? ⟨w.heap.size + 1, 0, none⟩ = some y ∧
    (((w.alloc (.cells #[x] tx)).alloc (.cells #[y] ty)).alloc (.cells #[z] tz)).cell? ⟨w.heap.size + 1 + 1, 0, none⟩ = some z := by
  refine ⟨?_, ?_, ?_⟩
  · rw [World.cell?_alloc_past _ _ _ (by simp; omega), World.cell?_alloc_past _ _ _ (by simp), World.cell?_alloc_at _ _ _ _ rfl]; rfl
  · rw [World.cell?_alloc_past _ _ _ (by simp), World.cell?_alloc_at _ _ _ _ (by simp)]; rfl
  · rw [World.cell?_alloc_at _ _ _ _ (by simp)]; rfl

/-- The shares with the first k of them decided. -/
def shareF (t : Int) (xs : List Int) (k i : Nat) : Int := qAt t xs i + if i < k ∧ (cntA (rAt t xs) i xs.length : Int) < leftI t xs then 1 else 0

theorem shareF_zero (t : Int) (xs : List Int) : shareF t xs 0 = qAt t xs := by
  funext i; simp [shareF]
theorem shareF_end (t : Int) (xs : List Int) : (List.range xs.length).map (shareF t xs xs.length) = (List.range xs.length).map (restAt t xs) := by
  apply List.map_congr_left
  intro i hi
  have hi' : i < xs.length := by simpa using hi
  simp [shareF, restAt, hi']
theorem shareF_skip {t : Int} {xs : List Int} {k : Nat} (h : ¬ (cntA (rAt t xs) k xs.length : Int) < leftI t xs) : (List.range xs.length).map (shareF t xs (k + 1)) = (List.range xs.length).map (shareF t xs k) := by
  apply List.map_congr_left
  intro i hi
  unfold shareF
  by_cases e : i = k
  · subst e; simp [h]
  · have : i < k + 1 ↔ i < k := by omega
    simp [this]
theorem shareF_take {t : Int} {xs : List Int} {k : Nat} (h : (cntA (rAt t xs) k xs.length : Int) < leftI t xs) : ((List.range xs.length).map (shareF t xs k)).set k (qAt t xs k + 1) = (List.range xs.length).map (shareF t xs (k + 1)) := by
  apply set_range
  · simp [shareF, h]
  · intro i hi
    unfold shareF
    have : i < k + 1 ↔ i < k := by omega
    simp [this]
theorem cntA_mono (r : Nat → Int) (i : Nat) {n m : Nat} (h : n ≤ m) : cntA r i n ≤ cntA r i m := by
  induction m with
  | zero => have : n = 0 := by omega
            subst this; exact Nat.le_refl _
  | succ m ih =>
    by_cases e : n = m + 1
    · subst e; exact Nat.le_refl _
    · have := ih (by omega)
      rw [cntA_succ]
      omega

set_option maxHeartbeats 3200000 in
theorem ShareByRest_impl (t : Int) (v : Value) (xs : List Int) (w : World) (hv : IsInts w v xs) (hl : xs.length ≤ 9223372036854775807) :
    Calls Try.prog 21 #[.int .i64 t, v] w fun e w' => ∃ v', e = .returned v' ∧ Own w' w.heap.size v' (restL t xs) ∧ Below w.heap.size w w' := by
  have hv' := hv
  obtain ⟨a, cap, rfl, hc⟩ := hv
  have hb2 : Below w.heap.size w ((w.alloc (.cells #[.int .i64 t] 3)).alloc (.cells #[.slice a xs.length cap] 23)) := ((Below.refl _ _).alloc (Nat.le_refl _) _).alloc (by simp) _
  have hv2 := hv'.below hb2
  cases h1 : cShare t xs
  · go_enter Try.func21, Try.ntmps21
    go_wp2
    go_step3
    go_wp2_with (go_at_call 58; refine (canShare_impl _ _ _ _ hv2 hl).mono ?_; rintro e w' ⟨rfl, rfl⟩)
    rw [Exit.noGoto_ret]
    go_ret
    exact ⟨_, rfl, by rw [restL, h1]; exact own_nil _ _, hb2⟩
  · obtain ⟨t0, t1, hvp⟩ := cShare_facts h1
    obtain ⟨hlen, hall, s0, s1, hsf⟩ := vParts_facts hvp
    have HS := Lib.hid (show restL t xs = (List.range xs.length).map (restAt t xs) by rw [restL, if_pos h1])
    obtain ⟨i0, hi, hz0, hz1, hz2⟩ := info_parts infoInt
    go_enter Try.func21, Try.ntmps21
    go_wp2
    go_step3
    go_wp2_with (first | (go_at_call 58; refine (canShare_impl _ _ _ _ hv2 hl).mono ?_; rintro e w' ⟨rfl, rfl⟩) | (go_at_call 55; refine (sum_impl _ _ _ hv2 hl hsf).mono ?_; rintro e w' ⟨rfl, rfl⟩) | (at_make; refine wpList_make_full _ rfl _ _ 23 rfl (w.heap.size + 1 + 1 + 1) 3 i0 (.int .i64 0) 1 Try.underlying23 hi hz0 hz1 _ _ _ _ xs.length rfl rfl rfl rfl ?b2 ?b3 ?b4 ?_))
    case b2 => rw [hz2]; omega
    case b3 => unfold maxLen; omega
    case b4 => simp
    clear hi hz0 hz1 hz2 hvp
    intro w3 hown0 hgrow0
    have hsz3 : w.heap.size + 1 + 1 + 1 ≤ w3.heap.size := by have := hgrow0.size; simpa using this
    have hb03 : Below (w.heap.size + 1 + 1 + 1) (((w.alloc (.cells #[.int .i64 t] 3)).alloc (.cells #[.slice a xs.length cap] 23)).alloc (.cells #[.int .i64 (tot xs)] 3)) w3 := below_grown hgrow0 (by simp) (fun k h => by cases h)
    have hbw : Below w.heap.size w w3 := ((hb2.alloc (by simp; omega) _).trans (hb03.mono (by omega)))
    have hbx := boxes3 w (.int .i64 t) (.slice a xs.length cap) (.int .i64 (tot xs)) 3 23 3
    have c1 : w3.cell? ⟨w.heap.size, 0, none⟩ = some (.int .i64 t) := (hb03.cell (by show w.heap.size < _; omega)).trans hbx.1
    have c2 : w3.cell? ⟨w.heap.size + 1, 0, none⟩ = some (.slice a xs.length cap) := (hb03.cell (by show w.heap.size + 1 < _; omega)).trans hbx.2.1
    have c3 : w3.cell? ⟨w.heap.size + 1 + 1, 0, none⟩ = some (.int .i64 (tot xs)) := (hb03.cell (by show w.heap.size + 1 + 1 < _; omega)).trans hbx.2.2
    have ho0 : Own w3 (w.heap.size + 1 + 1 + 1) (sl (w.heap.size + 1 + 1 + 1) xs.length xs.length) (List.replicate xs.length 0) := own_made (by simpa using hown0)
    have hcells : ∀ wr, Below (w.heap.size + 1 + 1 + 1) w3 wr → wr.cell? ⟨w.heap.size, 0, none⟩ = some (.int .i64 t) ∧ wr.cell? ⟨w.heap.size + 1, 0, none⟩ = some (.slice a xs.length cap) ∧ wr.cell? ⟨w.heap.size + 1 + 1, 0, none⟩ = some (.int .i64 (tot xs)) ∧
        ∀ j, j < xs.length → ∃ b off, a = some ⟨b, off, none⟩ ∧ wr.cell? ⟨b, off + j, none⟩ = some (.int .i64 (xs.getD j 0)) := by
      intro wr hb
      refine ⟨(hb.cell (by show w.heap.size < _; omega)).trans c1, (hb.cell (by show w.heap.size + 1 < _; omega)).trans c2, (hb.cell (by show w.heap.size + 1 + 1 < _; omega)).trans c3, fun j hj => ?_⟩
      obtain ⟨b, off, ha, hcell⟩ := hc j hj
      have hbb := World.block_lt_of_cell? w _ hcell
      have hbb2 : b < w.heap.size := hbb
      exact ⟨b, off, ha, (hb.cell (by show b < _; omega)).trans ((hbw.cell hbb).trans hcell)⟩
    have HC := Lib.hid hcells
    have HX := Lib.hid h1
    clear hown0 hgrow0 hb03 hcells hc hbx h1
    go_wp2
    go_loopw [25] (fun i wr => ∃ (k : Nat) (ys : List Int), k ≤ xs.length ∧ i = .int .i64 k ∧ ys.length = xs.length ∧ (∀ j, j < k → ys.getD j 0 = qAt t xs j) ∧ Own wr (w.heap.size + 1 + 1 + 1) (sl (w.heap.size + 1 + 1 + 1) xs.length xs.length) ys ∧ Below (w.heap.size + 1 + 1 + 1) w3 wr)
      (fun i _ => xs.length - (intOf i).toNat)
    case atStart => exact ⟨0, _, Nat.zero_le _, rfl, by simp, fun j hj => by omega, ho0, Below.refl _ _⟩
    case round =>
      obtain ⟨k, ys, hk, rfl, hyl, hys, hown, hbel⟩ := hrel
      obtain ⟨d1, d2, d3, dc⟩ := HC.out wr hbel
      have hszr := hbel.size
      clear c1 c2 c3 ho0 hv' hb2 hv2
      by_cases hlt : k < xs.length
      · obtain ⟨b, off, rfl, hcell0⟩ := dc k hlt
        have ex : xs.getD k 0 = xs[k] := by simp [List.getD, hlt]
        rw [ex] at hcell0
        have hm := mul_facts2 t0 t1 hall k hlt
        have hkl : k < ys.length := by omega
        have hdst := hown.cell hyl k hlt
        have hfr := hown.frozen hyl k
        have st := hown.set hyl k (t * xs[k] / tot xs)
        have hb1 : Below (w.heap.size + 1 + 1 + 1) w3 _ := hbel.trans (below_grown st.2 (by omega) (fun q hq => by cases hq; exact Nat.le_refl _))
        have HA := Lib.hid hys
        have HL := Lib.hid hyl
        have HE : Hid (t * xs[k] / tot xs = qAt t xs k) := by show _ = _; rw [qAt, ex]
        have O1 := Lib.hid st.1
        clear hys hyl st hown dc hsf hall ex
        go_wp2
        go_roundw
        case rel =>
          refine ⟨k + 1, _, by omega, by go_num, ?_, ?_, O1.out, hb1⟩
          · simpa using HL.out
          · intro j hj
            by_cases hjk : j = k
            · subst hjk
              rw [getD_set_eq _ _ _ hkl, HE.out]
            · rw [getD_set_ne _ _ _ _ hjk]
              exact HA.out j (by omega)
        case measure => simp [intOf]; omega
      · have e := list_of_getD ys xs.length (qAt t xs) hyl (fun j hj => hys j (by omega))
        subst e
        have hqb : ∀ x ∈ (List.range xs.length).map (qAt t xs), 0 ≤ x ∧ x ≤ 5000000 := by
          intro x hx
          obtain ⟨i, _, rfl⟩ := List.mem_map.1 hx
          exact (qr_facts HX.out i).1
        have hsq := sumFits_of _ 5000000 hqb (by omega) (by simp; omega)
        have hsumq : tot ((List.range xs.length).map (qAt t xs)) = t - leftI t xs := by
          rw [qAt_list]; unfold leftI; omega
        have hlb := left_bounds HX.out
        have hlb' : 0 ≤ leftI t xs ∧ leftI t xs < xs.length := hlb
        have hlq : ((List.range xs.length).map (qAt t xs)).length ≤ 9223372036854775807 := by simp; omega
        have hqi : ∀ n, IsInts (wr.drewN n) (sl (w.heap.size + 1 + 1 + 1) xs.length xs.length) ((List.range xs.length).map (qAt t xs)) := fun n => hown.ints.below (below_drewN (Below.refl _ _) n)
        have HSQ := Lib.hid hsumq
        have HQI := Lib.hid hqi
        have hown0 : Own wr (w.heap.size + 1 + 1 + 1) (sl (w.heap.size + 1 + 1 + 1) xs.length xs.length) ((List.range xs.length).map (shareF t xs 0)) := by rw [shareF_zero]; exact hown
        clear hys hyl hown dc hsf hall hqb hsumq hlb hqi
        go_wp2
        go_quiet ((go_at_call 55; refine quiet_left (sum_impl _ _ _ (HQI.out _) hlq hsq)))
        have hw : wrap64 (t - (t - leftI t xs)) = leftI t xs := by rw [IntWalk.wrap64_in _ (by omega)]; omega
        rw [HSQ.out, hw]
        clear hw
        have hbq : Below (w.heap.size + 1 + 1 + 1) w3 (wr.drewN nq) := below_drewN hbel nq
        have hownq : Own (wr.drewN nq) (w.heap.size + 1 + 1 + 1) (sl (w.heap.size + 1 + 1 + 1) xs.length xs.length) ((List.range xs.length).map (shareF t xs 0)) := hown0.below (below_drewN (Below.refl _ _) nq)
        obtain ⟨wz, hwz⟩ : ∃ wz, wz = wr.drewN nq := ⟨_, rfl⟩
        rw [← hwz] at hbq hownq ⊢
        clear hwz hown0 hbel hsq d1 d2 d3 hszr
        go_wp2
        go_step3
        go_wp2
        go_loopg [46] xs.length (fun g i wy => ∃ k : Nat, k + g = xs.length ∧ i = .int .i64 k ∧ Own wy (w.heap.size + 1 + 1 + 1) (sl (w.heap.size + 1 + 1 + 1) xs.length xs.length) ((List.range xs.length).map (shareF t xs k)) ∧ Below (w.heap.size + 1 + 1 + 1) w3 wy)
        case atStart => exact ⟨0, by omega, rfl, hownq, hbq⟩
        case round =>
          clear hownq hbq
          obtain ⟨k, hkg, rfl, hown, hbel⟩ := hrel
          have HKG := Lib.hid hkg
          clear hkg
          cases gk with
          | zero =>
            have hk0 := HKG.out
            have hkz : ¬ ((k : Int) < (xs.length : Int)) := by omega
            have hk2 : k = xs.length := by omega
            rw [hk2, shareF_end, ← HS.out] at hown
            have hbf : Below w.heap.size w wr := hbw.trans (hbel.mono (by omega))
            have hown2 := hown.base (show w.heap.size ≤ w.heap.size + 1 + 1 + 1 by omega)
            clear hk0 hk2 hown
            go_wp2
            go_ret
            exact ⟨_, rfl, hown2, hbf⟩
          | succ g =>
            have hk0 := HKG.out
            have hkz : (k : Int) < (xs.length : Int) := by omega
            have hkn : k < xs.length := by omega
            clear hk0
            obtain ⟨wo, rfl⟩ : ∃ wo : World, wo = wr := ⟨_, rfl⟩
            have hszo := hbel.size
            go_wp2
            go_loopg [12, 51] xs.length (fun g2 c j wi => ∃ n : Nat, n + g2 = xs.length ∧ j = .int .i64 n ∧ c = .int .i64 (cntA (rAt t xs) k n) ∧ (0 < n → (cntA (rAt t xs) k n : Int) < leftI t xs) ∧ Below wo.heap.size wo wi)
            case atStart => exact ⟨0, by omega, rfl, rfl, fun h => by omega, Below.refl _ _⟩
            case round =>
              obtain ⟨n, hng, rfl, rfl, hcl, hbi⟩ := hrel
              have HNG := Lib.hid hng
              have HCL := Lib.hid hcl
              clear hng hcl
              have hbw2 : Below (w.heap.size + 1 + 1 + 1) w3 wr := hbel.trans (hbi.mono (by omega))
              have hown2 := hown.below hbi
              have hcle := cntA_le (rAt t xs) k n
              cases gk with
              | zero =>
                have hnz : ¬ ((n : Int) < (xs.length : Int)) := by have := HNG.out; omega
                have hn2 : n = xs.length := by have := HNG.out; omega
                have hlt := HCL.out (by omega)
                have HLT : Hid ((cntA (rAt t xs) k xs.length : Int) < leftI t xs) := by rw [hn2] at hlt; exact hlt
                have hcell := hown2.cell (by simp) k hkn
                have hfr := hown2.frozen (by simp) k
                have hkk : shareF t xs k k = qAt t xs k := by simp [shareF]
                rw [getD_range _ _ _ hkn, hkk] at hcell
                have hq := (qr_facts HX.out k).1
                have st := hown2.set (by simp) k (qAt t xs k + 1)
                rw [shareF_take HLT.out] at st
                have hb1 : Below (w.heap.size + 1 + 1 + 1) w3 _ := hbw2.trans (below_grown st.2 (by have := hbw2.size; omega) (fun q hq => by cases hq; exact Nat.le_refl _))
                have O1 := Lib.hid st.1
                clear hlt hkk st hown2 hown hn2
                go_wp2
                go_roundg g
                case measure => omega
                case rel => exact ⟨k + 1, by have := HKG.out; omega, by go_num, O1.out, hb1⟩
              | succ g2 =>
                have hnz : (n : Int) < (xs.length : Int) := by have := HNG.out; omega
                have hnn : n < xs.length := by have := HNG.out; omega
                obtain ⟨d1, d2, d3, dc⟩ := HC.out wr hbw2
                have cA := isAhead_any t a cap xs n k ⟨w.heap.size, 0, none⟩ ⟨w.heap.size + 1, 0, none⟩ ⟨w.heap.size + 1 + 1, 0, none⟩ wr HX.out d1 d2 d3 dc hnn hkn
                have CA := Lib.hid cA
                have HSU := Lib.hid (cntA_succ (rAt t xs) k n)
                have hmono := cntA_mono (rAt t xs) k (show n + 1 ≤ xs.length by omega)
                have HMO := Lib.hid hmono
                clear cA dc hmono d1 d2 d3
                cases hA : aheadB (rAt t xs) n k
                · have hsu : cntA (rAt t xs) k (n + 1) = cntA (rAt t xs) k n := by have := HSU.out; rw [hA] at this; simpa using this
                  have HSV := Lib.hid hsu
                  clear hsu
                  by_cases hge : leftI t xs ≤ (cntA (rAt t xs) k n : Int)
                  · have HSK : Hid ((List.range xs.length).map (shareF t xs (k + 1)) = (List.range xs.length).map (shareF t xs k)) := shareF_skip (by have := HMO.out; have := HSV.out; omega)
                    go_wp2_with (go_at_call 59; refine CA.out.mono ?_; rintro e w' ⟨rfl, nd, rfl⟩)
                    go_roundg g
                    case measure => omega
                    case rel => exact ⟨k + 1, by have := HKG.out; omega, by go_num, by rw [HSK.out]; exact hown2.below (below_drewN (Below.refl _ _) _), below_drewN hbw2 _⟩
                  · go_wp2_with (go_at_call 59; refine CA.out.mono ?_; rintro e w' ⟨rfl, nd, rfl⟩)
                    go_roundg g2
                    case measure => omega
                    case rel => exact ⟨n + 1, by have := HNG.out; omega, by go_num, by rw [HSV.out], fun _ => by rw [HSV.out]; omega, below_drewN hbi _⟩
                · have hsu : cntA (rAt t xs) k (n + 1) = cntA (rAt t xs) k n + 1 := by have := HSU.out; rw [hA] at this; simpa using this
                  have HSV := Lib.hid hsu
                  clear hsu
                  by_cases hge : leftI t xs ≤ (cntA (rAt t xs) k n : Int) + 1
                  · have HSK : Hid ((List.range xs.length).map (shareF t xs (k + 1)) = (List.range xs.length).map (shareF t xs k)) := shareF_skip (by have := HMO.out; have := HSV.out; omega)
                    go_wp2_with (go_at_call 59; refine CA.out.mono ?_; rintro e w' ⟨rfl, nd, rfl⟩)
                    go_roundg g
                    case measure => omega
                    case rel => exact ⟨k + 1, by have := HKG.out; omega, by go_num, by rw [HSK.out]; exact hown2.below (below_drewN (Below.refl _ _) _), below_drewN hbw2 _⟩
                  · go_wp2_with (go_at_call 59; refine CA.out.mono ?_; rintro e w' ⟨rfl, nd, rfl⟩)
                    go_roundg g2
                    case measure => omega
                    case rel => exact ⟨n + 1, by have := HNG.out; omega, by go_num, by rw [HSV.out]; go_num, fun _ => by rw [HSV.out]; omega, below_drewN hbi _⟩

end Go.Proofs.Ytlibfmbbchhjeaa
