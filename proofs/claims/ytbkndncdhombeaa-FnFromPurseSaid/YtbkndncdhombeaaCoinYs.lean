/- The greedy way, in the model. -/
import Derived.Test.YtbkndncdhombeaaCoinY
namespace Go.Proofs.Ytbkndncdhombeaa
open Go.RowKit

set_option maxRecDepth 100000 in
set_option maxHeartbeats 3200000 in
theorem greedy_spec (v : Value) (cs : List Int) (a : Nat) (w : World) (hv : IsInts w v cs) (h1 : vCoins cs = true) (ha : a ≤ 2000) :
    Calls Try.prog 52 #[v, .int .i64 (a : Int)] w fun e w' => ∃ v', e = .returned v' ∧ Own w' w.heap.size v' (grL cs a) ∧ Below w.heap.size w w' := by
  obtain ⟨l1, l5⟩ := vc_len h1
  obtain ⟨b, off, cap, rfl, hbw, hc⟩ := hv.at0 l1
  have HC := Lib.hid hc
  have HAT := Lib.hid (fun (i : Nat) => vc_at h1 (i := i))
  have HAP := Lib.hid (fun (i : Nat) (h : i < cs.length) => grR_app h)
  have HG : Hid (grL cs (a : Int) = grR (cs.take cs.length).reverse (a : Int) ++ []) := by show _ = _; rw [List.take_length, List.append_nil]; rfl
  obtain ⟨i0, hi, hz0, hz1, hz2⟩ := info_parts infoInt
  clear hc hv h1
  go_enter Try.func52, Try.ntmps52
  go_wp2_with (at_make; refine wpList_make_full _ rfl _ _ 23 rfl w.heap.size 3 i0 (.int .i64 0) 1 Try.underlying23 hi hz0 hz1 _ _ _ _ cs.length rfl rfl rfl rfl ?b2 ?b3 (Nat.le_refl _) ?_)
  case b2 => rw [hz2]; omega
  case b3 => unfold maxLen; omega
  intro w0 hown0 hgrow0
  have hb0 : Below w.heap.size w w0 := below_grown hgrow0 (Nat.le_refl _) (fun k h => by cases h)
  have hw0 : Own w0 w.heap.size (sl w.heap.size cs.length cs.length) (List.replicate cs.length 0 ++ []) := by rw [List.append_nil]; exact own_made hown0
  clear hown0 hgrow0
  go_wp2
  go_loopw [1, 6] (fun xv iv wr => ∃ (i x : Nat) (z : Int) (Q : List Int), i ≤ cs.length ∧ iv = .int .i64 z ∧ z = (i : Int) - 1 ∧ xv = .int .i64 x ∧ x ≤ 2000 ∧ i + Q.length = cs.length ∧ grL cs (a : Int) = grR (cs.take i).reverse (x : Int) ++ Q ∧
    Own wr w.heap.size (sl w.heap.size cs.length cs.length) (List.replicate i 0 ++ Q) ∧ Below w.heap.size w wr) (fun _ iv _ => (intOf iv + 1).toNat)
  case atStart => exact ⟨cs.length, a, _, [], Nat.le_refl _, rfl, rfl, rfl, ha, by simp, HG.out, hw0, hb0⟩
  case round =>
    clear hw0 hb0 HG
    obtain ⟨i, x, z, Q, hi, rfl, hz, rfl, hx, hQ, hcnt, hown, hbl⟩ := hrel
    rename World => wr
    cases i with
    | zero =>
      have z1 : ¬ (0 : Int) ≤ z := by omega
      have H2 : Hid (grL cs (a : Int) = Q) := by show _ = _; rw [hcnt, List.take_zero]; rfl
      have hown' : Own wr w.heap.size (sl w.heap.size cs.length cs.length) Q := by simpa using hown
      clear hcnt hown
      go_wp2
      go_ret
      exact ⟨_, rfl, by rw [H2.out]; exact hown', hbl⟩
    | succ j =>
      obtain rfl : z = (j : Int) := by omega
      clear hz
      have hlt : j < cs.length := by omega
      have j1 : (j : Int) < (cs.length : Int) := by omega
      have j0 : (0 : Int) ≤ (j : Int) := by omega
      have hat := HAT.out j hlt
      obtain ⟨c, hcn⟩ : ∃ c : Nat, cs.getD j 0 = c := ⟨(cs.getD j 0).toNat, by omega⟩
      have ci := (hbl.cell (p := ⟨b, off + j, none⟩) hbw).trans (HC.out j hlt)
      have hap := HAP.out j hlt (x : Int) Q
      rw [hcn] at ci hap hat
      rw [rep_succ] at hown
      have hcz : (c : Int) ≠ 0 := by omega
      have hq0 := Int.ediv_nonneg (show 0 ≤ (x : Int) by omega) (show 0 ≤ (c : Int) by omega)
      have hq1 := Int.ediv_le_self (c : Int) (show 0 ≤ (x : Int) by omega)
      have hm0 := Int.emod_nonneg (x : Int) hcz
      have hm1 := Int.emod_lt_of_pos (x : Int) (show 0 < (c : Int) by omega)
      have l3 : x % c ≤ x := Nat.mod_le _ _
      have HCN := Lib.hid (hcnt.trans hap)
      have c1 := hown.cell (by simp; omega) j hlt
      have f1 := hown.frozen (by simp; omega) j
      have s1 := (hown.set (by simp; omega) j ((x : Int) / (c : Int))).1
      rw [rep_set] at s1
      have S1 := Lib.hid s1
      have bw : Below w.heap.size w (wr.setCell ⟨w.heap.size, j, none⟩ (.int .i64 ((x : Int) / (c : Int)))) := hbl.setCell (by exact Nat.le_refl _) _
      have ci2 : (wr.setCell ⟨w.heap.size, j, none⟩ (.int .i64 ((x : Int) / (c : Int)))).cell? ⟨b, off + j, none⟩ = some (.int .i64 (c : Int)) := by
        have h2 := (bw.cell (p := ⟨b, off + j, none⟩) hbw).trans (HC.out j hlt)
        rw [hcn] at h2
        exact h2
      clear hcnt hap hown s1 hcn
      go_wp2
      go_roundw
      case rel => exact ⟨j, x % c, _, ((x / c : Nat) : Int) :: Q, by omega, by go_num, rfl, by go_num, by omega, by simp; omega, HCN.out, S1.out, bw⟩
      case measure => simp [intOf]

set_option maxRecDepth 100000 in
set_option maxHeartbeats 3200000 in
theorem GreedyCoins_spec (v : Value) (cs : List Int) (a : Int) (w : World) (hv : IsInts w v cs) (hl : cs.length ≤ 9223372036854775807) :
    Calls Try.prog 30 #[v, .int .i64 a] w fun e w' => ∃ v', e = .returned v' ∧ Own w' w.heap.size v' (greL cs a) ∧ Below w.heap.size w w' := by
  have HVC := Lib.hid (fun r => validCoins_sat v cs r w hv hl)
  have HCC := Lib.hid inRange_sat
  have HNO : Hid (cGre cs a = false → greL cs a = []) := fun h => by unfold greL; rw [h]; rfl
  cases h1 : vCoins cs
  · have E : Hid (cGre cs a = false) := by show _ = _; unfold cGre; rw [h1]; rfl
    go_enter Try.func30, Try.ntmps30
    go_wp2_with (go_at_call 45; refine (HVC.out _ h1).mono ?_; rintro e w' ⟨rfl, hd⟩)
    go_ret
    exact ⟨_, rfl, by rw [HNO.out E.out]; exact own_nil _ _, hd.below⟩
  obtain ⟨l1, l5⟩ := vc_len h1
  obtain ⟨b, off, cap, rfl, hbw, hc⟩ := id (hv.at0 l1)
  have c0 := hc 0 (by omega)
  have l0 : (0 : Int) < (cs.length : Int) := by omega
  have HV := Lib.hid hv
  have HG := Lib.hid (fun (a : Nat) (w : World) (hv : IsInts w (.slice (some ⟨b, off, none⟩) cs.length cap) cs) (ha : a ≤ 2000) => greedy_spec _ cs a w hv h1 ha)
  have HG0 : Hid (cGre cs a = (decide (cs.getD 0 0 = 1) && inR a 0 120)) := by show _ = _; unfold cGre; rw [h1]; rfl
  have HYL : Hid (cGre cs a = true → greL cs a = grL cs a) := fun h => by unfold greL; rw [if_pos h]
  have H1 := Lib.hid h1
  rw [Nat.add_zero] at c0
  have HC1 : Hid (∀ w1, Drawn w w1 → w1.cell? ⟨b, off, none⟩ = some (.int .i64 (cs.getD 0 0))) := fun w1 hd => (hd.cell _).trans c0
  clear hc h1 hv c0
  generalize cs.getD 0 0 = x at *
  by_cases hx : x = 1
  · have hxb : (x != 1) = false := by simp [hx]
    cases h2 : inR a 0 120
    · have E : Hid (cGre cs a = false) := by show _ = _; rw [HG0.out, h2, Bool.and_false]
      go_enter Try.func30, Try.ntmps30
      go_wp2_with (first | (go_at_call 45; refine (HVC.out _ H1.out).mono ?_; rintro e w' ⟨rfl, hd⟩; have d0 := HC1.out _ hd) | (go_at_call 50; refine (HCC.out _ _ _ _ _ h2).mono ?_; rintro e w' ⟨rfl, rfl⟩))
      go_ret
      exact ⟨_, rfl, by rw [HNO.out E.out]; exact own_nil _ _, hd.below⟩
    · have E : Hid (greL cs a = grL cs a) := HYL.out (by rw [HG0.out, h2, decide_eq_true hx]; rfl)
      have b2 := inR_true h2
      obtain ⟨n, rfl⟩ : ∃ n : Nat, a = n := ⟨a.toNat, by omega⟩
      go_enter Try.func30, Try.ntmps30
      go_wp2_with (first | (go_at_call 45; refine (HVC.out _ H1.out).mono ?_; rintro e w1 ⟨rfl, hd⟩; have d0 := HC1.out _ hd) | (go_at_call 50; refine (HCC.out _ _ _ _ _ h2).mono ?_; rintro e w' ⟨rfl, rfl⟩) | fail)
      have hb1 : Below w.heap.size w w1 := hd.below
      refine (HG.out n w1 (HV.out.below hb1) (by omega)).mono ?_
      rintro e w2 ⟨v2, rfl, hown, hbl⟩
      have hb2 : Below w.heap.size w w2 := hb1.trans (hbl.mono hb1.size)
      go_wp2
      go_ret
      exact ⟨_, rfl, by rw [E.out]; exact hown.base hb1.size, hb2⟩
  · have hxb : (x != 1) = true := by simp [hx]
    have E : Hid (cGre cs a = false) := by show _ = _; rw [HG0.out, decide_eq_false hx]; rfl
    go_enter Try.func30, Try.ntmps30
    go_wp2_with (go_at_call 45; refine (HVC.out _ H1.out).mono ?_; rintro e w' ⟨rfl, hd⟩; have d0 := HC1.out _ hd)
    go_ret
    exact ⟨_, rfl, by rw [HNO.out E.out]; exact own_nil _ _, hd.below⟩

end Go.Proofs.Ytbkndncdhombeaa
