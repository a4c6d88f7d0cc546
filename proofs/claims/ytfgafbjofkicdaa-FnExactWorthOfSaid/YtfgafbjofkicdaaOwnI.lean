/- Slices of ints that a call makes itself: contracts of copying, comparing, marking. -/
import Derived.Test.YtfgafbjofkicdaaOwn
namespace Go.Proofs.Ytfgafbjofkicdaa
open Go.RowKit

set_option maxHeartbeats 800000 in
theorem toIntS_any (v : Value) (xs : List Int) (w : World) (hv : IsInts w v xs) (hl : xs.length ≤ 1048576) :
    Calls Try.prog 50 #[v] w fun e w' => ∃ v', e = .returned v' ∧ Own w' w.heap.size v' xs ∧ Below w.heap.size w w' := by
  have hv' := hv
  obtain ⟨a, cap, rfl, hc⟩ := hv
  obtain ⟨i0, hi, hz0, hz1, hz2⟩ := info_parts infoInt
  go_enter Try.func50, Try.ntmps50
  go_wp2_with (at_make; refine wpList_make_full _ rfl _ _ 33 rfl w.heap.size 3 i0 (.int .i64 0) 1 Try.underlying33 hi hz0 hz1 _ _ _ _ xs.length rfl rfl rfl rfl ?b2 ?b3 (Nat.le_refl _) ?_)
  case b2 => rw [hz2]; omega
  case b3 => unfold maxLen; omega
  intro w0 hown0 hgrow0
  have hb0 : Below w.heap.size w w0 := below_grown hgrow0 (Nat.le_refl _) (fun k h => by cases h)
  have hsz : w.heap.size ≤ w0.heap.size := hb0.size
  have hw0 : w0.ownsRow w.heap.size 3 1 (.slice (some ⟨w.heap.size, 0, none⟩) xs.length xs.length) xs.length ((xs.take 0).map (Value.int .i64) ++ List.replicate (xs.length - 0) (Value.int .i64 0)) := by
    rw [toList_madeCells_one] at hown0
    simpa using hown0
  clear hown0 hgrow0
  go_wp2
  go_loopw [4] (fun i wr => ∃ k : Nat, k ≤ xs.length ∧ i = .int .i64 k ∧ wr.ownsRow w.heap.size 3 1 (.slice (some ⟨w.heap.size, 0, none⟩) xs.length xs.length) xs.length ((xs.take k).map (Value.int .i64) ++ List.replicate (xs.length - k) (Value.int .i64 0)) ∧ Below w.heap.size w wr)
    (fun i _ => xs.length - (intOf i).toNat)
  case atStart => exact ⟨0, Nat.zero_le _, rfl, hw0, hb0⟩
  case round =>
    obtain ⟨k, hk, rfl, hown, hbel⟩ := hrel
    by_cases hlt : k < xs.length
    · obtain ⟨b, off, rfl, hcell0⟩ := hc k hlt
      have hbb : b < w.heap.size := World.block_lt_of_cell? w _ hcell0
      have hcell : wr.cell? ⟨b, off + k, none⟩ = some (.int .i64 (xs.getD k 0)) := (hbel.cell (by exact hbb)).trans hcell0
      have hdst : wr.cell? ⟨w.heap.size, k, none⟩ = some (.int .i64 0) := by
        rw [hown.cellAt k (by omega), List.getElem?_append_right (by simp; omega)]
        have : k - ((xs.take k).map (Value.int IntKind.i64)).length = 0 := by simp; omega
        rw [this, List.getElem?_replicate, if_pos (by omega)]
      have hfr : wr.frozen? ⟨w.heap.size, k, none⟩ = false := hown.frozenAt k
      have hst := hown.stored k (.int .i64 xs[k])
      rw [set_fill xs k hlt] at hst
      have hb2 : Below w.heap.size w (wr.setCell ⟨w.heap.size, k, none⟩ (.int .i64 xs[k])) := hbel.setCell (by exact Nat.le_refl _) _
      have H1 := Lib.hid hst.1
      clear hst hc hv'
      go_wp2
      go_roundw
      case rel => exact ⟨k + 1, by omega, by go_num, H1.out, hb2⟩
      case measure => simp [intOf]; omega
    · have hk2 : k = xs.length := by omega
      have H1 : Own wr w.heap.size (.slice (some ⟨w.heap.size, 0, none⟩) xs.length xs.length) xs := by
        unfold Own
        rw [hk2] at hown
        simpa using hown
      go_wp2
      go_ret
      exact ⟨_, rfl, H1, hbel⟩

set_option maxHeartbeats 800000 in
theorem eqIntS_any (va vb : Value) (xs ys : List Int) (w : World) (ha : IsInts w va xs) (hb : IsInts w vb ys) (hl : xs.length ≤ 9223372036854775807) :
    Calls Try.prog 47 #[va, vb] w fun e w' => e = .returned (.bool (decide (xs = ys))) ∧ Below w.heap.size w w' := by
  obtain ⟨a, cap, rfl, hc⟩ := ha
  obtain ⟨a2, cap2, rfl, hc2⟩ := hb
  by_cases hlen : xs.length = ys.length
  · have hne : ((xs.length : Int) != (ys.length : Int)) = false := by simp; omega
    go_enter Try.func47, Try.ntmps47
    go_wp2
    go_loopw [5] (fun i wr => ∃ k : Nat, k ≤ xs.length ∧ i = .int .i64 k ∧ xs.take k = ys.take k ∧ Below w.heap.size w wr) (fun i _ => xs.length - (intOf i).toNat)
    case atStart => exact ⟨0, Nat.zero_le _, rfl, rfl, Below.refl _ _⟩
    case round =>
      obtain ⟨k, hk, rfl, htk, hbel⟩ := hrel
      have HT := Lib.hid htk
      have HL := Lib.hid hlen
      clear htk
      by_cases hlt : k < xs.length
      · have hlt2 : k < ys.length := by omega
        obtain ⟨b, off, rfl, hcell0⟩ := hc k hlt
        obtain ⟨b2, off2, rfl, hcell1⟩ := hc2 k hlt2
        have hcell : wr.cell? ⟨b, off + k, none⟩ = some (.int .i64 xs[k]) := by
          rw [show xs[k] = xs.getD k 0 by simp [List.getD, hlt]]
          exact (hbel.cell (by exact World.block_lt_of_cell? w _ hcell0)).trans hcell0
        have hcell' : wr.cell? ⟨b2, off2 + k, none⟩ = some (.int .i64 ys[k]) := by
          rw [show ys[k] = ys.getD k 0 by simp [List.getD, hlt2]]
          exact (hbel.cell (by exact World.block_lt_of_cell? w _ hcell1)).trans hcell1
        have hkl : (k : Int) < (xs.length : Int) := by omega
        have hkl2 : (k : Int) < (ys.length : Int) := by omega
        clear hc hc2 hlen hcell0 hcell1
        by_cases heq : xs[k] = ys[k]
        · have hn : (xs[k] != ys[k]) = false := by simp [heq]
          have HE := Lib.hid heq
          clear heq
          go_wp2
          go_quiet (fail)
          go_wp2
          go_roundw
          case rel => exact ⟨k + 1, by omega, by go_num, take_eq_of xs ys k hlt hlt2 HT.out HE.out, below_drewN hbel _⟩
          case measure => simp [intOf]; omega
        · have hn : (xs[k] != ys[k]) = true := by simp [heq]
          go_wp2
          go_quiet (fail)
          go_wp2
          go_ret
          refine ⟨ret_bool ?_, below_drewN hbel _⟩
          symm
          rw [decide_eq_false_iff_not]
          intro h
          exact heq (by simp only [h])
      · clear hlen
        go_wp2
        go_ret
        refine ⟨ret_bool ?_, hbel⟩
        symm
        rw [decide_eq_true_iff]
        have := HT.out
        rwa [List.take_of_length_le (by omega), List.take_of_length_le (by rw [← HL.out]; omega)] at this
  · have hne : ((xs.length : Int) != (ys.length : Int)) = true := by simp; omega
    go_enter Try.func47, Try.ntmps47
    go_wp2
    go_ret
    refine ⟨ret_bool ?_, Below.refl _ _⟩
    symm
    rw [decide_eq_false_iff_not]
    intro h
    exact hlen (by rw [h])

end Go.Proofs.Ytfgafbjofkicdaa
