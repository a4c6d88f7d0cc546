/- Marks on a slice and what holds them: the laws that write into a slice. -/
import Derived.Test.YtfgafbjofkicdaaOwn
namespace Go.Proofs.Ytfgafbjofkicdaa
open Go.RowKit


set_option maxHeartbeats 800000 in
theorem equalInts_any (va vb : Value) (xs ys : List Int) (w : World) (ha : IsInts w va xs) (hb : IsInts w vb ys) (hl : xs.length ≤ 9223372036854775807) :
    Calls Try.prog 27 #[va, vb] w fun e w' => e = .returned (.bool (decide (xs = ys))) ∧ Below w.heap.size w w' := by
  obtain ⟨a, cap, rfl, hc⟩ := ha
  obtain ⟨a2, cap2, rfl, hc2⟩ := hb
  by_cases hlen : xs.length = ys.length
  · have hne : ((xs.length : Int) != (ys.length : Int)) = false := by simp; omega
    go_enter Try.func27, Try.ntmps27
    go_wp2
    go_loopw [5] (fun i wr => ∃ k : Nat, k ≤ xs.length ∧ i = .int .i64 k ∧ xs.take k = ys.take k ∧ Below w.heap.size w wr) (fun i _ => xs.length - (intOf i).toNat)
    case atStart => exact ⟨0, Nat.zero_le _, rfl, rfl, Below.refl _ _⟩
    case round =>
      obtain ⟨k, hk, rfl, htk, hbel⟩ := hrel
      have HT := Lib.hid htk
      have HL := Lib.hid hlen
      clear htk
      by_cases hlt : k < xs.length
      · have hlt2 : k < ys.length := by omega
        obtain ⟨b, off, rfl, hcell0⟩ := hc k hlt
        obtain ⟨b2, off2, rfl, hcell1⟩ := hc2 k hlt2
        have hcell : wr.cell? ⟨b, off + k, none⟩ = some (.int .i64 xs[k]) := by
          rw [show xs[k] = xs.getD k 0 by simp [List.getD, hlt]]
          exact (hbel.cell (by exact World.block_lt_of_cell? w _ hcell0)).trans hcell0
        have hcell' : wr.cell? ⟨b2, off2 + k, none⟩ = some (.int .i64 ys[k]) := by
          rw [show ys[k] = ys.getD k 0 by simp [List.getD, hlt2]]
          exact (hbel.cell (by exact World.block_lt_of_cell? w _ hcell1)).trans hcell1
        have hkl : (k : Int) < (xs.length : Int) := by omega
        have hkl2 : (k : Int) < (ys.length : Int) := by omega
        clear hc hc2 hlen hcell0 hcell1
        by_cases heq : xs[k] = ys[k]
        · have hn : (xs[k] != ys[k]) = false := by simp [heq]
          have HE := Lib.hid heq
          clear heq
          go_wp2
          go_quiet (fail)
          go_wp2
          go_roundw
          case rel => exact ⟨k + 1, by omega, by go_num, take_eq_of xs ys k hlt hlt2 HT.out HE.out, below_drewN hbel _⟩
          case measure => simp [intOf]; omega
        · have hn : (xs[k] != ys[k]) = true := by simp [heq]
          go_wp2
          go_quiet (fail)
          go_wp2
          go_ret
          refine ⟨ret_bool ?_, below_drewN hbel _⟩
          symm
          rw [decide_eq_false_iff_not]
          intro h
          exact heq (by simp only [h])
      · clear hlen
        go_wp2
        go_ret
        refine ⟨ret_bool ?_, hbel⟩
        symm
        rw [decide_eq_true_iff]
        have := HT.out
        rwa [List.take_of_length_le (by omega), List.take_of_length_le (by rw [← HL.out]; omega)] at this
  · have hne : ((xs.length : Int) != (ys.length : Int)) = true := by simp; omega
    go_enter Try.func27, Try.ntmps27
    go_wp2
    go_ret
    refine ⟨ret_bool ?_, Below.refl _ _⟩
    symm
    rw [decide_eq_false_iff_not]
    intro h
    exact hlen (by rw [h])

theorem set_mark (xs : List Int) (q : Int) (k : Nat) (h : k < xs.length) :
    ((marks q k).map (Value.int .i64) ++ (xs.drop k).map (Value.int .i64)).set k (.int .i64 (q + k)) = (marks q (k + 1)).map (Value.int .i64) ++ (xs.drop (k + 1)).map (Value.int .i64) := by
  have hl : ((marks q k).map (Value.int .i64)).length = k := by simp [marks_length]
  rw [List.set_append_right _ _ (by omega), hl, Nat.sub_self, List.drop_eq_getElem_cons h, marks, List.map_cons, List.set_cons_zero]
  simp

set_option maxHeartbeats 800000 in
theorem markIntS_any (v : Value) (xs : List Int) (q : Int) (B : Nat) (w : World) (hv : Own w B v xs) (hl : xs.length ≤ 1048576) (hq0 : 0 ≤ q) (hq : q ≤ 4294967296) :
    Calls Try.prog 48 #[v, .int .i64 q] w fun e w' => e = .returned (.int .i64 (q + xs.length)) ∧ Own w' B v (marks q xs.length) ∧ w.grownBy w' v.ownBlock := by
  have hv0 := hv
  rcases hv.2 with ⟨rfl, hn⟩ | ⟨g, cap, cur, rfl, hgB, _⟩
  · have hx : xs = [] := List.length_eq_zero_iff.1 hn
    subst hx
    go_enter Try.func48, Try.ntmps48
    go_wp2
    refine wp_loop_rounds 1 ?_
    rw [rounds_succ]
    go_wp2
    go_ret
    exact ⟨ret_int (by simp), hv0, World.grownBy.refl _ _⟩
  · unfold Own at hv0
    clear hv
    go_enter Try.func48, Try.ntmps48
    go_wp2
    go_loopw [1, 5] (fun q' i wr => ∃ k : Nat, k ≤ xs.length ∧ i = .int .i64 k ∧ q' = .int .i64 (q + k) ∧ wr.ownsRow B 3 1 (.slice (some ⟨g, 0, none⟩) xs.length cap) xs.length ((marks q k).map (Value.int .i64) ++ (xs.drop k).map (Value.int .i64)) ∧ w.grownBy wr (some g))
      (fun _ i _ => xs.length - (intOf i).toNat)
    case atStart => exact ⟨0, Nat.zero_le _, rfl, by simp, by simpa [marks] using hv0, World.grownBy.refl _ _⟩
    case round =>
      obtain ⟨k, hk, rfl, rfl, hown, hgr⟩ := hrel
      by_cases hlt : k < xs.length
      · have hdst : wr.cell? ⟨g, k, none⟩ = some (.int .i64 xs[k]) := by
          rw [hown.cellAt k (by omega), List.getElem?_append_right (by simp [marks_length])]
          have : k - ((marks q k).map (Value.int IntKind.i64)).length = 0 := by simp [marks_length]
          rw [this]
          simp [hlt]
        have hfr : wr.frozen? ⟨g, k, none⟩ = false := hown.frozenAt k
        have hst := hown.stored k (.int .i64 (q + k))
        rw [set_mark xs q k hlt] at hst
        have H1 := Lib.hid hst.1
        have H2 := Lib.hid hst.2
        clear hst hv0
        go_wp2
        go_roundw
        case rel =>
          refine ⟨k + 1, by omega, by go_num, by go_num, H1.out, ?_⟩
          have h2 := H2.out
          exact ⟨h2.os.trans hgr.os, h2.tape.trans hgr.tape, h2.output.trans hgr.output, Nat.le_trans hgr.size h2.size, fun i hi hne => (h2.block i (Nat.lt_of_lt_of_le hi hgr.size) hne).trans (hgr.block i hi hne)⟩
        case measure => simp [intOf]; omega
      · have hk2 : k = xs.length := by omega
        subst hk2
        have H1 : Own wr B (.slice (some ⟨g, 0, none⟩) xs.length cap) (marks q xs.length) := by
          unfold Own
          rw [marks_length]
          simpa using hown
        clear hown
        go_wp2
        go_ret
        exact ⟨rfl, H1, hgr⟩

set_option maxHeartbeats 800000 in
theorem heldIntS_any (v : Value) (n : Nat) (q : Int) (w : World) (hv : IsInts w v (marks q n)) (hl : n ≤ 1048576) (hq0 : 0 ≤ q) (hq : q ≤ 4294967296) :
    Calls Try.prog 49 #[v, .int .i64 q] w fun e w' => e = .returned (.int .i64 (q + n)) ∧ w = w' := by
  obtain ⟨a, cap, rfl, hc⟩ := hv
  rw [marks_length] at hc ⊢
  go_enter Try.func49, Try.ntmps49
  go_wp2
  go_loop [1, 5] (fun q' i => ∃ k : Nat, k ≤ n ∧ i = .int .i64 k ∧ q' = .int .i64 (q + k)) (fun _ i => n - (intOf i).toNat)
  case atStart => exact ⟨0, Nat.zero_le _, rfl, by simp⟩
  case round =>
    obtain ⟨k, hk, rfl, rfl⟩ := hrel
    by_cases hlt : k < n
    · obtain ⟨b, off, rfl, hcell0⟩ := hc k hlt
      rw [marks_getD q n k hlt] at hcell0
      have hne : ((q + (k : Int)) != (q + (k : Int))) = false := by simp
      clear hc
      go_wp2
      go_round
      case rel => exact ⟨k + 1, by omega, by go_num, by go_num⟩
      case measure => simp [intOf]; omega
    · have hk2 : k = n := by omega
      subst hk2
      clear hc
      go_wp2
      go_ret
      exact ⟨rfl, rfl⟩

end Go.Proofs.Ytfgafbjofkicdaa
