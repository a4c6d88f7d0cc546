/- slices.Repeat over one int. -/
import Derived.Test.YtbkndncdhombeaaRepM
import Derived.Test.YtbkndncdhombeaaCoinT
import Derived.Laws.CopyOwn
import Derived.Deep.RegionLaw
import Derived.IntWalk
namespace Go.Proofs.Ytbkndncdhombeaa
open Go.RowKit

/-- The first k cells are filled. -/
def filled (N k : Nat) (u z : Value) : List Value := List.replicate k u ++ List.replicate (N - k) z

theorem filled_len (N k : Nat) (u z : Value) (h : k ≤ N) : (filled N k u z).length = N := by simp [filled]; omega
theorem filled_all (N : Nat) (u z : Value) : filled N N u z = List.replicate N u := by simp [filled]
theorem filled_none (N : Nat) (u z : Value) : filled N 0 u z = List.replicate N z := by simp [filled]
theorem filled_splice (N k m : Nat) (u z : Value) (h : k + m ≤ N) : splice (filled N k u z) k (List.replicate m u) = filled N (k + m) u z := by
  unfold splice filled
  rw [List.take_append_of_le_length (by simp), List.take_of_length_le (by simp), List.length_replicate, List.drop_append, List.drop_eq_nil_of_le (by simp), List.nil_append, List.length_replicate, List.drop_replicate, ← List.append_assoc, List.replicate_append_replicate]
  congr 2
  omega

/-- A row whole. -/
theorem row_whole {w : World} {B g n : Nat} {ty : TypeId} {zs : List Value} (h : w.ownsRow B ty 1 (.slice (some ⟨g, 0, none⟩) n n) n zs) (_hn : 1 ≤ n) : w.heap[g]? = some (.cells zs.toArray ty (0, 0)) ∧ zs.length = n := by
  obtain ⟨h1, h2⟩ := h
  rcases h2 with ⟨h0, _⟩ | ⟨g', cap, cur, hv, hg, hh, h3, h4, h5, h6⟩
  · cases h0
  · simp only [Value.slice.injEq, Option.some.injEq, Addr.mk.injEq, and_true, true_and] at hv
    obtain ⟨rfl, rfl⟩ := hv
    refine ⟨?_, by omega⟩
    rw [List.take_of_length_le (by rw [Array.length_toList]; omega)] at h6
    rw [← h6, hh]

theorem whole_row {w : World} {B g n : Nat} {ty : TypeId} {zs : List Value} (h : w.heap[g]? = some (.cells zs.toArray ty (0, 0))) (hz : zs.length = n) (hB : B ≤ g) (hn : n ≤ maxLen) : w.ownsRow B ty 1 (.slice (some ⟨g, 0, none⟩) n n) n zs :=
  ⟨by omega, .inr ⟨g, n, zs.toArray, rfl, hB, h, Nat.le_refl _, hn, by simp; omega, by rw [List.take_of_length_le (by simp; omega)]⟩⟩

theorem row_cell {w : World} {g n j : Nat} {ty : TypeId} {zs : List Value} {v : Value} (h : w.heap[g]? = some (.cells zs.toArray ty (0, 0))) (hz : zs.length = n) (hn : n ≤ maxLen) (hj : zs[j]? = some v) : w.cell? ⟨g, j, none⟩ = some v := by
  have hlt : j < n := by rw [← hz]; exact (List.getElem?_eq_some_iff.1 hj).1
  rw [World.ownsRow.cellAt (whole_row (B := 0) h hz (Nat.zero_le _) hn) j (by omega)]
  exact hj

set_option maxRecDepth 100000 in
set_option maxHeartbeats 3200000 in
theorem Repeat_int (x0 : Int) (v : Value) (n : Nat) (w : World) (hv : IsInts w v [x0]) (hn1 : 1 ≤ n) (hn : n ≤ 1100) :
    Calls Try.prog 72 #[v, .int .i64 (n : Int)] w fun e w' => ∃ v', e = .returned v' ∧ Own w' w.heap.size v' (List.replicate n x0) ∧ Below w.heap.size w w' := by
  obtain ⟨b, off, cap, rfl, hbw, hc⟩ := hv.at0 (by simp)
  have c0 := hc 0 (by simp)
  rw [Nat.add_zero] at c0
  have HM := Lib.hid (Mul_one n w (by omega))
  obtain ⟨i0, hi, hz0, hz1, hz2⟩ := info_parts infoInt
  have n0 : ¬ (n : Int) < 0 := by omega
  clear hc hv
  have hl1 : ([x0] : List Int).length = 1 := rfl
  rw [hl1]
  clear hl1
  go_enter Try.func72, Try.ntmps72
  go_wp2_with (first
    | (go_at_call 73; refine HM.out.mono ?_; rintro e w' ⟨rfl, rfl⟩)
    | (at_make; refine wpList_make_full _ rfl _ _ 23 rfl w.heap.size 3 i0 (.int .i64 0) 1 Try.underlying23 hi hz0 hz1 _ _ _ _ n rfl rfl rfl rfl ?b2 ?b3 (Nat.le_refl _) ?_))
  case b2 => rw [hz2]; omega
  case b3 => unfold maxLen; omega
  intro w0 hown0 hgrow0
  have hb0 : Below w.heap.size w w0 := below_grown hgrow0 (Nat.le_refl _) (fun k h => by cases h)
  have hrow := (row_whole hown0 hn1).1
  rw [toList_madeCells_one, ← filled_none n (.int .i64 x0)] at hrow
  have c1 : w0.cell? ⟨b, off, none⟩ = some (.int .i64 x0) := (hb0.cell hbw).trans c0
  clear hown0 hgrow0 c0 HM
  have hl0 := filled_len n 0 (.int .i64 x0) (.int .i64 0) (Nat.zero_le _)
  have hs0 := filled_splice n 0 1 (.int .i64 x0) (.int .i64 0) (by omega)
  generalize hF : filled n 0 (.int .i64 x0) (.int .i64 0) = F0 at *
  have HS0 := Lib.hid hs0
  clear hF hs0
  have hm1 : Nat.min 1 n = 1 := Nat.min_eq_left hn1
  go_wp2_with ((with_reducible show wpList _ _ _ _ _ _); refine wpList_copy_splice (o := ⟨some 33, _, _, _, _, _⟩) rfl (.tmp 31) (.tmp 32) 23 23 rfl 3 Try.underlying23 (by kernel_rfl) _ _ _ _ _ _ rfl rfl w.heap.size 0 F0 3 hrow [.int .i64 x0] ?hnn ?hpos ?hfit ?hone w.heap.size w hb0 (Nat.le_refl _) ?_)
  case hnn => rw [hm1]; rfl
  case hpos =>
    intro j v hj
    cases j with
    | zero => simp at hj; subst hj; simpa using c1
    | succ j => simp at hj
  case hfit => simp; omega
  case hone => intro v hv; simp at hv; subst hv; rfl
  intro w1 HG1 hb1
  rw [show splice F0 0 [Value.int .i64 x0] = filled n 1 (.int .i64 x0) (.int .i64 0) from HS0.out] at HG1
  clear hrow hb0 c1 hl0 HS0 F0 hm1
  go_wp2
  go_loopw [8] (fun kv wr => ∃ k : Nat, 1 ≤ k ∧ k ≤ n ∧ kv = .int .i64 k ∧ Hid (wr.heap[w.heap.size]? = some (.cells (filled n k (.int .i64 x0) (.int .i64 0)).toArray 3 (0, 0))) ∧ Below w.heap.size w wr) (fun kv _ => n - (intOf kv).toNat)
  case atStart => exact ⟨1, Nat.le_refl _, hn1, rfl, HG1, hb1⟩
  case round =>
    clear HG1 hb1
    obtain ⟨k, hk1, hkn, rfl, HG, hbl⟩ := hrel
    rename World => wr
    by_cases hlt : k < n
    · have k1 : (k : Int) < (n : Int) := by omega
      have k2 : (k : Int) ≤ (n : Int) := by omega
      obtain ⟨m, hm⟩ : ∃ m : Nat, Nat.min k (n - k) = m := ⟨_, rfl⟩
      have hmk : m ≤ k := by rw [← hm]; exact Nat.min_le_left _ _
      have hmn : k + m ≤ n := by have := Nat.min_le_right k (n - k); rw [show min k (n - k) = m from hm] at this; omega
      have hm1 : 1 ≤ m := by
        have h1 : m = Nat.min k (n - k) := hm.symm
        have h2 : Nat.min k (n - k) = min k (n - k) := rfl
        omega
      have HFS := Lib.hid (filled_splice n k m (.int .i64 x0) (.int .i64 0) hmn)
      have HFC : Hid (∀ j v, (List.replicate m (Value.int .i64 x0))[j]? = some v → wr.cell? ⟨w.heap.size, j, none⟩ = some v) := fun j v hj => by
        refine row_cell HG.out (filled_len _ _ _ _ hkn) (by unfold maxLen; omega) ?_
        rw [List.getElem?_replicate] at hj
        unfold filled
        split at hj
        · rw [List.getElem?_append_left (by simp; omega), List.getElem?_replicate, if_pos (by omega)]
          exact hj
        · cases hj
      have HM := Lib.hid hm
      have hfl := filled_len n k (.int .i64 x0) (.int .i64 0) hkn
      have HD : Hid (wr.drew.heap[w.heap.size]? = some (.cells (filled n k (.int .i64 x0) (.int .i64 0)).toArray 3 (0, 0))) := HG.out
      have HBD := Lib.hid hbl.drew
      have HNN : Hid ((List.replicate m (Value.int .i64 x0)).length = Nat.min k (n - k)) := by show _ = _; rw [List.length_replicate]; exact hm.symm
      have HSRC : Hid (∀ j v, (List.replicate m (Value.int .i64 x0))[j]? = some v → wr.drew.cell? ((⟨w.heap.size, 0, none⟩ : Addr).add j) = some v) := fun j v hj => by
        have := HFC.out j v hj
        rw [Go.WideShapes.add_plain, Nat.zero_add]
        exact this
      have HFIT : Hid (k + (List.replicate m (Value.int .i64 x0)).length ≤ (filled n k (.int .i64 x0) (.int .i64 0)).length) := by show _ ≤ _; rw [List.length_replicate, hfl]; exact hmn
      have HONE : Hid (∀ v ∈ List.replicate m (Value.int .i64 x0), v.oneCell' = true) := fun v hv => by rw [(List.mem_replicate.1 hv).2]; rfl
      clear hm
      generalize filled n k (.int .i64 x0) (.int .i64 0) = F at *
      go_wp2
      go_region_law (refine step_copy_splice rfl (.tmp 41) (.tmp 44) 23 23 rfl 3 Try.underlying23 (by kernel_rfl) (some ⟨w.heap.size, k, none⟩) (some ⟨w.heap.size, 0, none⟩) (n - k) (n - k) k n (by simp [Act.eval, Act.put]; omega) (by simp [Act.eval, Act.put]) w.heap.size k F 3 HD.out (List.replicate m (Value.int .i64 x0)) HNN.out (fun _ => ⟨rfl, _, rfl, HSRC.out⟩) HFIT.out HONE.out w.heap.size w HBD.out (Nat.le_refl _) ?_; intro w4 HG4 hb4)
      rw [HFS.out] at HG4
      have m1 : (k : Int) + (m : Int) ≤ 1100 := by omega
      have hwr : IntKind.i64.wrap ((k : Int) + (m : Int)) = (k : Int) + (m : Int) := IntWalk.i64_in _ (by omega)
      clear HD HBD HNN HSRC HFIT HONE HFC HFS HM
      go_wp2
      go_roundw
      case rel => exact ⟨k + m, by omega, hmn, by omega, HG4⟩
      case measure => simp [intOf]; omega
    · obtain rfl : k = n := by omega
      have HO : Hid (Own wr w.heap.size (sl w.heap.size k k) (List.replicate k x0)) := by
        show Own _ _ _ _
        unfold Own
        rw [List.length_replicate, List.map_replicate]
        have := HG.out
        rw [filled_all] at this
        exact whole_row this (by simp) (Nat.le_refl _) (by unfold maxLen; omega)
      go_wp2
      go_ret
      exact ⟨_, rfl, HO.out, hbl⟩

end Go.Proofs.Ytbkndncdhombeaa
