/- slices.Backward: numbers in a range, and the iterator from the last number to the first: its contract, for every body. -/
import Derived.RangeFuncNested
import Derived.RangeFuncBound
import Derived.RangeFuncCalls
import Derived.RangeFuncLeaves
import Derived.Shelf.Abstract
import Derived.Shelf.RegionOpen
import Derived.WalkKit
import Derived.OwnWalkIn
import Derived.TacticsInMore
import Derived.LoopNIn
import Derived.LoopIn
import Derived.Test.YtfgafbjofkicdaaBkI
namespace Go.Proofs.Ytfgafbjofkicdaa
open Go.RowKit Go.Shelf

/-- All numbers are from lo up to hi. -/
def allR (xs : List Int) (lo hi : Int) : Bool := xs.all fun x => inR x lo hi

theorem allR_true {xs : List Int} {lo hi : Int} (h : allR xs lo hi = true) : ∀ x ∈ xs, lo ≤ x ∧ x ≤ hi := by
  intro x hx
  exact inR_true (List.all_eq_true.1 h x hx)

theorem allR_take_succ (xs : List Int) (lo hi : Int) (k : Nat) (h : k < xs.length) : allR (xs.take (k + 1)) lo hi = (allR (xs.take k) lo hi && inR xs[k] lo hi) := by
  unfold allR
  rw [List.take_succ_eq_append_getElem h, List.all_append]
  simp

theorem allR_false_of (xs : List Int) (lo hi : Int) (k : Nat) (h : k < xs.length) (hf : inR xs[k] lo hi = false) : allR xs lo hi = false := by
  unfold allR
  rw [List.all_eq_false]
  exact ⟨xs[k], List.getElem_mem h, by simp [hf]⟩

set_option maxHeartbeats 400000 in
theorem allInRange_impl (v : Value) (xs : List Int) (lo hi : Int) (w : World) (hv : IsInts w v xs) (hl : xs.length ≤ 9223372036854775807) :
    Calls Try.prog 68 #[v, .int .i64 lo, .int .i64 hi] w fun e w' => e = .returned (.bool (allR xs lo hi)) ∧ w = w' := by
  obtain ⟨a, cap, rfl, hc⟩ := hv
  go_enter Try.func68, Try.ntmps68
  go_wp2
  go_loop [11] (fun i => ∃ k : Nat, k ≤ xs.length ∧ i = .int .i64 k ∧ allR (xs.take k) lo hi = true) (fun i => xs.length - (intOf i).toNat)
  case atStart => exact ⟨0, Nat.zero_le _, rfl, rfl⟩
  case round =>
    obtain ⟨k, hk, rfl, hall⟩ := hrel
    have HA := Lib.hid hall
    clear hall
    by_cases hlt : k < xs.length
    · obtain ⟨b, off, rfl, hcell⟩ := hc k hlt
      have HK := Lib.hid (allR_take_succ xs lo hi k hlt)
      cases hr : inR xs[k] lo hi
      · go_wp2_with (go_at_call 53; refine (inRange_impl _ _ _ _).mono ?_; rintro e w' ⟨rfl, rfl⟩)
        go_ret
        exact ⟨ret_bool (allR_false_of xs lo hi k hlt hr).symm, rfl⟩
      · go_wp2_with (go_at_call 53; refine (inRange_impl _ _ _ _).mono ?_; rintro e w' ⟨rfl, rfl⟩)
        go_round
        case rel => exact ⟨k + 1, by omega, by go_num, by rw [HK.out, HA.out, hr]; rfl⟩
        case measure => simp [intOf]; omega
    · go_wp2
      go_ret
      exact ⟨ret_bool (by rw [← HA.out, List.take_of_length_le (by omega)]), rfl⟩

attribute [local go_sem] Oper.semAt_some

/-- The box g holds the slice v, which reads as xs, with its row below n0. -/
def Rd (n0 g : Nat) (v : Value) (xs : List Int) (W : World) : Prop := W.cell? ⟨g, 0, none⟩ = some v ∧ ∃ a cap, v = .slice a xs.length cap ∧ ∀ j, j < xs.length → ∃ b off, a = some ⟨b, off, none⟩ ∧ b < n0 ∧ W.cell? ⟨b, off + j, none⟩ = some (.int .i64 (xs.getD j 0))

theorem Rd.of {n0 g : Nat} {v : Value} {xs : List Int} {w0 W : World} (h : W.cell? ⟨g, 0, none⟩ = some v) (hi : IsInts w0 v xs) (hn : w0.heap.size = n0) (hb : Below n0 w0 W) : Rd n0 g v xs W := by
  subst hn
  obtain ⟨a, cap, e, hc⟩ := hi
  refine ⟨h, a, cap, e, fun j hj => ?_⟩
  obtain ⟨b, off, ha, hcell⟩ := hc j hj
  have hl := World.block_lt_of_cell? w0 _ hcell
  exact ⟨b, off, ha, hl, (hb.cell (p := ⟨b, off + j, none⟩) hl).trans hcell⟩
theorem Rd.own {n0 g : Nat} {v : Value} {xs : List Int} {W W' : World} {row : Option Nat} (h : Rd n0 g v xs W) (hg : W.grownBy W' row) (hr : ∀ r, row = some r → ∃ o : Obj, W.heap[r]? = some o ∧ o.isCells = false) : Rd n0 g v xs W' := by
  refine ⟨cell_kept h.1 hg hr, ?_⟩
  obtain ⟨a, cap, e, hc⟩ := h.2
  refine ⟨a, cap, e, fun j hj => ?_⟩
  obtain ⟨b, off, ha, hl, hcell⟩ := hc j hj
  exact ⟨b, off, ha, hl, cell_kept hcell hg hr⟩
theorem Rd.below {n0 g : Nat} {v : Value} {xs : List Int} {W W' : World} (h : Rd n0 g v xs W) (hb : Below W.heap.size W W') : Rd n0 g v xs W' := by
  refine ⟨(hb.cell (p := ⟨g, 0, none⟩) (World.block_lt_of_cell? W _ h.1)).trans h.1, ?_⟩
  obtain ⟨a, cap, e, hc⟩ := h.2
  refine ⟨a, cap, e, fun j hj => ?_⟩
  obtain ⟨b, off, ha, hl, hcell⟩ := hc j hj
  exact ⟨b, off, ha, hl, (hb.cell (p := ⟨b, off + j, none⟩) (World.block_lt_of_cell? W _ hcell)).trans hcell⟩
theorem Rd.set {n0 g c : Nat} {v : Value} {xs : List Int} {W : World} (h : Rd n0 g v xs W) (hc0 : n0 ≤ c) (hcg : g ≠ c) (u : Value) : Rd n0 g v xs (W.setCell ⟨c, 0, none⟩ u) := by
  refine ⟨(World.cell?_setCell_other _ _ _ _ (by intro e; simp at e <;> omega)).trans h.1, ?_⟩
  obtain ⟨a, cap, e, hc⟩ := h.2
  refine ⟨a, cap, e, fun j hj => ?_⟩
  obtain ⟨b, off, ha, hl, hcell⟩ := hc j hj
  exact ⟨b, off, ha, hl, (World.cell?_setCell_other _ _ _ _ (by intro e; simp at e <;> omega)).trans hcell⟩

/-- A number of the list. -/
def nth (xs : List Int) (i : Fin xs.length) : Int := xs.getD i.val 0

theorem drop_nth (xs : List Int) (k : Nat) (h : k < xs.length) : xs.drop k = nth xs ⟨k, h⟩ :: xs.drop (k + 1) := by
  rw [List.drop_eq_getElem_cons h]
  simp [nth, List.getD, h]

theorem drop_back (xs : List Int) (pre : List (Fin xs.length)) (k : Nat) (h : k < xs.length) (hp : (pre.map (nth xs)).reverse = xs.drop (k + 1)) : ((pre ++ [(⟨k, h⟩ : Fin xs.length)]).map (nth xs)).reverse = xs.drop k := by
  rw [List.map_append, List.reverse_append, hp, drop_nth xs k h]
  rfl

set_option maxHeartbeats 1000000 in
theorem backward_stops (F : Fence) (n : Nat) (hf : F.fn 74) (hro : F.round = none) (hn : 1 ≤ n) (n0 g : Nat) (v : Value) (xs : List Int) (w : World) (hr : Rd n0 g v xs w) (hl : xs.length ≤ 1000000) :
    SeqStopsK F n Try.prog 74 #[.pointer (some ⟨g, 0, none⟩)] (fun x : Fin xs.length => #[.int .i64 (x.val : Nat), .int .i64 (nth xs x)]) (fun A B => Rd n0 g v xs A → Rd n0 g v xs B) (fun l => (l.map (nth xs)).reverse = xs) (fun _ => True) xs.length w := fun l J Jx W hbW _ _ hY h0 => by
  have hrW := hr.below hbW
  refine callsIn_of_wp Try.func74 rfl hf ?_ hro
  simp only [Try.ntmps74, List.size_toArray, List.length_cons, List.length_nil, Nat.reduceAdd, Nat.reduceSub, Array.replicate_succ, Array.replicate_zero, List.push_toArray, List.append_toArray, List.nil_append, List.cons_append]
  obtain ⟨c0, a, cap, rfl, hc⟩ := id hrW
  clear hc
  gi_wp2
  gi_loopw [3] (fun iv wr => ∃ (k : Nat) (pre : List (Fin xs.length)), k ≤ xs.length ∧ iv = .int .i64 ((k : Int) - 1) ∧ (pre.map (nth xs)).reverse = xs.drop k ∧ J pre wr ∧ Rd n0 g (.slice a xs.length cap) xs wr) (fun iv _ => (intOf iv + 1).toNat)
  case atStart => exact ⟨xs.length, [], Nat.le_refl _, rfl, by simp, h0, hrW⟩
  case round =>
    obtain ⟨k, pre, hk, rfl, hpk, hJk, hrd⟩ := hrel
    obtain ⟨d0, a', cap', e', hc⟩ := id hrd
    simp only [Value.slice.injEq] at e'
    obtain ⟨rfl, _, rfl⟩ := e'
    have HP := Lib.hid hpk
    clear hpk
    rcases Nat.eq_zero_or_pos k with rfl | hpos
    · clear hc
      gi_wp2
      go_end0
      exact ⟨⟨_, rfl⟩, .inl ⟨pre, by have := HP.out; rwa [List.drop_zero] at this, hJk⟩⟩
    · obtain ⟨j, rfl⟩ : ∃ j, k = j + 1 := ⟨k - 1, by omega⟩
      have hjl : j < xs.length := by omega
      have hpl : pre.length < xs.length := by
        have := congrArg List.length HP.out
        simp at this
        omega
      obtain ⟨b, off, rfl, hlow, hcell⟩ := hc j hjl
      obtain ⟨fn, tmps, assign, body, hy, hR⟩ := hY pre ⟨j, hjl⟩ wr hJk hpl
      have HPP := Lib.hid (drop_back xs pre j hjl HP.out)
      clear hc
      have hj1 : ((j + 1 : Nat) : Int) - 1 = (j : Int) := by omega
      rw [hj1]
      dsimp only [nth] at hy
      generalize xs.getD j 0 = y at hcell hy
      gi_wp2
      refine hR.mono ?_
      rintro e W3 (⟨rfl, hJ3, hk3⟩ | ⟨rfl, hJx3⟩)
      · gi_wp2
        go_roundw
        case rel => exact ⟨j, _, by omega, by go_num, HPP.out, hJ3, hk3 hrd⟩
        case measure => simp [intOf]
      · gi_wp2
        refine bodyPost_ret (results_none rfl _ _ _) rfl ?_
        exact ⟨⟨_, rfl⟩, .inr ⟨_, trivial, hJx3⟩⟩

end Go.Proofs.Ytfgafbjofkicdaa
