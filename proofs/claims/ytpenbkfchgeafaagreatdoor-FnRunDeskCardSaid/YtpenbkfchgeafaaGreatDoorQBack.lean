/- slices.Backward: numbers in a range, and the iterator from the last number to the first: its contract, for every body. Boxes of one cell (as in XBx, which reaches chapter 2). A region that draws its order, by an invariant of what has come up; also in the round of a range over a function. -/
import Derived.Test.YtpenbkfchgeafaaGreatDoorQNum
import Derived.RangeFuncNested
import Derived.RangeFuncBound
import Derived.RangeFuncCalls
import Derived.RangeFuncLeaves
import Derived.Shelf.Abstract
import Derived.Shelf.RegionOpen
import Derived.WalkKit
import Derived.OwnWalkIn
import Derived.TacticsInMore
import Derived.LoopNIn
import Derived.LoopIn
import Derived.Test.YtpenbkfchgeafaaGreatDoorQOwnB
import Derived.OrdersIn
import Derived.RegionIn
namespace Go.Proofs.YtpenbkfchgeafaaGreatDoor
open Go.RowKit Go.Shelf

attribute [local go_sem] Oper.semAt_some

/-- The box g holds the slice v, which reads as xs, with its row below n0. -/
def Rd (n0 g : Nat) (v : Value) (xs : List Int) (W : World) : Prop := W.cell? ⟨g, 0, none⟩ = some v ∧ ∃ a cap, v = .slice a xs.length cap ∧ ∀ j, j < xs.length → ∃ b off, a = some ⟨b, off, none⟩ ∧ b < n0 ∧ W.cell? ⟨b, off + j, none⟩ = some (.int .i64 (xs.getD j 0))

theorem Rd.of {n0 g : Nat} {v : Value} {xs : List Int} {w0 W : World} (h : W.cell? ⟨g, 0, none⟩ = some v) (hi : IsInts w0 v xs) (hn : w0.heap.size = n0) (hb : Below n0 w0 W) : Rd n0 g v xs W := by
  subst hn
  obtain ⟨a, cap, e, hc⟩ := hi
  refine ⟨h, a, cap, e, fun j hj => ?_⟩
  obtain ⟨b, off, ha, hcell⟩ := hc j hj
  have hl := World.block_lt_of_cell? w0 _ hcell
  exact ⟨b, off, ha, hl, (hb.cell (p := ⟨b, off + j, none⟩) hl).trans hcell⟩
theorem Rd.own {n0 g : Nat} {v : Value} {xs : List Int} {W W' : World} {row : Option Nat} (h : Rd n0 g v xs W) (hg : W.grownBy W' row) (hr : ∀ r, row = some r → ∃ o : Obj, W.heap[r]? = some o ∧ o.isCells = false) : Rd n0 g v xs W' := by
  refine ⟨cell_kept h.1 hg hr, ?_⟩
  obtain ⟨a, cap, e, hc⟩ := h.2
  refine ⟨a, cap, e, fun j hj => ?_⟩
  obtain ⟨b, off, ha, hl, hcell⟩ := hc j hj
  exact ⟨b, off, ha, hl, cell_kept hcell hg hr⟩
theorem Rd.below {n0 g : Nat} {v : Value} {xs : List Int} {W W' : World} (h : Rd n0 g v xs W) (hb : Below W.heap.size W W') : Rd n0 g v xs W' := by
  refine ⟨(hb.cell (p := ⟨g, 0, none⟩) (World.block_lt_of_cell? W _ h.1)).trans h.1, ?_⟩
  obtain ⟨a, cap, e, hc⟩ := h.2
  refine ⟨a, cap, e, fun j hj => ?_⟩
  obtain ⟨b, off, ha, hl, hcell⟩ := hc j hj
  exact ⟨b, off, ha, hl, (hb.cell (p := ⟨b, off + j, none⟩) (World.block_lt_of_cell? W _ hcell)).trans hcell⟩
theorem Rd.set {n0 g c : Nat} {v : Value} {xs : List Int} {W : World} (h : Rd n0 g v xs W) (hc0 : n0 ≤ c) (hcg : g ≠ c) (u : Value) : Rd n0 g v xs (W.setCell ⟨c, 0, none⟩ u) := by
  refine ⟨(World.cell?_setCell_other _ _ _ _ (by intro e; simp at e <;> omega)).trans h.1, ?_⟩
  obtain ⟨a, cap, e, hc⟩ := h.2
  refine ⟨a, cap, e, fun j hj => ?_⟩
  obtain ⟨b, off, ha, hl, hcell⟩ := hc j hj
  exact ⟨b, off, ha, hl, (World.cell?_setCell_other _ _ _ _ (by intro e; simp at e <;> omega)).trans hcell⟩

/-- A number of the list. -/
def nth (xs : List Int) (i : Fin xs.length) : Int := xs.getD i.val 0

theorem drop_nth (xs : List Int) (k : Nat) (h : k < xs.length) : xs.drop k = nth xs ⟨k, h⟩ :: xs.drop (k + 1) := by
  rw [List.drop_eq_getElem_cons h]
  simp [nth, List.getD, h]

theorem drop_back (xs : List Int) (pre : List (Fin xs.length)) (k : Nat) (h : k < xs.length) (hp : (pre.map (nth xs)).reverse = xs.drop (k + 1)) : ((pre ++ [(⟨k, h⟩ : Fin xs.length)]).map (nth xs)).reverse = xs.drop k := by
  rw [List.map_append, List.reverse_append, hp, drop_nth xs k h]
  rfl

set_option maxHeartbeats 1000000 in
theorem backward_stops (F : Fence) (n : Nat) (hf : F.fn 109) (hro : F.round = none) (hn : 1 ≤ n) (n0 g : Nat) (v : Value) (xs : List Int) (w : World) (hr : Rd n0 g v xs w) (hl : xs.length ≤ 1000000) :
    SeqStopsK F n Tryz.prog 109 #[.pointer (some ⟨g, 0, none⟩)] (fun x : Fin xs.length => #[.int .i64 (x.val : Nat), .int .i64 (nth xs x)]) (fun A B => Rd n0 g v xs A → Rd n0 g v xs B) (fun l => (l.map (nth xs)).reverse = xs) (fun _ => True) xs.length w := fun l J Jx W hbW _ _ hY h0 => by
  have hrW := hr.below hbW
  refine callsIn_of_wp Tryz.func109 rfl hf ?_ hro
  simp only [Tryz.ntmps109, List.size_toArray, List.length_cons, List.length_nil, Nat.reduceAdd, Nat.reduceSub, Array.replicate_succ, Array.replicate_zero, List.push_toArray, List.append_toArray, List.nil_append, List.cons_append]
  obtain ⟨c0, a, cap, rfl, hc⟩ := id hrW
  clear hc
  gi_wp2
  gi_loopw [3] (fun iv wr => ∃ (k : Nat) (pre : List (Fin xs.length)), k ≤ xs.length ∧ iv = .int .i64 ((k : Int) - 1) ∧ (pre.map (nth xs)).reverse = xs.drop k ∧ J pre wr ∧ Rd n0 g (.slice a xs.length cap) xs wr) (fun iv _ => (intOf iv + 1).toNat)
  case atStart => exact ⟨xs.length, [], Nat.le_refl _, rfl, by simp, h0, hrW⟩
  case round =>
    obtain ⟨k, pre, hk, rfl, hpk, hJk, hrd⟩ := hrel
    obtain ⟨d0, a', cap', e', hc⟩ := id hrd
    simp only [Value.slice.injEq] at e'
    obtain ⟨rfl, _, rfl⟩ := e'
    have HP := Lib.hid hpk
    clear hpk
    rcases Nat.eq_zero_or_pos k with rfl | hpos
    · clear hc
      gi_wp2
      go_end0
      exact ⟨⟨_, rfl⟩, .inl ⟨pre, by have := HP.out; rwa [List.drop_zero] at this, hJk⟩⟩
    · obtain ⟨j, rfl⟩ : ∃ j, k = j + 1 := ⟨k - 1, by omega⟩
      have hjl : j < xs.length := by omega
      have hpl : pre.length < xs.length := by
        have := congrArg List.length HP.out
        simp at this
        omega
      obtain ⟨b, off, rfl, hlow, hcell⟩ := hc j hjl
      obtain ⟨fn, tmps, assign, body, hy, hR⟩ := hY pre ⟨j, hjl⟩ wr hJk hpl
      have HPP := Lib.hid (drop_back xs pre j hjl HP.out)
      clear hc
      have hj1 : ((j + 1 : Nat) : Int) - 1 = (j : Int) := by omega
      rw [hj1]
      dsimp only [nth] at hy
      generalize xs.getD j 0 = y at hcell hy
      gi_wp2
      refine hR.mono ?_
      rintro e W3 (⟨rfl, hJ3, hk3⟩ | ⟨rfl, hJx3⟩)
      · gi_wp2
        go_roundw
        case rel => exact ⟨j, _, by omega, by go_num, HPP.out, hJ3, hk3 hrd⟩
        case measure => simp [intOf]
      · gi_wp2
        refine bodyPost_ret (results_none rfl _ _ _) rfl ?_
        exact ⟨⟨_, rfl⟩, .inr ⟨_, trivial, hJx3⟩⟩

end Go.Proofs.YtpenbkfchgeafaaGreatDoor

namespace Go.Proofs.YtpenbkfchgeafaaGreatDoor
open Go.RowKit Go.Shelf

/-- The block b holds the value v alone, and may be written. -/
def Bx (W : World) (b : Nat) (v : Value) : Prop := W.cell? ⟨b, 0, none⟩ = some v ∧ W.frozen? ⟨b, 0, none⟩ = false
theorem Bx.new (W : World) (v : Value) (t : TypeId) : Bx (W.alloc (.cells #[v] t)) W.heap.size v := by
  have h : (W.alloc (.cells #[v] t)).heap[W.heap.size]? = some (.cells #[v] t (0, 0)) := World.alloc_heap_new W _
  exact ⟨by rw [cell_of_row _ _ 0 _ _ _ h]; rfl, frozen_of_row _ _ 0 _ _ h⟩
theorem Bx.lt {W : World} {b : Nat} {v : Value} (h : Bx W b v) : b < W.heap.size := World.block_lt_of_cell? W _ h.1
theorem Bx.below {W W' : World} {b : Nat} {v : Value} (h : Bx W b v) (hb : Below W.heap.size W W') : Bx W' b v :=
  ⟨(hb.cell (p := ⟨b, 0, none⟩) h.lt).trans h.1, (hb.frozen (p := ⟨b, 0, none⟩) h.lt).trans h.2⟩
theorem Bx.alloc {W : World} {b : Nat} {v : Value} (h : Bx W b v) (o : Obj) : Bx (W.alloc o) b v := h.below ((Below.refl _ _).alloc (Nat.le_refl _) _)
theorem Bx.own {W W' : World} {b : Nat} {v : Value} {row : Option Nat} (h : Bx W b v) (hg : W.grownBy W' row) (hr : ∀ r, row = some r → ∃ o : Obj, W.heap[r]? = some o ∧ o.isCells = false) : Bx W' b v :=
  ⟨cell_kept h.1 hg hr, (frozen_kept h.1 hg hr).trans h.2⟩
theorem Bx.set {W : World} {b : Nat} {v : Value} (h : Bx W b v) (u : Value) : Bx (W.setCell ⟨b, 0, none⟩ u) b u :=
  ⟨World.cell?_setCell_same' _ _ _ (by rw [h.1]; rfl), by rw [World.frozen?_setCell]; exact h.2⟩
theorem Bx.other {W : World} {b c : Nat} {v : Value} (h : Bx W b v) (hne : b ≠ c) (u : Value) : Bx (W.setCell ⟨c, 0, none⟩ u) b v :=
  ⟨(World.cell?_setCell_other _ _ _ _ (by intro e; simp at e <;> omega)).trans h.1, by rw [World.frozen?_setCell]; exact h.2⟩

end Go.Proofs.YtpenbkfchgeafaaGreatDoor

namespace Go.Proofs.YtpenbkfchgeafaaGreatDoor
open Go.RowKit

theorem set_listed {listed : Array Bool} {i : Nat} (hi : listed.getD i true = false) (j : Nat) (d : Bool) : (listed.setIfInBounds i true).getD j d = if i = j then true else listed.getD j d := by
  by_cases h : i = j
  · subst h
    have hlt : i < listed.size := by
      rcases Nat.lt_or_ge i listed.size with h | h
      · exact h
      · simp [Array.getElem?_eq_none h] at hi
    simp [hlt]
  · rw [getD_set_ne d h, if_neg h]

/-- How many have not come up. -/
def unl (listed : Array Bool) : Nat → Nat
  | 0 => 0
  | k + 1 => unl listed k + (if listed.getD k true = false then 1 else 0)

theorem unl_set {listed : Array Bool} {i : Nat} (hi : listed.getD i true = false) : ∀ k, unl (listed.setIfInBounds i true) k + (if i < k then 1 else 0) = unl listed k
  | 0 => by simp [unl]
  | k + 1 => by
    have ih := unl_set hi k
    rw [unl, unl, set_listed hi k true]
    by_cases h : i = k
    · subst h
      rw [if_pos rfl, hi]
      simp at ih ⊢
      omega
    · rw [if_neg h]
      generalize (if listed.getD k true = false then 1 else 0) = c
      by_cases h2 : i < k
      · rw [if_pos h2] at ih
        rw [if_pos (show i < k + 1 by omega)]
        omega
      · rw [if_neg h2] at ih
        rw [if_neg (show ¬ i < k + 1 by omega)]
        omega

theorem unl_zero {listed : Array Bool} : ∀ k, unl listed k = 0 → ∀ j, j < k → listed.getD j true = true
  | 0, _, j, hj => by omega
  | k + 1, h, j, hj => by
    rw [unl] at h
    by_cases e : j = k
    · subst e
      cases hb : listed.getD j true
      · rw [hb] at h; simp at h
      · rfl
    · exact unl_zero k (by omega) j (by omega)

theorem unl_full : ∀ k n, k ≤ n → unl (Array.replicate n false) k = k
  | 0, _, _ => rfl
  | k + 1, n, h => by
    rw [unl, unl_full k n (by omega)]
    have : (Array.replicate n false).getD k true = false := by simp [show k < n by omega]
    rw [this]; rfl

/-- No operation waits for one that stands behind it. -/
def waitsBack (ops : Array Oper) : Bool := (List.range ops.size).all fun j => match ops[j]? with
  | some o => o.after.all fun e => decide (e.on < j)
  | none => true

theorem ready_some {ops : Array Oper} (hb : waitsBack ops = true) {listed : Array Bool} (hs : listed.size = ops.size) (hr : Region.ready .any ops listed = []) : ∀ j, j < ops.size → listed.getD j true = true := by
  intro j
  induction j using Nat.strongRecOn with
  | _ j ih =>
    intro hj
    cases hl : listed.getD j true
    · exfalso
      have h1 : ops[j]? = some ops[j] := Array.getElem?_eq_getElem hj
      have h2 := List.all_eq_true.1 hb j (List.mem_range.2 hj)
      rw [h1] at h2
      have : j ∈ Region.ready .any ops listed := mem_ready.2 ⟨hl, ops[j], h1, fun e he _ => by
        have h3 := Array.all_eq_true_iff_forall_mem.1 h2 e he
        have h4 : e.on < j := by simpa using h3
        have h5 := ih e.on h4 (by omega)
        have h6 : e.on < listed.size := by omega
        simpa [h6] using h5⟩
      rw [hr] at this
      cases this
    · rfl

theorem wpAnyIn_inv {P : Program} {F : Fence} {n : Nat} {ops : Array Oper} {Q : Exit → Act → World → Prop} (Inv : Array Bool → Act → World → Prop) (hb : waitsBack ops = true)
    (hsz : ∀ listed a w, Inv listed a w → listed.size = ops.size)
    (hstep : ∀ listed a w i, Inv listed a w → i ∈ Region.ready .any ops listed → wpOpIn F n P ops Q i (fun a' w' => Inv (listed.setIfInBounds i true) a' w') a w)
    (hend : ∀ listed a w, Inv listed a w → (∀ j, j < ops.size → listed.getD j true = true) → Q .normal a w) :
    ∀ fuel listed a w, Inv listed a w → unl listed ops.size ≤ fuel → wpAnyIn F n P .any ops Q fuel listed a w
  | 0, listed, a, w, h, hu => by
    have hall := unl_zero ops.size (by omega) (listed := listed)
    refine ⟨?_, hend _ _ _ h hall⟩
    rw [List.eq_nil_iff_forall_not_mem]
    intro i hi
    obtain ⟨h1, o, ho, _⟩ := mem_ready.1 hi
    rw [hall i (Array.getElem?_eq_some_iff.1 ho).1] at h1
    cases h1
  | fuel + 1, listed, a, w, h, hu => by
    refine ⟨fun hr => hend _ _ _ h (ready_some hb (hsz _ _ _ h) hr), fun i hi => ?_⟩
    obtain ⟨h1, o, ho, _⟩ := mem_ready.1 hi
    have hlt := (Array.getElem?_eq_some_iff.1 ho).1
    have hs := unl_set h1 ops.size
    rw [if_pos hlt] at hs
    exact wpOpIn_mono (fun a' w' h' => wpAnyIn_inv Inv hb hsz hstep hend fuel _ a' w' h' (by omega)) (hstep _ _ _ _ h hi)

theorem wpIn_region_inv {P : Program} {F : Fence} {n id : Nat} {ops : Array Oper} {Q : Exit → Act → World → Prop} {a : Act} {w : World} (hm : P.follows .mixedOrders = true) (hb : waitsBack ops = true) (Inv : Array Bool → Act → World → Prop)
    (hsz : ∀ listed a w, Inv listed a w → listed.size = ops.size)
    (h0 : Inv (Array.replicate ops.size false) a w.drew)
    (hstep : ∀ listed a w i, Inv listed a w → i ∈ Region.ready .any ops listed → wpOpIn F n P ops Q i (fun a' w' => Inv (listed.setIfInBounds i true) a' w') a w)
    (hend : ∀ listed a w, Inv listed a w → (∀ j, j < ops.size → listed.getD j true = true) → Q .normal a w) : (Code.region id ops true).wpIn F n P Q a w :=
  wpIn_region_any hm (wpAnyIn_inv Inv hb hsz hstep hend _ _ _ _ h0 (by rw [unl_full _ _ (Nat.le_refl _)]; exact Nat.le_refl _))

theorem wpOpIn_of {F : Fence} {n : Nat} {P : Program} {ops : Array Oper} {Q : Exit → Act → World → Prop} {i : Nat} {K : Act → World → Prop} {a : Act} {w : World} {o : Oper} (ho : ops[i]? = some o) (hw : Region.wanted o (yielded ops a.tmps) = true) (h : o.wpIn F n P a w K Q) : wpOpIn F n P ops Q i K a w := by
  unfold wpOpIn
  simp only [ho, hw, if_true]
  exact h

theorem wpIn_val {l n : Nat} {P : Program} {Q : Exit → Act → World → Prop} {K : Act → World → Prop} {a : Act} {w w' : World} {o : Oper} {v : Value} (hnd : ∀ c, o.op ≠ .defer c) (hr : (execOp a.eval o).run P w = .ok (.value v) w') (h : K (a.put o.dst v) w') : o.wpIn (Fence.wide.inRound l) n P a w K Q := by
  unfold Oper.wpIn
  refine ⟨fun _ _ => trivial, ?_⟩
  rw [Oper.semAt_plain _ _ _ hnd, hr]
  exact h

theorem wpIn_skipped {l n : Nat} {P : Program} {Q : Exit → Act → World → Prop} {K : Act → World → Prop} {a : Act} {w w' : World} {o : Oper} (hnd : ∀ c, o.op ≠ .defer c) (hr : (execOp a.eval o).run P w = .ok .skip w') (h : K (a.put o.dst undef) w') : o.wpIn (Fence.wide.inRound l) n P a w K Q := by
  unfold Oper.wpIn
  refine ⟨fun _ _ => trivial, ?_⟩
  rw [Oper.semAt_plain _ _ _ hnd, hr]
  exact h

end Go.Proofs.YtpenbkfchgeafaaGreatDoor
