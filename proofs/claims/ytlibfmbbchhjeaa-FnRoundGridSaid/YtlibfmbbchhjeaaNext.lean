/- The next table, in the program. -/
import Derived.Test.YtlibfmbbchhjeaaRoundD
namespace Go.Proofs.Ytlibfmbbchhjeaa

section
open Go.RowKit

/-- The table with another number in row i, column k. -/
def setC (o : List (List Int)) (i k : Nat) (x : Int) : List (List Int) := o.set i ((rowOf o i).set k x)

theorem setC_length (o : List (List Int)) (i k : Nat) (x : Int) : (setC o i k x).length = o.length := by simp [setC]
theorem setC_row (o : List (List Int)) (i k : Nat) (x : Int) (j : Nat) (hi : i < o.length) : rowOf (setC o i k x) j = if j = i then (rowOf o i).set k x else rowOf o j := by
  unfold setC rowOf
  by_cases h : j = i
  · subst h
    rw [if_pos rfl]
    simp [List.getD, hi]
  · rw [if_neg h]
    have h' : ¬ i = j := fun e => h e.symm
    simp [List.getD, h']
theorem setC_rowlen (o : List (List Int)) (i k : Nat) (x : Int) (j : Nat) (hi : i < o.length) : (rowOf (setC o i k x) j).length = (rowOf o j).length := by
  rw [setC_row o i k x j hi]
  by_cases h : j = i
  · rw [if_pos h, h]; simp
  · rw [if_neg h]

theorem OwnGrid.at {w : World} {B : Nat} {v : Value} {o : List (List Int)} (h : OwnGrid w B v o) (i k : Nat) (hi : i < o.length) (hk : k < (rowOf o i).length) :
    ∃ b0 Gi, v = .slice (some ⟨b0, 0, none⟩) o.length o.length ∧ B ≤ Gi ∧ w.cell? ⟨b0, i, none⟩ = some (.slice (some ⟨Gi, 0, none⟩) (rowOf o i).length (rowOf o i).length) ∧ w.cell? ⟨Gi, k, none⟩ = some (.int .i64 (cellOf o i k)) ∧ w.frozen? ⟨Gi, k, none⟩ = false ∧
      ∀ x, OwnGrid (w.setCell ⟨Gi, k, none⟩ (.int .i64 x)) B v (setC o i k x) ∧ w.grownBy (w.setCell ⟨Gi, k, none⟩ (.int .i64 x)) (some Gi) := by
  obtain ⟨b0, G, rfl, hown, hrows, hd⟩ := h
  have hri := (hrows i hi).2
  have hri' : w.ownsRow B 3 1 (.slice (some ⟨G i, 0, none⟩) (rowOf o i).length (rowOf o i).length) (rowOf o i).length ((rowOf o i).map (Value.int .i64)) := hri
  refine ⟨b0, G i, rfl, (hri.lt (G i) (by simp [rowVal, Value.ownBlock])).1, ?_, ?_, hri'.frozenAt k, fun x => ?_⟩
  · rw [hown.cellAt i (by omega)]
    simp [hi, rowVal]
  · rw [hri'.cellAt k (by omega)]
    simp [hk, cellOf, List.getD]
  · have hst := hri'.stored k (.int .i64 x)
    refine ⟨⟨b0, G, by rw [setC_length], ?_, fun j hj => ?_, fun j l hj hl => hd j l (by rwa [setC_length] at hj) (by rwa [setC_length] at hl)⟩, hst.2⟩
    · rw [setC_length, List.map_congr_left (fun j hj => by rw [setC_rowlen o i k x j hi])]
      exact World.ownsRow.kept hown hst.2 (.inr (by have := (hrows i hi).1; simp [rowVal, Value.ownBlock]; omega))
    · rw [setC_length] at hj
      rw [setC_rowlen o i k x j hi]
      refine ⟨(hrows j hj).1, ?_⟩
      rw [setC_row o i k x j hi]
      by_cases hji : j = i
      · subst hji
        rw [if_pos rfl]
        have := hst.1
        unfold Own rowVal
        rw [List.length_set, List.map_set]
        exact this
      · rw [if_neg hji]
        exact (hrows j hj).2.kept hst.2 (.inr (by have := hd j i hj hi hji; simp [rowVal, Value.ownBlock]; omega))

end

open Go.RowKit

/-- The next table within the first k numbers of row i. -/
def nextIn (g : List (List Int)) (u : Int) (i : Nat) : Nat → List (List Int) → Bool × List (List Int)
  | 0, o => (false, o)
  | k + 1, o => if cellOf o i k = cellOf g i k / u ∧ cellOf g i k % u ≠ 0 then (true, setC o i k (cellOf o i k + 1)) else nextIn g u i k (setC o i k (cellOf g i k / u))
/-- The next table within the first rows. -/
def nextAll (g : List (List Int)) (u : Int) : Nat → List (List Int) → Bool × List (List Int)
  | 0, o => (false, o)
  | i + 1, o => if (nextIn g u i (rowOf g i).length o).1 = true then (true, (nextIn g u i (rowOf g i).length o).2) else nextAll g u i (nextIn g u i (rowOf g i).length o).2

theorem nextIn_no {g o : List (List Int)} {u : Int} {i k : Nat} (h : ¬ (cellOf o i k = cellOf g i k / u ∧ cellOf g i k % u ≠ 0)) : nextIn g u i (k + 1) o = nextIn g u i k (setC o i k (cellOf g i k / u)) := by
  rw [nextIn, if_neg h]
theorem nextIn_yes {g o : List (List Int)} {u : Int} {i k : Nat} (h : cellOf o i k = cellOf g i k / u ∧ cellOf g i k % u ≠ 0) : nextIn g u i (k + 1) o = (true, setC o i k (cellOf o i k + 1)) := by
  rw [nextIn, if_pos h]

def sameForm (g o : List (List Int)) : Prop := o.length = g.length ∧ ∀ j, (rowOf o j).length = (rowOf g j).length

theorem sameForm.set {g o : List (List Int)} (h : sameForm g o) {i : Nat} (hi : i < g.length) (k : Nat) (x : Int) : sameForm g (setC o i k x) :=
  ⟨by rw [setC_length]; exact h.1, fun j => by rw [setC_rowlen o i k x j (by rw [h.1]; exact hi)]; exact h.2 j⟩

set_option maxRecDepth 100000 in
set_option maxHeartbeats 1600000 in
theorem roundNext_impl (v z : Value) (g o : List (List Int)) (u : Int) (W w : World) (B : Nat) (hv : IsGrid W v g) (hW : Below W.heap.size W w) (hB : W.heap.size ≤ B) (hBw : B ≤ w.heap.size) (h1 : vGrid g u = true) (hz : OwnGrid w B z o) (hs : sameForm g o) :
    Calls Try.prog 78 #[v, .int .i64 u, z] w fun e w' => e = .returned (.bool (nextAll g u g.length o).1) ∧ OwnGrid w' B z (nextAll g u g.length o).2 ∧ Below B w w' := by
  obtain ⟨a, cap, rfl, _⟩ := id hv
  obtain ⟨b0, _, hzv, _⟩ := id hz
  unfold rowVal at hzv
  subst hzv
  have hg := small_vGrid h1
  have hu := ((vGrid_iff g u).1 h1).2.1
  have hl := hg.1
  go_enter Try.func78, Try.ntmps78
  go_wp2
  go_loopg [7] g.length (fun q s wr => q ≤ g.length ∧ s = .int .i64 ((q : Int) - 1) ∧ ∃ o', sameForm g o' ∧ OwnGrid wr B (.slice (some ⟨b0, 0, none⟩) o.length o.length) o' ∧ nextAll g u g.length o = nextAll g u q o' ∧ Below B w wr)
  case atStart => exact ⟨Nat.le_refl _, rfl, o, hs, hz, rfl, Below.refl _ _⟩
  case round =>
    obtain ⟨hq, hs7, o', hs', hz', hnx, hbl⟩ := hrel
    have HNX := Lib.hid hnx
    clear hnx
    cases gk with
    | zero =>
      rw [show ((0 : Nat) : Int) - 1 = -1 by rfl] at hs7
      subst hs7
      have HZ := Lib.hid hz'
      clear hz hz'
      go_wp2
      go_ret
      refine ⟨ret_bool ?_, ?_, hbl⟩
      · rw [HNX.out]; rfl
      · rw [HNX.out]; exact HZ.out
    | succ i =>
      rw [show ((i + 1 : Nat) : Int) - 1 = (i : Int) by omega] at hs7
      subst hs7
      have hWr : Below W.heap.size W wr := hW.trans (hbl.mono hB)
      have hlt : i < g.length := by omega
      obtain ⟨b, off, ar, cr, rfl, cw, ccw⟩ := hv.row i hlt
      have hbw : b < W.heap.size := World.block_lt_of_cell? W _ cw
      have ci : wr.cell? ⟨b, off + i, none⟩ = some (.slice ar (rowOf g i).length cr) := (hWr.cell (by exact hbw)).trans cw
      have i1 : (i : Int) < (g.length : Int) := by omega
      have i2 : (i : Int) < (o.length : Int) := by rw [hs.1]; omega
      have hn := hg.2.1
      have hrl := (hg.2.2 i hlt).1
      have hl3 : (rowOf g i).length ≤ 3 := by omega
      have HC := Lib.hid ccw
      have HRL := Lib.hid hrl
      clear ccw hrl
      go_wp2
      go_loopg [8] (rowOf g i).length (fun q s wr => q ≤ (rowOf g i).length ∧ s = .int .i64 ((q : Int) - 1) ∧ ∃ o'', sameForm g o'' ∧ OwnGrid wr B (.slice (some ⟨b0, 0, none⟩) o.length o.length) o'' ∧ nextAll g u g.length o = (if (nextIn g u i q o'').1 = true then (true, (nextIn g u i q o'').2) else nextAll g u i (nextIn g u i q o'').2) ∧ Below B w wr)
      case atStart => exact ⟨Nat.le_refl _, rfl, o', hs', hz', HNX.out, hbl⟩
      case round =>
        clear hs' hz' HNX hbl hWr ci
        obtain ⟨hqk, hs8, o2, hs2, hz2, hnx, hbl⟩ := hrel
        have HNX := Lib.hid hnx
        have hWr : Below W.heap.size W wr := hW.trans (hbl.mono hB)
        have ci : wr.cell? ⟨b, off + i, none⟩ = some (.slice ar (rowOf g i).length cr) := (hWr.cell (by exact hbw)).trans cw
        clear hnx
        cases gk with
        | zero =>
          rw [show ((0 : Nat) : Int) - 1 = -1 by rfl] at hs8
          subst hs8
          go_wp2
          go_roundg i
          case measure => omega
          case rel => exact ⟨by omega, by go_num, o2, hs2, hz2, HNX.out, hbl⟩
        | succ k =>
          rw [show ((k + 1 : Nat) : Int) - 1 = (k : Int) by omega] at hs8
          subst hs8
          have hlk : k < (rowOf g i).length := by omega
          obtain ⟨br, fr, rfl, ckw⟩ := HC.out k hlk
          have hbrw : br < W.heap.size := World.block_lt_of_cell? W _ ckw
          have ck : wr.cell? ⟨br, fr + k, none⟩ = some (.int .i64 (cellOf g i k)) := (hWr.cell (by exact hbrw)).trans ckw
          obtain ⟨b0', Gi, e, hGB, cO, cX, fX, hset⟩ := hz2.at i k (by rw [hs2.1]; exact hlt) (by rw [hs2.2 i]; exact hlk)
          simp only [Value.slice.injEq, Option.some.injEq, Addr.mk.injEq, and_true] at e
          obtain ⟨rfl, _⟩ := e
          have hx := (hg.2.2 i hlt).2 k (by rw [← HRL.out]; exact hlk)
          have k1 : (k : Int) < ((rowOf g i).length : Int) := by omega
          have k2 : (k : Int) < ((rowOf o2 i).length : Int) := by rw [hs2.2 i]; omega
          have HSET := Lib.hid hset
          have hq0 : 0 ≤ cellOf g i k / u := Int.ediv_nonneg hx.1 (by omega)
          have hq1 : cellOf g i k / u ≤ cellOf g i k := Int.ediv_le_self _ hx.1
          clear ckw hset hz2
          by_cases hxe : cellOf o2 i k = cellOf g i k / u
          · have hxe' : (cellOf o2 i k == cellOf g i k / u) = true := by simpa using hxe
            have HXE := Lib.hid hxe
            have hxb : 0 ≤ cellOf o2 i k ∧ cellOf o2 i k ≤ 50 := by omega
            by_cases hm : cellOf g i k % u = 0
            · have hm' : (cellOf g i k % u != 0) = false := by simpa using hm
              have HNO : Hid (¬ (cellOf o2 i k = cellOf g i k / u ∧ cellOf g i k % u ≠ 0)) := fun h => h.2 hm
              clear hm hxe
              go_wp2
              go_roundg k
              case measure => omega
              case rel =>
                refine ⟨by omega, by go_num, _, hs2.set hlt k (cellOf g i k / u), (HSET.out _).1, ?_, hbl.grown (HSET.out (cellOf g i k / u)).2 (by have := hbl.size; omega) (fun q hq => by cases hq; exact hGB)⟩
                rw [HNX.out, nextIn_no HNO.out]
            · have hm' : (cellOf g i k % u != 0) = true := by simpa using hm
              have HYES : Hid (cellOf o2 i k = cellOf g i k / u ∧ cellOf g i k % u ≠ 0) := ⟨hxe, hm⟩
              clear hm hxe
              go_wp2
              go_ret
              refine ⟨ret_bool ?_, ?_, hbl.grown (HSET.out (cellOf o2 i k + 1)).2 (by have := hbl.size; omega) (fun q hq => by cases hq; exact hGB)⟩
              · rw [HNX.out, nextIn_yes HYES.out]; rfl
              · rw [HNX.out, nextIn_yes HYES.out]; exact (HSET.out _).1
          · have hxe' : (cellOf o2 i k == cellOf g i k / u) = false := by simpa using hxe
            have HNO : Hid (¬ (cellOf o2 i k = cellOf g i k / u ∧ cellOf g i k % u ≠ 0)) := fun h => hxe h.1
            clear hxe
            go_wp2
            go_roundg k
            case measure => omega
            case rel =>
              refine ⟨by omega, by go_num, _, hs2.set hlt k (cellOf g i k / u), (HSET.out _).1, ?_, hbl.grown (HSET.out (cellOf g i k / u)).2 (by have := hbl.size; omega) (fun q hq => by cases hq; exact hGB)⟩
              rw [HNX.out, nextIn_no HNO.out]

end Go.Proofs.Ytlibfmbbchhjeaa
