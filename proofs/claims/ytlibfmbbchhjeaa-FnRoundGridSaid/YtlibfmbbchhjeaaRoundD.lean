/- A table rounded down, made by the program. -/
import Derived.Test.YtlibfmbbchhjeaaSC
namespace Go.Proofs.Ytlibfmbbchhjeaa
open Go.RowKit

/-- The value of a row that lies whole in block G. -/
def rowVal (G n : Nat) : Value := .slice (some ⟨G, 0, none⟩) n n

/-- v is a slice of rows, each in a block of its own, all from block B on. -/
def OwnGrid (w : World) (B : Nat) (v : Value) (g : List (List Int)) : Prop :=
  ∃ (b0 : Nat) (G : Nat → Nat), v = rowVal b0 g.length ∧ w.ownsRow B 23 1 v g.length ((List.range g.length).map fun i => rowVal (G i) (rowOf g i).length) ∧
    (∀ i, i < g.length → G i ≠ b0 ∧ Own w B (rowVal (G i) (rowOf g i).length) (rowOf g i)) ∧ (∀ i j, i < g.length → j < g.length → i ≠ j → G i ≠ G j)

theorem OwnGrid.grid {w : World} {B : Nat} {v : Value} {g : List (List Int)} (h : OwnGrid w B v g) : IsGrid w v g := by
  obtain ⟨b0, G, rfl, hown, hrows, _⟩ := h
  refine ⟨_, _, rfl, fun j hj => ⟨b0, 0, rowVal (G j) (rowOf g j).length, rfl, ?_, (hrows j hj).2.ints⟩⟩
  rw [Nat.zero_add, hown.cellAt j (by omega)]
  simp [hj]

theorem OwnGrid.below {w w' : World} {B : Nat} {v : Value} {g : List (List Int)} (h : OwnGrid w B v g) (hb : Below w.heap.size w w') : OwnGrid w' B v g := by
  obtain ⟨b0, G, rfl, hown, hrows, hd⟩ := h
  exact ⟨b0, G, rfl, World.ownsRow.kept hown (grown_below hb none) (.inr (by simp [rowVal, Value.ownBlock])), fun i hi => ⟨(hrows i hi).1, (hrows i hi).2.below hb⟩, hd⟩

/-- The grid with all numbers divided, rounded down. -/
def downG (g : List (List Int)) (u : Int) : List (List Int) := g.map fun r => r.map (· / u)

theorem downG_length (g : List (List Int)) (u : Int) : (downG g u).length = g.length := by simp [downG]
theorem downG_row (g : List (List Int)) (u : Int) (i : Nat) (hi : i < g.length) : rowOf (downG g u) i = (rowOf g i).map (· / u) := by
  simp [rowOf, downG, List.getD, hi]

theorem same_grown {x y : World} {row : Option Nat} (e : y.heap = x.heap) (eo : y.os = x.os) (et : y.tape = x.tape) (eu : y.output = x.output) : x.grownBy y row :=
  ⟨eo, et, eu, by rw [e]; exact Nat.le_refl _, fun k hk hne => by rw [e]⟩

theorem range_set (G : Nat → Nat) (B : Nat) (L : Nat → Nat) (n i : Nat) (h : i < n) :
    (((List.range i).map fun j => rowVal (G j) (L j)) ++ List.replicate (n - i) (Value.slice none 0 0)).set i (.slice (some ⟨B, 0, none⟩) (L i) (L i)) = ((List.range (i + 1)).map fun j => rowVal (if j = i then B else G j) (L j)) ++ List.replicate (n - (i + 1)) (Value.slice none 0 0) := by
  rw [set_vals _ _ n i (by simp) h, List.range_succ, List.map_append]
  congr 1
  congr 1
  · apply List.map_congr_left
    intro j hj
    rw [if_neg (by have := List.mem_range.1 hj; omega)]
  · simp [rowVal]

theorem down_set (xs : List Int) (u : Int) (k : Nat) (h : k < xs.length) :
    (((xs.take k).map fun x => Value.int .i64 (x / u)) ++ List.replicate (xs.length - k) (Value.int .i64 0)).set k (.int .i64 (xs[k] / u)) = ((xs.take (k + 1)).map fun x => Value.int .i64 (x / u)) ++ List.replicate (xs.length - (k + 1)) (Value.int .i64 0) := by
  have e : xs.length - k = (xs.length - (k + 1)) + 1 := by omega
  rw [e, List.replicate_succ, List.take_succ_eq_append_getElem h, List.map_append, List.append_assoc]
  have hl : ((xs.take k).map fun x => Value.int .i64 (x / u)).length = k := by simp; omega
  rw [List.set_append_right _ _ (by omega), hl, Nat.sub_self]
  rfl

set_option maxRecDepth 100000 in
set_option maxHeartbeats 1600000 in
theorem roundedDown_impl (v : Value) (g : List (List Int)) (u : Int) (w : World) (hv : IsGrid w v g) (h1 : vGrid g u = true) :
    Calls Try.prog 77 #[v, .int .i64 u] w fun e w' => ∃ v', e = .returned v' ∧ OwnGrid w' w.heap.size v' (downG g u) ∧ Below w.heap.size w w' := by
  obtain ⟨a, cap, rfl, _⟩ := id hv
  have hg := small_vGrid h1
  have hu := ((vGrid_iff g u).1 h1).2.1
  have hl := hg.1
  obtain ⟨i0, hi, hz0, hz1, hz2⟩ := info_parts infoInts
  obtain ⟨i1, ji, jz0, jz1, jz2⟩ := info_parts infoInt
  go_enter Try.func77, Try.ntmps77
  go_wp2_with (at_make; refine wpList_make_full _ rfl _ _ 38 rfl w.heap.size 23 i0 (.slice none 0 0) 1 Try.underlying38 hi hz0 hz1 _ _ _ _ g.length rfl rfl rfl rfl ?b2 ?b3 (Nat.le_refl _) ?_)
  case b2 => rw [hz2]; omega
  case b3 => unfold maxLen; omega
  intro w0 hown0 hgrow0
  have hb0 : Below w.heap.size w w0 := below_grown hgrow0 (Nat.le_refl _) (fun k h => by cases h)
  have hsz : w.heap.size ≤ w0.heap.size := hb0.size
  have hw0 : w0.ownsRow w.heap.size 23 1 (.slice (some ⟨w.heap.size, 0, none⟩) g.length g.length) g.length (([] : List Value) ++ List.replicate (g.length - 0) (Value.slice none 0 0)) := by
    rw [toList_madeCells_one] at hown0
    simpa using hown0
  clear hown0 hgrow0
  go_wp2
  go_loopw [15] (fun s wr => ∃ (i : Nat) (G : Nat → Nat), i ≤ g.length ∧ s = .int .i64 i ∧ wr.ownsRow w.heap.size 23 1 (.slice (some ⟨w.heap.size, 0, none⟩) g.length g.length) g.length (((List.range i).map fun j => rowVal (G j) (rowOf g j).length) ++ List.replicate (g.length - i) (Value.slice none 0 0)) ∧
      (∀ j, j < i → w.heap.size < G j ∧ Own wr (w.heap.size + 1) (rowVal (G j) (rowOf g j).length) (rowOf (downG g u) j)) ∧ (∀ j k, j < i → k < i → j ≠ k → G j ≠ G k) ∧ Below w.heap.size w wr)
    (fun s _ => g.length - (intOf s).toNat)
  case atStart => exact ⟨0, fun _ => 0, Nat.zero_le _, rfl, hw0, fun j hj => by omega, fun j k hj => by omega, hb0⟩
  case round =>
    clear hw0 hb0 hsz
    obtain ⟨i, G, hile, rfl, hown, hrows, hdist, hbl⟩ := hrel
    by_cases hlt : i < g.length
    · obtain ⟨b, off, ar, cr, rfl, cw, ccw⟩ := hv.row i hlt
      have hbw : b < w.heap.size := World.block_lt_of_cell? w _ cw
      have ci : wr.cell? ⟨b, off + i, none⟩ = some (.slice ar (rowOf g i).length cr) := (hbl.cell (by exact hbw)).trans cw
      have HC := Lib.hid ccw
      clear ccw
      have hn := hg.2.1
      have hri := (hg.2.2 i hlt).1
      have i1' : (i : Int) < (g.length : Int) := by omega
      have hdst : wr.cell? ⟨w.heap.size, i, none⟩ = some (.slice none 0 0) := by
        rw [hown.cellAt i (by omega), List.getElem?_append_right (by simp), List.getElem?_replicate, if_pos (by simp; omega)]
      have hBr : w.heap.size < wr.heap.size := World.block_lt_of_cell? wr ⟨w.heap.size, i, none⟩ hdst
      have HRI := Lib.hid hri
      have hl3 : (rowOf g i).length ≤ 3 := by omega
      clear hri
      go_wp2_with (at_make; refine wpList_make_full _ rfl _ _ 23 rfl wr.heap.size 3 i1 (.int .i64 0) 1 Try.underlying23 ji jz0 jz1 _ _ _ _ (rowOf g i).length rfl rfl rfl rfl ?b2 ?b3 (Nat.le_refl _) ?_)
      case b2 => rw [jz2]; omega
      case b3 => unfold maxLen; omega
      intro w1 hm1 hgr1
      have hb1 : Below wr.heap.size wr w1 := below_grown hgr1 (Nat.le_refl _) (fun k h => by cases h)
      have hm : w1.ownsRow wr.heap.size 3 1 (.slice (some ⟨wr.heap.size, 0, none⟩) (rowOf g i).length (rowOf g i).length) (rowOf g i).length ((((rowOf g i).take 0).map fun x => Value.int .i64 (x / u)) ++ List.replicate ((rowOf g i).length - 0) (Value.int .i64 0)) := by
        rw [toList_madeCells_one] at hm1
        simpa using hm1
      have hown1 := World.ownsRow.kept hown (grown_below hb1 none) (.inr (by simp [Value.ownBlock]))
      have hdst1 : w1.cell? ⟨w.heap.size, i, none⟩ = some (.slice none 0 0) := (hb1.cell (p := ⟨w.heap.size, i, none⟩) hBr).trans hdst
      have hfr1 : w1.frozen? ⟨w.heap.size, i, none⟩ = false := hown1.frozenAt i
      have hst := hown1.stored i (.slice (some ⟨wr.heap.size, 0, none⟩) (rowOf g i).length (rowOf g i).length)
      rw [range_set G wr.heap.size (fun j => (rowOf g j).length) g.length i hlt] at hst
      have hbl1 : Below w.heap.size w w1 := hbl.trans (hb1.mono hbl.size)
      have hb2 : Below w.heap.size w (w1.setCell ⟨w.heap.size, i, none⟩ (.slice (some ⟨wr.heap.size, 0, none⟩) (rowOf g i).length (rowOf g i).length)) := hbl1.setCell (by exact Nat.le_refl _) _
      have hmi := World.ownsRow.kept hm hst.2 (.inr (by simp [Value.ownBlock]; omega))
      have hGlt : ∀ j, j < i → G j < wr.heap.size := fun j hj => ((hrows j hj).2.lt (G j) (by simp [rowVal, Value.ownBlock])).2
      have hrows1 : ∀ j, j < i → w.heap.size < G j ∧ Own (w1.setCell ⟨w.heap.size, i, none⟩ (.slice (some ⟨wr.heap.size, 0, none⟩) (rowOf g i).length (rowOf g i).length)) (w.heap.size + 1) (rowVal (G j) (rowOf g j).length) (rowOf (downG g u) j) := fun j hj =>
        ⟨(hrows j hj).1, ((hrows j hj).2.below hb1).kept hst.2 (.inr (by have := (hrows j hj).1; simp [rowVal, Value.ownBlock]; omega))⟩
      have H1 := Lib.hid hst.1
      have H2 := Lib.hid hrows1
      have H3 := Lib.hid hmi
      have H4 := Lib.hid hGlt
      have H5 := Lib.hid hdist
      clear hst hrows1 hmi hGlt hdist hrows hown hown1 hm hm1 hgr1 hdst hbl1
      generalize hB : wr.heap.size = B at *
      go_wp2
      go_loopw [28] (fun s wx => ∃ k : Nat, k ≤ (rowOf g i).length ∧ s = .int .i64 k ∧ wx.ownsRow w.heap.size 23 1 (.slice (some ⟨w.heap.size, 0, none⟩) g.length g.length) g.length (((List.range (i + 1)).map fun j => rowVal (if j = i then B else G j) (rowOf g j).length) ++ List.replicate (g.length - (i + 1)) (Value.slice none 0 0)) ∧
          wx.ownsRow B 3 1 (.slice (some ⟨B, 0, none⟩) (rowOf g i).length (rowOf g i).length) (rowOf g i).length ((((rowOf g i).take k).map fun x => Value.int .i64 (x / u)) ++ List.replicate ((rowOf g i).length - k) (Value.int .i64 0)) ∧
          (∀ j, j < i → w.heap.size < G j ∧ Own wx (w.heap.size + 1) (rowVal (G j) (rowOf g j).length) (rowOf (downG g u) j)) ∧ Below w.heap.size w wx)
        (fun s _ => (rowOf g i).length - (intOf s).toNat)
      case atStart => exact ⟨0, Nat.zero_le _, rfl, H1.out, H3.out, H2.out, hb2⟩
      case round =>
        clear H1 H2 H3 hb2 hdst1 hfr1 ci
        obtain ⟨k, hk, rfl, hown, hri, hrows, hblx⟩ := hrel
        by_cases hlk : k < (rowOf g i).length
        · obtain ⟨br, fr, rfl, ckw⟩ := HC.out k hlk
          have hbrw : br < w.heap.size := World.block_lt_of_cell? w _ ckw
          have ck : wr.cell? ⟨br, fr + k, none⟩ = some (.int .i64 (cellOf g i k)) := (hblx.cell (by exact hbrw)).trans ckw
          clear ckw cw
          have k1 : (k : Int) < ((rowOf g i).length : Int) := by omega
          have hx := (hg.2.2 i hlt).2 k (by rw [← HRI.out]; exact hlk)
          have c0 : wr.cell? ⟨w.heap.size, i, none⟩ = some (.slice (some ⟨B, 0, none⟩) (rowOf g i).length (rowOf g i).length) := by
            rw [hown.cellAt i (by omega), List.getElem?_append_left (by simp)]
            simp [rowVal]
          have cd : wr.cell? ⟨B, k, none⟩ = some (.int .i64 0) := by
            rw [hri.cellAt k (by omega), List.getElem?_append_right (by simp; omega), List.getElem?_replicate, if_pos (by simp; omega)]
          have fd : wr.frozen? ⟨B, k, none⟩ = false := hri.frozenAt k
          have hst := hri.stored k (.int .i64 (cellOf g i k / u))
          rw [show cellOf g i k = (rowOf g i)[k] by simp [cellOf, List.getD, hlk], down_set _ _ _ hlk, show (rowOf g i)[k] = cellOf g i k by simp [cellOf, List.getD, hlk]] at hst
          have S1 := Lib.hid hst.1
          have S2 := Lib.hid hst.2
          have O1 := Lib.hid hown
          have R1 := Lib.hid hrows
          clear hst hown hri hrows
          go_wp2
          go_region
          all_goals
            go_wp2
            go_roundw
            case rel =>
              refine ⟨k + 1, by omega, by go_num, ?_, ?_, ?_, ?_⟩
              · exact World.ownsRow.kept (World.ownsRow.kept O1.out S2.out (.inr (by simp [Value.ownBlock]; omega))) (same_grown (row := none) rfl rfl rfl rfl) (.inr (by simp [Value.ownBlock]))
              · exact World.ownsRow.kept S1.out (same_grown (row := none) rfl rfl rfl rfl) (.inr (by simp [Value.ownBlock]))
              · intro j hj
                have hj1 := H4.out j hj
                exact ⟨(R1.out j hj).1, ((R1.out j hj).2.kept S2.out (.inr (by simp [rowVal, Value.ownBlock]; omega))).kept (same_grown (row := none) rfl rfl rfl rfl) (.inr (by simp [rowVal, Value.ownBlock]))⟩
              · exact (hblx.grown S2.out (hblx.size) (fun q hq => by cases hq; omega)).trans ⟨rfl, rfl, rfl, Nat.le_refl _, fun _ _ => rfl⟩
            case measure => simp [intOf]; omega
        · have hke : k = (rowOf g i).length := by omega
          subst hke
          have S1 : Hid (Own wr (w.heap.size + 1) (rowVal B (rowOf g i).length) (rowOf (downG g u) i)) := by
            show Own _ _ _ _
            refine Own.base (B := B) ?_ (by omega)
            unfold Own
            rw [downG_row g u i hlt]
            simpa [rowVal, List.map_map, Function.comp_def] using hri
          have O1 := Lib.hid hown
          have R1 := Lib.hid hrows
          clear hri hown hrows
          go_wp2
          go_roundw
          case rel =>
            refine ⟨i + 1, fun j => if j = i then B else G j, by omega, by go_num, O1.out, fun j hj => ?_, fun j k hj hk hjk => ?_, hblx⟩
            · by_cases hji : j = i
              · subst hji
                simp only [if_true]
                exact ⟨hBr, S1.out⟩
              · simp only [if_neg hji]
                exact R1.out j (by omega)
            · by_cases hji : j = i
              · by_cases hki : k = i
                · omega
                · simp only [if_pos hji, if_neg hki]
                  have := H4.out k (by omega)
                  omega
              · by_cases hki : k = i
                · simp only [if_neg hji, if_pos hki]
                  have := H4.out j (by omega)
                  omega
                · simp only [if_neg hji, if_neg hki]
                  exact H5.out j k (by omega) (by omega) hjk
          case measure => simp [intOf]; omega
    · have hie : i = g.length := by omega
      have HO : Hid (OwnGrid wr w.heap.size (.slice (some ⟨w.heap.size, 0, none⟩) g.length g.length) (downG g u)) := by
        subst hie
        have hrl : ∀ j, j < g.length → (rowOf (downG g u) j).length = (rowOf g j).length := fun j hj => by rw [downG_row g u j hj]; simp
        refine ⟨w.heap.size, G, by rw [downG_length]; rfl, ?_, fun j hj => ?_, fun j k hj hk => hdist j k (by rwa [downG_length] at hj) (by rwa [downG_length] at hk)⟩
        · rw [downG_length, List.map_congr_left (fun j hj => by rw [hrl j (List.mem_range.1 hj)])]
          simpa [rowVal] using hown
        · rw [downG_length] at hj
          rw [hrl j hj]
          exact ⟨by have := (hrows j hj).1; omega, (hrows j hj).2.base (by omega)⟩
      clear hown hrows hdist
      go_wp2
      go_ret
      exact ⟨_, rfl, HO.out, hbl⟩

end Go.Proofs.Ytlibfmbbchhjeaa
