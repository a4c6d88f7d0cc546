/- Slices of slices of ints, copied by the laws. -/
import Derived.Test.YtlibfmbbchhjeaaOwnI
import Derived.Test.YtlibfmbbchhjeaaSS
namespace Go.Proofs.Ytlibfmbbchhjeaa
open Go.RowKit

theorem infoInts : (Try.prog.info? 23).map (fun i => (i.zero, i.size, i.bytes)) = some (some (.slice none 0 0), 1, 24) := by kernel_rfl

theorem set_vals (vs : List Value) (v : Value) (n i : Nat) (hl : vs.length = i) (hi : i < n) : (vs ++ List.replicate (n - i) (Value.slice none 0 0)).set i v = (vs ++ [v]) ++ List.replicate (n - (i + 1)) (Value.slice none 0 0) := by
  have e : n - i = (n - (i + 1)) + 1 := by omega
  rw [e, List.replicate_succ, List.set_append_right _ _ (by omega), hl, Nat.sub_self, List.append_assoc]
  rfl

set_option maxRecDepth 100000 in
set_option maxHeartbeats 1600000 in
theorem toIntSS_any (v : Value) (g : List (List Int)) (w : World) (hv : IsGrid w v g) (hs : Sized g) :
    Calls Try.prog 47 #[v] w fun e w' => ∃ v', e = .returned v' ∧ IsGrid w' v' g ∧ Below w.heap.size w w' := by
  obtain ⟨a, cap, rfl, _⟩ := id hv
  have hl := hs.1
  obtain ⟨i0, hi, hz0, hz1, hz2⟩ := info_parts infoInts
  go_enter Try.func47, Try.ntmps47
  go_wp2_with (at_make; refine wpList_make_full _ rfl _ _ 38 rfl w.heap.size 23 i0 (.slice none 0 0) 1 Try.underlying38 hi hz0 hz1 _ _ _ _ g.length rfl rfl rfl rfl ?b2 ?b3 (Nat.le_refl _) ?_)
  case b2 => rw [hz2]; omega
  case b3 => unfold maxLen; omega
  intro w0 hown0 hgrow0
  have hb0 : Below w.heap.size w w0 := below_grown hgrow0 (Nat.le_refl _) (fun k h => by cases h)
  have hsz : w.heap.size ≤ w0.heap.size := hb0.size
  have hw0 : w0.ownsRow w.heap.size 23 1 (.slice (some ⟨w.heap.size, 0, none⟩) g.length g.length) g.length (([] : List Value) ++ List.replicate (g.length - 0) (Value.slice none 0 0)) := by
    rw [toList_madeCells_one] at hown0
    simpa using hown0
  clear hown0 hgrow0
  go_wp2
  go_loopw [4] (fun s wr => ∃ (i : Nat) (vs : List Value), i ≤ g.length ∧ s = .int .i64 i ∧ vs.length = i ∧ wr.ownsRow w.heap.size 23 1 (.slice (some ⟨w.heap.size, 0, none⟩) g.length g.length) g.length (vs ++ List.replicate (g.length - i) (Value.slice none 0 0)) ∧ (∀ j, j < i → Own wr (w.heap.size + 1) (vs.getD j undef) (rowOf g j)) ∧ Below w.heap.size w wr)
    (fun s _ => g.length - (intOf s).toNat)
  case atStart => exact ⟨0, [], Nat.zero_le _, rfl, rfl, hw0, fun j hj => by omega, hb0⟩
  case round =>
    clear hw0 hb0 hsz
    obtain ⟨i, vs, hi', rfl, hvl, hown, hrows, hbl⟩ := hrel
    by_cases hlt : i < g.length
    · have hvr := hv.below hbl
      obtain ⟨b, off, ar, cr, rfl, ci, cc⟩ := hvr.row i hlt
      have hrow : IsInts wr (.slice ar (rowOf g i).length cr) (rowOf g i) := ⟨ar, cr, rfl, cc⟩
      have i1 : (i : Int) < (g.length : Int) := by omega
      have hsi := hs.2 i hlt
      have hdst : wr.cell? ⟨w.heap.size, i, none⟩ = some (.slice none 0 0) := by
        rw [hown.cellAt i (by omega), List.getElem?_append_right (by omega), List.getElem?_replicate, if_pos (by omega)]
      have hfr : wr.frozen? ⟨w.heap.size, i, none⟩ = false := hown.frozenAt i
      have hBr : w.heap.size < wr.heap.size := World.block_lt_of_cell? wr ⟨w.heap.size, i, none⟩ hdst
      clear hvr cc
      go_wp2_with fail
      refine (toIntS_any _ (rowOf g i) _ hrow hsi).mono ?_
      rintro e w1 ⟨v1, rfl, ho1, hb1⟩
      obtain ⟨ax, cx, rfl, _⟩ := id ho1.ints
      have hown1 := World.ownsRow.kept hown (grown_below hb1 none) (.inr (by simp [Value.ownBlock]))
      have hdst1 : w1.cell? ⟨w.heap.size, i, none⟩ = some (.slice none 0 0) := (hb1.cell (p := ⟨w.heap.size, i, none⟩) hBr).trans hdst
      have hfr1 : w1.frozen? ⟨w.heap.size, i, none⟩ = false := hown1.frozenAt i
      have hst := hown1.stored i (.slice ax (rowOf g i).length cx)
      rw [set_vals vs (.slice ax (rowOf g i).length cx) g.length i hvl hlt] at hst
      have hbl1 : Below w.heap.size w w1 := hbl.trans (hb1.mono hbl.size)
      have hb2 : Below w.heap.size w (w1.setCell ⟨w.heap.size, i, none⟩ (.slice ax (rowOf g i).length cx)) := hbl1.setCell (by exact Nat.le_refl _) _
      have hrows2 : ∀ j, j < i + 1 → Own (w1.setCell ⟨w.heap.size, i, none⟩ (.slice ax (rowOf g i).length cx)) (w.heap.size + 1) ((vs ++ [Value.slice ax (rowOf g i).length cx]).getD j undef) (rowOf g j) := by
        intro j hj
        have hne : ∀ (v : Value) (xs : List Int), Own w1 (w.heap.size + 1) v xs → Own (w1.setCell ⟨w.heap.size, i, none⟩ (.slice ax (rowOf g i).length cx)) (w.heap.size + 1) v xs := fun v xs h => h.kept hst.2 (by
          cases hv : v.ownBlock with
          | none => exact .inl rfl
          | some k => exact .inr (by intro e; have := (h.lt k hv).1; simp at e; omega))
        by_cases hji : j = i
        · rw [hji]
          rw [show (vs ++ [Value.slice ax (rowOf g i).length cx]).getD i undef = Value.slice ax (rowOf g i).length cx by simp [List.getD, hvl]]
          exact hne _ _ (ho1.base (by omega))
        · rw [show (vs ++ [Value.slice ax (rowOf g i).length cx]).getD j undef = vs.getD j undef by simp [List.getD, List.getElem?_append_left (show j < vs.length by omega)]]
          exact hne _ _ ((hrows j (by omega)).below hb1)
      have H1 := Lib.hid hst.1
      have H2 := Lib.hid hrows2
      clear hst hrows2 hrows hown hown1 hdst hfr ho1 hrow ci hb1
      go_wp2
      go_roundw
      case rel => exact ⟨i + 1, vs ++ [Value.slice ax (rowOf g i).length cx], by omega, by go_num, by simp [hvl], H1.out, H2.out, hb2⟩
      case measure => simp [intOf]; omega
    · have hie : i = g.length := by omega
      have hG : Hid (IsGrid wr (.slice (some ⟨w.heap.size, 0, none⟩) g.length g.length) g) := by
        refine ⟨_, _, rfl, fun j hj => ⟨w.heap.size, 0, vs.getD j undef, rfl, ?_, (hrows j (by omega)).ints⟩⟩
        rw [Nat.zero_add, hown.cellAt j (by omega), List.getElem?_append_left (by omega)]
        simp [List.getD, show j < vs.length by omega]
      clear hrows hown
      go_wp2
      go_ret
      exact ⟨_, rfl, hG.out, hbl⟩

set_option maxHeartbeats 800000 in
theorem eqIntS_quiet (va vb : Value) (xs ys : List Int) (w : World) (ha : IsInts w va xs) (hb : IsInts w vb ys) (hl : xs.length ≤ 9223372036854775807) :
    Calls Try.prog 43 #[va, vb] w fun e w' => e = .returned (.bool (decide (xs = ys))) ∧ ∃ m, w' = w.drewN m := by
  obtain ⟨a, cap, rfl, hc⟩ := ha
  obtain ⟨a2, cap2, rfl, hc2⟩ := hb
  by_cases hlen : xs.length = ys.length
  · have hne : ((xs.length : Int) != (ys.length : Int)) = false := by simp; omega
    go_enter Try.func43, Try.ntmps43
    go_wp2
    go_loopw [5] (fun i wr => ∃ k : Nat, k ≤ xs.length ∧ i = .int .i64 k ∧ xs.take k = ys.take k ∧ Drawn w wr) (fun i _ => xs.length - (intOf i).toNat)
    case atStart => exact ⟨0, Nat.zero_le _, rfl, rfl, ⟨0, rfl⟩⟩
    case round =>
      obtain ⟨k, hk, rfl, htk, hbel⟩ := hrel
      have HT := Lib.hid htk
      have HL := Lib.hid hlen
      clear htk
      by_cases hlt : k < xs.length
      · have hlt2 : k < ys.length := by omega
        obtain ⟨b, off, rfl, hcell0⟩ := hc k hlt
        obtain ⟨b2, off2, rfl, hcell1⟩ := hc2 k hlt2
        have hcell : wr.cell? ⟨b, off + k, none⟩ = some (.int .i64 xs[k]) := by
          rw [show xs[k] = xs.getD k 0 by simp [List.getD, hlt]]
          exact (hbel.cell _).trans hcell0
        have hcell' : wr.cell? ⟨b2, off2 + k, none⟩ = some (.int .i64 ys[k]) := by
          rw [show ys[k] = ys.getD k 0 by simp [List.getD, hlt2]]
          exact (hbel.cell _).trans hcell1
        have hkl : (k : Int) < (xs.length : Int) := by omega
        have hkl2 : (k : Int) < (ys.length : Int) := by omega
        clear hc hc2 hlen hcell0 hcell1
        by_cases heq : xs[k] = ys[k]
        · have hn : (xs[k] != ys[k]) = false := by simp [heq]
          have HE := Lib.hid heq
          clear heq
          go_wp2
          go_quiet (fail)
          go_wp2
          go_roundw
          case rel => exact ⟨k + 1, by omega, by go_num, take_eq_of xs ys k hlt hlt2 HT.out HE.out, hbel.more _⟩
          case measure => simp [intOf]; omega
        · have hn : (xs[k] != ys[k]) = true := by simp [heq]
          go_wp2
          go_quiet (fail)
          go_wp2
          go_ret
          refine ⟨ret_bool ?_, (hbel.more _).out⟩
          symm
          rw [decide_eq_false_iff_not]
          intro h
          exact heq (by simp only [h])
      · clear hlen
        go_wp2
        go_ret
        refine ⟨ret_bool ?_, hbel.out⟩
        symm
        rw [decide_eq_true_iff]
        have := HT.out
        rwa [List.take_of_length_le (by omega), List.take_of_length_le (by rw [← HL.out]; omega)] at this
  · have hne : ((xs.length : Int) != (ys.length : Int)) = true := by simp; omega
    go_enter Try.func43, Try.ntmps43
    go_wp2
    go_ret
    refine ⟨ret_bool ?_, 0, rfl⟩
    symm
    rw [decide_eq_false_iff_not]
    intro h
    exact hlen (by rw [h])


/-- Equal rows are told equal. -/
theorem eqIntSS_same (v z : Value) (g : List (List Int)) (w : World) (hv : IsGrid w v g) (hz : IsGrid w z g) (hl : g.length ≤ 9223372036854775807) (hr : ∀ i, i < g.length → (rowOf g i).length ≤ 9223372036854775807) :
    Calls Try.prog 48 #[v, z] w fun e w' => e = .returned (.bool true) ∧ Below w.heap.size w w' := by
  obtain ⟨a, cap, rfl, _⟩ := id hv
  obtain ⟨a2, cap2, rfl, _⟩ := id hz
  go_enter Try.func48, Try.ntmps48
  go_wp2
  go_loopw [5] (fun s wr => ∃ i : Nat, i ≤ g.length ∧ s = .int .i64 i ∧ Below w.heap.size w wr) (fun s _ => g.length - (intOf s).toNat)
  case atStart => exact ⟨0, Nat.zero_le _, rfl, Below.refl _ _⟩
  case round =>
    obtain ⟨i, hi, rfl, hbl⟩ := hrel
    by_cases hlt : i < g.length
    · obtain ⟨b, off, ar, cr, rfl, ci, cc⟩ := (hv.below hbl).row i hlt
      obtain ⟨b2, off2, ar2, cr2, rfl, c2, cc2⟩ := (hz.below hbl).row i hlt
      have r1 : IsInts wr (.slice ar (rowOf g i).length cr) (rowOf g i) := ⟨ar, cr, rfl, cc⟩
      have r2 : IsInts wr (.slice ar2 (rowOf g i).length cr2) (rowOf g i) := ⟨ar2, cr2, rfl, cc2⟩
      have i1 : (i : Int) < (g.length : Int) := by omega
      have hri := hr i hlt
      clear cc cc2
      have C1 : Hid (∀ q, Calls Try.prog 43 #[.slice ar (rowOf g i).length cr, .slice ar2 (rowOf g i).length cr2] (wr.drewN q) fun e w' => e = .returned (.bool true) ∧ ∃ m, w' = wr.drewN m) := by
        intro q
        have := eqIntS_quiet _ _ _ _ (wr.drewN q) (r1.below (below_drewN (Below.refl _ _) q)) (r2.below (below_drewN (Below.refl _ _) q)) hri
        rw [decide_eq_true rfl] at this
        exact Calls.quiet_of this
      go_wp2
      go_quiet ((go_at_call 43; with_reducible exact C1.out _))
      go_wp2
      go_roundw
      case rel => exact ⟨i + 1, by omega, by go_num, below_drewN hbl _⟩
      case measure => simp [intOf]; omega
    · go_wp2
      go_ret
      exact ⟨rfl, hbl⟩

end Go.Proofs.Ytlibfmbbchhjeaa
