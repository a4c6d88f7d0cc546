/- Tables of ints in memory, and what the laws do with them: the texts that hold in every chapter. -/
import Derived.Test.YtbedjebnllimpaaOwnI
import Derived.Test.YtbedjebnllimpaaOwnH
import Derived.Test.YtbedjebnllimpaaEqQuiet
import Derived.Test.YtbedjebnllimpaaSpread
namespace Go.Proofs.Ytbedjebnllimpaa
open Go.RowKit

-- Grid
/-- The row with the index i. -/
def rowOf (g : List (List Int)) (i : Nat) : List Int := g.getD i []

/-- The number in row i, column k. -/
def cellOf (g : List (List Int)) (i k : Nat) : Int := (rowOf g i).getD k 0

/-- The value v reads as the rows g. -/
def IsGrid (w : World) (v : Value) (g : List (List Int)) : Prop :=
  ∃ a cap, v = .slice a g.length cap ∧ ∀ i, i < g.length → ∃ b off u, a = some ⟨b, off, none⟩ ∧ w.cell? ⟨b, off + i, none⟩ = some u ∧ IsInts w u (rowOf g i)

theorem IsGrid.below {w w' : World} {v : Value} {g : List (List Int)} (h : IsGrid w v g) (hb : Below w.heap.size w w') : IsGrid w' v g := by
  obtain ⟨a, cap, rfl, hc⟩ := h
  refine ⟨a, cap, rfl, fun i hi => ?_⟩
  obtain ⟨b, off, u, ha, hcell, hu⟩ := hc i hi
  exact ⟨b, off, u, ha, (hb.cell (p := ⟨b, off + i, none⟩) (World.block_lt_of_cell? w _ hcell)).trans hcell, hu.below hb⟩

/-- One row: its value and its cells. -/
theorem IsGrid.row {w : World} {a : Option Addr} {n cap : Nat} {g : List (List Int)} (h : IsGrid w (.slice a n cap) g) (i : Nat) (hi : i < g.length) :
    ∃ b off ar cr, a = some ⟨b, off, none⟩ ∧ w.cell? ⟨b, off + i, none⟩ = some (.slice ar (rowOf g i).length cr) ∧
      ∀ k, k < (rowOf g i).length → ∃ br fr, ar = some ⟨br, fr, none⟩ ∧ w.cell? ⟨br, fr + k, none⟩ = some (.int .i64 (cellOf g i k)) := by
  obtain ⟨a', cap', e, hc⟩ := h
  simp only [Value.slice.injEq] at e
  obtain ⟨rfl, _, _⟩ := e
  obtain ⟨b, off, u, ha, hcell, ar, cr, rfl, hr⟩ := hc i hi
  exact ⟨b, off, ar, cr, ha, hcell, hr⟩

-- TabFit
/-- Every number of every row fits an int. -/
def FitsG (g : List (List Int)) : Prop := ∀ i k, i < g.length → k < (rowOf g i).length → -9223372036854775808 ≤ cellOf g i k ∧ cellOf g i k ≤ 9223372036854775807

-- SS
/-- A measure that was kept. -/
def Sized (g : List (List Int)) : Prop := g.length ≤ 1048576 ∧ ∀ i, i < g.length → (rowOf g i).length ≤ 1048576

-- EIsRounded
theorem sized_rows {g : List (List Int)} (h : Sized g) : g.length ≤ 9223372036854775807 ∧ ∀ i, i < g.length → (rowOf g i).length ≤ 9223372036854775807 :=
  ⟨Nat.le_trans h.1 (by decide), fun i hi => Nat.le_trans (h.2 i hi) (by decide)⟩

-- SC
theorem infoInts : (Try.prog.info? 28).map (fun i => (i.zero, i.size, i.bytes)) = some (some (.slice none 0 0), 1, 24) := by kernel_rfl

theorem set_vals (vs : List Value) (v : Value) (n i : Nat) (hl : vs.length = i) (hi : i < n) : (vs ++ List.replicate (n - i) (Value.slice none 0 0)).set i v = (vs ++ [v]) ++ List.replicate (n - (i + 1)) (Value.slice none 0 0) := by
  have e : n - i = (n - (i + 1)) + 1 := by omega
  rw [e, List.replicate_succ, List.set_append_right _ _ (by omega), hl, Nat.sub_self, List.append_assoc]
  rfl

set_option maxHeartbeats 800000 in
theorem eqIntS_quiet (va vb : Value) (xs ys : List Int) (w : World) (ha : IsInts w va xs) (hb : IsInts w vb ys) (hl : xs.length ≤ 9223372036854775807) :
    Calls Try.prog 53 #[va, vb] w fun e w' => e = .returned (.bool (decide (xs = ys))) ∧ ∃ m, w' = w.drewN m := by
  obtain ⟨a, cap, rfl, hc⟩ := ha
  obtain ⟨a2, cap2, rfl, hc2⟩ := hb
  by_cases hlen : xs.length = ys.length
  · have hne : ((xs.length : Int) != (ys.length : Int)) = false := by simp; omega
    go_enter Try.func53, Try.ntmps53
    go_wp2
    go_loopw [5] (fun i wr => ∃ k : Nat, k ≤ xs.length ∧ i = .int .i64 k ∧ xs.take k = ys.take k ∧ Drawn w wr) (fun i _ => xs.length - (intOf i).toNat)
    case atStart => exact ⟨0, Nat.zero_le _, rfl, rfl, ⟨0, rfl⟩⟩
    case round =>
      obtain ⟨k, hk, rfl, htk, hbel⟩ := hrel
      have HT := Lib.hid htk
      have HL := Lib.hid hlen
      clear htk
      by_cases hlt : k < xs.length
      · have hlt2 : k < ys.length := by omega
        obtain ⟨b, off, rfl, hcell0⟩ := hc k hlt
        obtain ⟨b2, off2, rfl, hcell1⟩ := hc2 k hlt2
        have hcell : wr.cell? ⟨b, off + k, none⟩ = some (.int .i64 xs[k]) := by
          rw [show xs[k] = xs.getD k 0 by simp [List.getD, hlt]]
          exact (hbel.cell _).trans hcell0
        have hcell' : wr.cell? ⟨b2, off2 + k, none⟩ = some (.int .i64 ys[k]) := by
          rw [show ys[k] = ys.getD k 0 by simp [List.getD, hlt2]]
          exact (hbel.cell _).trans hcell1
        have hkl : (k : Int) < (xs.length : Int) := by omega
        have hkl2 : (k : Int) < (ys.length : Int) := by omega
        clear hc hc2 hlen hcell0 hcell1
        by_cases heq : xs[k] = ys[k]
        · have hn : (xs[k] != ys[k]) = false := by simp [heq]
          have HE := Lib.hid heq
          clear heq
          go_wp2
          go_quiet (fail)
          go_wp2
          go_roundw
          case rel => exact ⟨k + 1, by omega, by go_num, take_eq_of xs ys k hlt hlt2 HT.out HE.out, hbel.more _⟩
          case measure => simp [intOf]; omega
        · have hn : (xs[k] != ys[k]) = true := by simp [heq]
          go_wp2
          go_quiet (fail)
          go_wp2
          go_ret
          refine ⟨ret_bool ?_, (hbel.more _).out⟩
          symm
          rw [decide_eq_false_iff_not]
          intro h
          exact heq (by simp only [h])
      · clear hlen
        go_wp2
        go_ret
        refine ⟨ret_bool ?_, hbel.out⟩
        symm
        rw [decide_eq_true_iff]
        have := HT.out
        rwa [List.take_of_length_le (by omega), List.take_of_length_le (by rw [← HL.out]; omega)] at this
  · have hne : ((xs.length : Int) != (ys.length : Int)) = true := by simp; omega
    go_enter Try.func53, Try.ntmps53
    go_wp2
    go_ret
    refine ⟨ret_bool ?_, 0, rfl⟩
    symm
    rw [decide_eq_false_iff_not]
    intro h
    exact hlen (by rw [h])

/-- Equal rows are told equal. -/
theorem eqIntSS_same (v z : Value) (g : List (List Int)) (w : World) (hv : IsGrid w v g) (hz : IsGrid w z g) (hl : g.length ≤ 9223372036854775807) (hr : ∀ i, i < g.length → (rowOf g i).length ≤ 9223372036854775807) :
    Calls Try.prog 52 #[v, z] w fun e w' => e = .returned (.bool true) ∧ Below w.heap.size w w' := by
  obtain ⟨a, cap, rfl, _⟩ := id hv
  obtain ⟨a2, cap2, rfl, _⟩ := id hz
  go_enter Try.func52, Try.ntmps52
  go_wp2
  go_loopw [5] (fun s wr => ∃ i : Nat, i ≤ g.length ∧ s = .int .i64 i ∧ Below w.heap.size w wr) (fun s _ => g.length - (intOf s).toNat)
  case atStart => exact ⟨0, Nat.zero_le _, rfl, Below.refl _ _⟩
  case round =>
    obtain ⟨i, hi, rfl, hbl⟩ := hrel
    by_cases hlt : i < g.length
    · obtain ⟨b, off, ar, cr, rfl, ci, cc⟩ := (hv.below hbl).row i hlt
      obtain ⟨b2, off2, ar2, cr2, rfl, c2, cc2⟩ := (hz.below hbl).row i hlt
      have r1 : IsInts wr (.slice ar (rowOf g i).length cr) (rowOf g i) := ⟨ar, cr, rfl, cc⟩
      have r2 : IsInts wr (.slice ar2 (rowOf g i).length cr2) (rowOf g i) := ⟨ar2, cr2, rfl, cc2⟩
      have i1 : (i : Int) < (g.length : Int) := by omega
      have hri := hr i hlt
      clear cc cc2
      have C1 : Hid (∀ q, Calls Try.prog 53 #[.slice ar (rowOf g i).length cr, .slice ar2 (rowOf g i).length cr2] (wr.drewN q) fun e w' => e = .returned (.bool true) ∧ ∃ m, w' = wr.drewN m) := by
        intro q
        have := eqIntS_quiet _ _ _ _ (wr.drewN q) (r1.below (below_drewN (Below.refl _ _) q)) (r2.below (below_drewN (Below.refl _ _) q)) hri
        rw [decide_eq_true rfl] at this
        exact Calls.quiet_of this
      go_wp2
      go_quiet ((go_at_call 53; with_reducible exact C1.out _))
      go_wp2
      go_roundw
      case rel => exact ⟨i + 1, by omega, by go_num, below_drewN hbl _⟩
      case measure => simp [intOf]; omega
    · go_wp2
      go_ret
      exact ⟨rfl, hbl⟩

-- EqL
set_option maxRecDepth 100000 in
set_option maxHeartbeats 1600000 in
/-- Equal rows are told equal. -/
theorem equalLists_same (v z : Value) (g : List (List Int)) (w : World) (hv : IsGrid w v g) (hz : IsGrid w z g) (hl : g.length ≤ 9223372036854775807) (hr : ∀ i, i < g.length → (rowOf g i).length ≤ 9223372036854775807) :
    Calls Try.prog 30 #[v, z] w fun e w' => e = .returned (.bool true) ∧ Below w.heap.size w w' := by
  obtain ⟨a, cap, rfl, _⟩ := id hv
  obtain ⟨a2, cap2, rfl, _⟩ := id hz
  go_enter Try.func30, Try.ntmps30
  go_wp2
  go_loopw [5] (fun s wr => ∃ i : Nat, i ≤ g.length ∧ s = .int .i64 i ∧ Below w.heap.size w wr) (fun s _ => g.length - (intOf s).toNat)
  case atStart => exact ⟨0, Nat.zero_le _, rfl, Below.refl _ _⟩
  case round =>
    obtain ⟨i, hi, rfl, hbl⟩ := hrel
    by_cases hlt : i < g.length
    · obtain ⟨b, off, ar, cr, rfl, ci, cc⟩ := (hv.below hbl).row i hlt
      obtain ⟨b2, off2, ar2, cr2, rfl, c2, cc2⟩ := (hz.below hbl).row i hlt
      have r1 : IsInts wr (.slice ar (rowOf g i).length cr) (rowOf g i) := ⟨ar, cr, rfl, cc⟩
      have r2 : IsInts wr (.slice ar2 (rowOf g i).length cr2) (rowOf g i) := ⟨ar2, cr2, rfl, cc2⟩
      have i1 : (i : Int) < (g.length : Int) := by omega
      have hri := hr i hlt
      clear cc cc2
      have C1 : Hid (∀ q, Calls Try.prog 25 #[.slice ar (rowOf g i).length cr, .slice ar2 (rowOf g i).length cr2] (wr.drewN q) fun e w' => e = .returned (.bool true) ∧ ∃ m, w' = wr.drewN m) := by
        intro q
        have := equalInts_quiet _ _ _ _ (wr.drewN q) (r1.below (below_drewN (Below.refl _ _) q)) (r2.below (below_drewN (Below.refl _ _) q)) hri
        rw [decide_eq_true rfl] at this
        exact Calls.quiet_of this
      go_wp2
      go_quiet ((go_at_call 25; with_reducible exact C1.out _))
      go_wp2
      go_roundw
      case rel => exact ⟨i + 1, by omega, by go_num, below_drewN hbl _⟩
      case measure => simp [intOf]; omega
    · go_wp2
      go_ret
      exact ⟨rfl, hbl⟩

-- TabP
def apartB (x y : Value) : Prop := x.ownBlock = none ∨ x.ownBlock ≠ y.ownBlock

/-- v is a slice of rows, each in a block of its own (or nil where it is empty), all from block B on. -/
def OwnT (w : World) (B : Nat) (v : Value) (o : List (List Int)) : Prop :=
  ∃ vs : List Value, vs.length = o.length ∧ w.ownsRow B 28 1 v o.length vs ∧
    (∀ i, i < o.length → Own w B (vs.getD i undef) (rowOf o i) ∧ apartB (vs.getD i undef) v) ∧ (∀ i j, i < o.length → j < o.length → i ≠ j → apartB (vs.getD i undef) (vs.getD j undef))

theorem OwnT.below {w w' : World} {B : Nat} {v : Value} {o : List (List Int)} (h : OwnT w B v o) (hb : Below w.heap.size w w') : OwnT w' B v o := by
  obtain ⟨vs, hl, hown, hrows, hd⟩ := h
  exact ⟨vs, hl, World.ownsRow.kept hown (grown_below hb none) (by cases hv : v.ownBlock <;> simp), fun i hi => ⟨(hrows i hi).1.below hb, (hrows i hi).2⟩, hd⟩

theorem OwnT.grid {w : World} {B : Nat} {v : Value} {o : List (List Int)} (h : OwnT w B v o) : IsGrid w v o := by
  obtain ⟨vs, hl, hown, hrows, _⟩ := h
  rcases id hown.2 with ⟨rfl, hn⟩ | ⟨b, cap, cur, rfl, _⟩
  · exact ⟨none, 0, by rw [hn], fun j hj => by omega⟩
  · refine ⟨_, cap, rfl, fun j hj => ⟨b, 0, vs.getD j undef, rfl, ?_, (hrows j hj).1.ints⟩⟩
    have := World.ownsRow.cellAt hown j (by omega)
    rw [Nat.zero_add, this]
    simp [List.getD, show j < vs.length by omega]

/-- A table of the call's own whose rows are the values vs. -/
def OwnTV (w : World) (B : Nat) (v : Value) (vs : List Value) (o : List (List Int)) : Prop :=
  vs.length = o.length ∧ w.ownsRow B 28 1 v o.length vs ∧
    (∀ i, i < o.length → Own w B (vs.getD i undef) (rowOf o i) ∧ apartB (vs.getD i undef) v) ∧ (∀ i j, i < o.length → j < o.length → i ≠ j → apartB (vs.getD i undef) (vs.getD j undef))

theorem OwnT.values {w : World} {B : Nat} {v : Value} {o : List (List Int)} (h : OwnT w B v o) : ∃ vs, OwnTV w B v vs o := h

theorem OwnTV.table {w : World} {B : Nat} {v : Value} {vs : List Value} {o : List (List Int)} (h : OwnTV w B v vs o) : OwnT w B v o := ⟨vs, h⟩

theorem OwnT.base {w : World} {B B' : Nat} {v : Value} {o : List (List Int)} (h : OwnT w B v o) (hb : B' ≤ B) : OwnT w B' v o := by
  obtain ⟨vs, hl, hown, hrows, hd⟩ := h
  refine ⟨vs, hl, ⟨hown.1, ?_⟩, fun i hi => ⟨(hrows i hi).1.base hb, (hrows i hi).2⟩, hd⟩
  rcases hown.2 with hn | ⟨g, cap, cur, hv, hg, rest⟩
  · exact .inl hn
  · exact .inr ⟨g, cap, cur, hv, by omega, rest⟩

theorem apartB.symm {x y : Value} (h : apartB x y) : apartB y x := by
  unfold apartB at *
  cases hy : y.ownBlock with
  | none => exact .inl rfl
  | some k =>
    refine .inr fun e => ?_
    rcases h with h | h
    · rw [h] at e; cases e
    · exact h (e.symm.trans hy.symm)

/-- Apart by blocks: one below a bound, the other from it on. -/
theorem apartB_of {x y : Value} {n : Nat} (hx : ∀ k, x.ownBlock = some k → k < n) (hy : ∀ k, y.ownBlock = some k → n ≤ k) : apartB x y := by
  unfold apartB
  cases h : x.ownBlock with
  | none => exact .inl rfl
  | some k =>
    refine .inr fun e => ?_
    have h1 := hx k h
    have h2 := hy k e.symm
    omega

theorem OwnTV.below {w w' : World} {B : Nat} {v : Value} {vs : List Value} {o : List (List Int)} (h : OwnTV w B v vs o) (hb : Below w.heap.size w w') : OwnTV w' B v vs o := by
  obtain ⟨hl, hown, hrows, hd⟩ := h
  exact ⟨hl, World.ownsRow.kept hown (grown_below hb none) (by cases hv : v.ownBlock <;> simp), fun i hi => ⟨(hrows i hi).1.below hb, (hrows i hi).2⟩, hd⟩

theorem OwnTV.kept {w w' : World} {B : Nat} {v : Value} {vs : List Value} {o : List (List Int)} {row : Option Nat} (h : OwnTV w B v vs o) (hg : w.grownBy w' row) (hv : v.ownBlock = none ∨ v.ownBlock ≠ row) (hr : ∀ i, i < o.length → (vs.getD i undef).ownBlock = none ∨ (vs.getD i undef).ownBlock ≠ row) : OwnTV w' B v vs o := by
  obtain ⟨hl, hown, hrows, hd⟩ := h
  exact ⟨hl, World.ownsRow.kept hown hg hv, fun i hi => ⟨(hrows i hi).1.kept hg (hr i hi), (hrows i hi).2⟩, hd⟩

theorem OwnTV.lt {w : World} {B : Nat} {v : Value} {vs : List Value} {o : List (List Int)} (h : OwnTV w B v vs o) : (∀ k, v.ownBlock = some k → B ≤ k ∧ k < w.heap.size) ∧ ∀ i, i < o.length → ∀ k, (vs.getD i undef).ownBlock = some k → B ≤ k ∧ k < w.heap.size :=
  ⟨World.ownsRow.lt h.2.1, fun i hi => ((h.2.2.1 i hi).1).lt⟩

theorem getD_snoc_lt {α : Type} {l : List α} {x d : α} {i : Nat} (h : i < l.length) : (l ++ [x]).getD i d = l.getD i d := by simp [List.getD, List.getElem?_append_left h]

theorem getD_snoc_eq {α : Type} {l : List α} {x d : α} : (l ++ [x]).getD l.length d = x := by simp [List.getD]

theorem rowOf_snoc_lt {o : List (List Int)} {r : List Int} {i : Nat} (h : i < o.length) : rowOf (o ++ [r]) i = rowOf o i := getD_snoc_lt h

theorem rowOf_snoc_eq {o : List (List Int)} {r : List Int} : rowOf (o ++ [r]) o.length = r := getD_snoc_eq

/-- append(table, row). -/
theorem wpList_pushT {ops : Array Oper} {rest : List Oper} {o : Oper} {a : Act} {Q : Exit → Act → World → Prop} {wr : World} {s x : Operand} {B : Nat} {v rv : Value} {vs : List Value} {t : List (List Int)} {r : List Int}
    (hown : OwnTV wr B v vs t) (hrow : Own wr B rv r) (hrv : apartB rv v) (hrs : ∀ i, i < t.length → apartB (vs.getD i undef) rv) (hone : rv.oneCell' = true) (hlen : t.length ≤ 1048576) (hB : B ≤ wr.heap.size) (hgd : o.guard = none := by rfl)
    (ho : o.op = .call { callee := .builtin .append, args := #[s, x], argTypes := #[23, 23] } := by rfl)
    (hs : a.eval s = v := by rfl) (hx : a.eval x = .slice (some ⟨wr.heap.size, 0, none⟩) 1 1 := by rfl)
    (h : ∀ v' w', OwnTV w' B v' (vs ++ [rv]) (t ++ [r]) → wr.grownBy w' v.ownBlock → Moved wr v v' → wpList Try.prog ops Q rest (a.put o.dst v') w') :
    wpList Try.prog ops Q (o :: rest) a (wr.alloc (.cells #[rv] 28)) := by
  obtain ⟨i0, hi, hz0, hz1, hz2⟩ := info_parts infoInts
  have hlt := hown.lt
  obtain ⟨hl, hrow0, hrows, hd⟩ := hown
  refine wpList_append_own_at _ hgd s x 23 ho B 28 i0 (.slice none 0 0) 1 24 Try.underlying23 hi hz0 hz1 hz2 rfl (by decide) v t.length vs hs (World.ownsRow.alloc hrow0 _) ⟨wr.heap.size, 0, none⟩ 1 1 [rv] hx rfl (cell_one_new _ _ _) (by intro u hu; simp at hu; subst hu; exact hone) (by unfold maxLen; omega) (by omega) (by simp; omega) ?_
  intro v' w' h1 h2 _ h4
  have hg : wr.grownBy w' v.ownBlock := (World.grownBy_alloc wr _ _).trans h2
  have hm : Moved wr v v' := by
    rcases h4 with h4 | h4
    · exact .inl h4
    · exact .inr ⟨_, h4, by simp⟩
  -- the new table's block is the old one's, or a new one
  have hap : ∀ y : Value, (∀ k, y.ownBlock = some k → k < wr.heap.size) → apartB y v → apartB y v' := by
    intro y hy hyv
    rcases hm with e | ⟨k, e, hk⟩
    · unfold apartB at *; rw [e]; exact hyv
    · exact apartB_of hy (fun j hj => by rw [e] at hj; cases hj; exact hk)
  have hll : (t ++ [r]).length = t.length + 1 := by simp
  refine h v' w' ⟨by simp [hl], ?_, fun i hi => ?_, fun i j hi hj hij => ?_⟩ hg hm
  · rw [hll]; exact h1
  · rw [hll] at hi
    by_cases e : i < t.length
    · rw [getD_snoc_lt (by omega), rowOf_snoc_lt e]
      exact ⟨(hrows i e).1.kept hg (hrows i e).2, hap _ (fun k hk => (hlt.2 i e k hk).2) (hrows i e).2⟩
    · have e2 : i = t.length := by omega
      subst e2
      rw [show (vs ++ [rv]).getD t.length undef = rv by rw [← hl]; exact getD_snoc_eq, rowOf_snoc_eq]
      exact ⟨hrow.kept hg hrv, hap _ (fun k hk => (hrow.lt k hk).2) hrv⟩
  · rw [hll] at hi hj
    by_cases ei : i < t.length
    · rw [getD_snoc_lt (show i < vs.length by omega)]
      by_cases ej : j < t.length
      · rw [getD_snoc_lt (show j < vs.length by omega)]; exact hd i j ei ej hij
      · have e2 : j = t.length := by omega
        subst e2
        rw [show (vs ++ [rv]).getD t.length undef = rv by rw [← hl]; exact getD_snoc_eq]
        exact hrs i ei
    · have e1 : i = t.length := by omega
      subst e1
      rw [show (vs ++ [rv]).getD t.length undef = rv by rw [← hl]; exact getD_snoc_eq, getD_snoc_lt (show j < vs.length by omega)]
      exact (hrs j (by omega)).symm

/-- table[i] = row. -/
theorem OwnTV.setRow {w : World} {B g n cap : Nat} {vs : List Value} {o : List (List Int)} (h : OwnTV w B (.slice (some ⟨g, 0, none⟩) n cap) vs o) (hn : o.length = n) (i : Nat) (hi : i < n) (rv : Value) (r : List Int) (hrow : Own w B rv r) (hap : apartB rv (.slice (some ⟨g, 0, none⟩) n cap)) (hrs : ∀ j, j < n → j ≠ i → apartB (vs.getD j undef) rv) :
    OwnTV (w.setCell ⟨g, i, none⟩ rv) B (.slice (some ⟨g, 0, none⟩) n cap) (vs.set i rv) (o.set i r) ∧ w.grownBy (w.setCell ⟨g, i, none⟩ rv) (some g) := by
  subst hn
  obtain ⟨hl, hown, hrows, hd⟩ := h
  have hst := World.ownsRow.stored hown i rv
  have hne : ∀ j, j < o.length → (vs.getD j undef).ownBlock = none ∨ (vs.getD j undef).ownBlock ≠ some g := fun j hj => by
    rcases (hrows j hj).2 with h | h
    · exact .inl h
    · exact .inr h
  have hv : ∀ j, j < o.length → (vs.set i rv).getD j undef = if j = i then rv else vs.getD j undef := by
    intro j hj
    by_cases e : j = i
    · subst e; simp [List.getD, show j < vs.length by omega]
    · have e' : ¬ i = j := fun x => e x.symm
      simp [List.getD, e, e']
  have hr : ∀ j, j < o.length → rowOf (o.set i r) j = if j = i then r else rowOf o j := by
    intro j hj
    by_cases e : j = i
    · subst e; simp [rowOf, List.getD, hj]
    · have e' : ¬ i = j := fun x => e x.symm
      simp [rowOf, List.getD, e, e']
  refine ⟨⟨by simp [hl], by rw [List.length_set]; exact hst.1, fun j hj => ?_, fun j k hj hk hjk => ?_⟩, hst.2⟩
  · rw [List.length_set] at hj
    rw [hv j hj, hr j hj]
    by_cases e : j = i
    · rw [if_pos e, if_pos e]
      exact ⟨hrow.kept hst.2 (by rcases hap with h | h; exact .inl h; exact .inr h), hap⟩
    · rw [if_neg e, if_neg e]
      exact ⟨(hrows j hj).1.kept hst.2 (hne j hj), (hrows j hj).2⟩
  · rw [List.length_set] at hj hk
    rw [hv j hj, hv k hk]
    by_cases e : j = i
    · rw [if_pos e, if_neg (by omega)]; exact (hrs k hk (by omega)).symm
    · rw [if_neg e]
      by_cases e2 : k = i
      · rw [if_pos e2]; exact hrs j hj e
      · rw [if_neg e2]; exact hd j k hj hk hjk

theorem ownTV_empty (w : World) (B : Nat) (hB : B ≤ w.heap.size) : OwnTV (w.alloc (.cells #[] 28)) B (.slice (some ⟨w.heap.size, 0, none⟩) 0 0) [] [] :=
  ⟨rfl, World.ownsRow_lit w #[] 0 hB (by unfold maxLen; omega) rfl, fun i hi => by simp at hi, fun i j hi => by simp at hi⟩

-- RoundG
/-- table[i] = append(table[i], ..): the row grows, where it lies or in a new block. -/
theorem OwnTV.pushRow {w w' : World} {B b n cap : Nat} {vs : List Value} {o : List (List Int)} (h : OwnTV w B (.slice (some ⟨b, 0, none⟩) n cap) vs o) (hn : o.length = n) (i : Nat) (hi : i < n) (rv : Value) (r : List Int) (hg : w.grownBy w' (vs.getD i undef).ownBlock) (hrow : Own w' B rv r) (hm : Moved w (vs.getD i undef) rv) :
    OwnTV (w'.setCell ⟨b, i, none⟩ rv) B (.slice (some ⟨b, 0, none⟩) n cap) (vs.set i rv) (o.set i r) ∧ w'.grownBy (w'.setCell ⟨b, i, none⟩ rv) (some b) := by
  subst hn
  have hlt := h.lt
  obtain ⟨hl, hown, hrows, hd⟩ := h
  have hap : ∀ y : Value, (∀ k, y.ownBlock = some k → k < w.heap.size) → apartB y (vs.getD i undef) → apartB y rv := by
    intro y hy hyv
    rcases hm with e | ⟨k, e, hk⟩
    · unfold apartB at *; rw [e]; exact hyv
    · exact apartB_of hy (fun j hj => by rw [e] at hj; cases hj; exact hk)
  have hown' := World.ownsRow.kept hown hg (hrows i hi).2.symm
  have hst := World.ownsRow.stored hown' i rv
  have hne : ∀ x : Value, apartB x (.slice (some ⟨b, 0, none⟩) o.length cap) → x.ownBlock = none ∨ x.ownBlock ≠ some b := fun x hx => by
    rcases hx with h | h
    · exact .inl h
    · exact .inr h
  have hrv : apartB rv (.slice (some ⟨b, 0, none⟩) o.length cap) := (hap _ (fun k hk => (hlt.1 k hk).2) (hrows i hi).2.symm).symm
  have hv : ∀ j, j < o.length → (vs.set i rv).getD j undef = if j = i then rv else vs.getD j undef := by
    intro j hj
    by_cases e : j = i
    · subst e; simp [List.getD, show j < vs.length by omega]
    · have e' : ¬ i = j := fun x => e x.symm
      simp [List.getD, e, e']
  have hr : ∀ j, j < o.length → rowOf (o.set i r) j = if j = i then r else rowOf o j := by
    intro j hj
    by_cases e : j = i
    · subst e; simp [rowOf, List.getD, hj]
    · have e' : ¬ i = j := fun x => e x.symm
      simp [rowOf, List.getD, e, e']
  refine ⟨⟨by simp [hl], by rw [List.length_set]; exact hst.1, fun j hj => ?_, fun j k hj hk hjk => ?_⟩, hst.2⟩
  · rw [List.length_set] at hj
    rw [hv j hj, hr j hj]
    by_cases e : j = i
    · rw [if_pos e, if_pos e]
      exact ⟨hrow.kept hst.2 (hne _ hrv), hrv⟩
    · rw [if_neg e, if_neg e]
      exact ⟨((hrows j hj).1.kept hg (hd j i hj hi e)).kept hst.2 (hne _ (hrows j hj).2), (hrows j hj).2⟩
  · rw [List.length_set] at hj hk
    have hx : ∀ j, j < o.length → j ≠ i → apartB (vs.getD j undef) rv := fun j hj e => hap _ (fun k hk => (hlt.2 j hj k hk).2) (hd j i hj hi e)
    rw [hv j hj, hv k hk]
    by_cases e : j = i
    · rw [if_pos e, if_neg (by omega)]; exact (hx k hk (by omega)).symm
    · rw [if_neg e]
      by_cases e2 : k = i
      · rw [if_pos e2]; exact hx j hj e
      · rw [if_neg e2]; exact hd j k hj hk hjk

theorem take_row {o : List (List Int)} {q : Nat} (h : q < o.length) : o.take (q + 1) = o.take q ++ [rowOf o q] := by
  rw [List.take_add_one, List.getElem?_eq_getElem h]
  simp [rowOf, List.getD, h]

-- SO
/-- How many numbers lie in the first rows. -/
def pre (o : List (List Int)) : Nat → Nat
  | 0 => 0
  | i + 1 => pre o i + (rowOf o i).length

theorem pre_mono (o : List (List Int)) {i n : Nat} (h : i ≤ n) : pre o i ≤ pre o n := by
  induction h with
  | refl => exact Nat.le_refl _
  | step _ ih => exact Nat.le_trans ih (Nat.le_add_right _ _)

set_option maxRecDepth 100000 in
set_option maxHeartbeats 1600000 in
theorem szIntSS_sum (v : Value) (g : List (List Int)) (l : Int) (w : World) (hv : IsGrid w v g) (hl : g.length ≤ 9223372036854775807) (hr : ∀ i, i < g.length → (rowOf g i).length ≤ 9223372036854775807) (h0 : 0 ≤ l ∧ l ≤ 1048576) :
    Calls Try.prog 50 #[v, .int .i64 l] w fun e w' => ∃ r : Int, e = .returned (.int .i64 r) ∧ (r = -1 ∨ (0 ≤ r ∧ r ≤ l ∧ Sized g ∧ pre g g.length ≤ 1048576)) ∧ w = w' := by
  obtain ⟨a, cap, rfl, _⟩ := id hv
  by_cases hb : (l : Int) < (g.length : Int)
  · go_enter Try.func50, Try.ntmps50
    go_wp2
    go_ret
    exact ⟨_, rfl, .inl rfl, rfl⟩
  · have hb2 : ¬ (l - (g.length : Int) < 0) := by omega
    go_enter Try.func50, Try.ntmps50
    go_wp2
    go_loop [1, 5] (fun c s => ∃ (i : Nat) (r : Int), i ≤ g.length ∧ s = .int .i64 i ∧ c = .int .i64 r ∧ 0 ≤ r ∧ r ≤ l ∧ r + (pre g i : Int) ≤ l ∧ ∀ j, j < i → (rowOf g j).length ≤ 1048576) (fun _ s => g.length - (intOf s).toNat)
    case atStart => exact ⟨0, l - g.length, Nat.zero_le _, rfl, by go_num, by omega, by omega, by simp [pre]; omega, fun j hj => by omega⟩
    case round =>
      obtain ⟨i, r, hi, rfl, rfl, hr0, hr1, hpr, hok⟩ := hrel
      have HP := Lib.hid hpr
      clear hpr
      have HOK := Lib.hid hok
      clear hok
      by_cases hlt : i < g.length
      · obtain ⟨b, off, ar, cr, rfl, ci, _⟩ := hv.row i hlt
        have i1 : (i : Int) < (g.length : Int) := by omega
        have hri := hr i hlt
        by_cases hc : r < ((rowOf g i).length : Int)
        · have hd : r - ((rowOf g i).length : Int) < 0 := by omega
          go_wp2
          go_ret
          exact ⟨_, rfl, .inl rfl, rfl⟩
        · have hd : ¬ (r - ((rowOf g i).length : Int) < 0) := by omega
          go_wp2
          go_round
          case rel =>
            refine ⟨i + 1, r - (rowOf g i).length, by omega, by go_num, by go_num, by omega, by omega, by have := HP.out; simp only [pre, Int.natCast_add]; omega, fun j hj => ?_⟩
            by_cases hji : j = i
            · subst hji; omega
            · exact HOK.out j (by omega)
          case measure => simp [intOf]; omega
      · have hie : i = g.length := by omega
        have H : Hid (Sized g ∧ pre g g.length ≤ 1048576) := ⟨⟨by omega, fun j hj => HOK.out j (by omega)⟩, by have := HP.out; rw [hie] at this; omega⟩
        go_wp2
        go_ret
        exact ⟨_, rfl, .inr ⟨hr0, hr1, H.out⟩, rfl⟩

set_option maxRecDepth 100000 in
set_option maxHeartbeats 1600000 in
theorem toIntSS_own (v : Value) (g : List (List Int)) (w : World) (hv : IsGrid w v g) (hs : Sized g) :
    Calls Try.prog 51 #[v] w fun e w' => ∃ v', e = .returned v' ∧ OwnT w' w.heap.size v' g ∧ Below w.heap.size w w' := by
  obtain ⟨a, cap, rfl, _⟩ := id hv
  have hl := hs.1
  obtain ⟨i0, hi, hz0, hz1, hz2⟩ := info_parts infoInts
  go_enter Try.func51, Try.ntmps51
  go_wp2_with (at_make; refine wpList_make_full _ rfl _ _ 23 rfl w.heap.size 28 i0 (.slice none 0 0) 1 Try.underlying23 hi hz0 hz1 _ _ _ _ g.length rfl rfl rfl rfl ?b2 ?b3 (Nat.le_refl _) ?_)
  case b2 => rw [hz2]; omega
  case b3 => unfold maxLen; omega
  intro w0 hown0 hgrow0
  have hb0 : Below w.heap.size w w0 := below_grown hgrow0 (Nat.le_refl _) (fun k h => by cases h)
  have hsz : w.heap.size ≤ w0.heap.size := hb0.size
  have hw0 : w0.ownsRow w.heap.size 28 1 (.slice (some ⟨w.heap.size, 0, none⟩) g.length g.length) g.length (([] : List Value) ++ List.replicate (g.length - 0) (Value.slice none 0 0)) := by
    rw [toList_madeCells_one] at hown0
    simpa using hown0
  clear hown0 hgrow0
  go_wp2
  go_loopw [4] (fun s wr => ∃ (i : Nat) (vs : List Value), i ≤ g.length ∧ s = .int .i64 i ∧ vs.length = i ∧ wr.ownsRow w.heap.size 28 1 (.slice (some ⟨w.heap.size, 0, none⟩) g.length g.length) g.length (vs ++ List.replicate (g.length - i) (Value.slice none 0 0)) ∧ (∀ j, j < i → Own wr (w.heap.size + 1) (vs.getD j undef) (rowOf g j)) ∧ (∀ j k, j < i → k < i → j ≠ k → apartB (vs.getD j undef) (vs.getD k undef)) ∧ Below w.heap.size w wr)
    (fun s _ => g.length - (intOf s).toNat)
  case atStart => exact ⟨0, [], Nat.zero_le _, rfl, rfl, hw0, fun j hj => by omega, fun j k hj => by omega, hb0⟩
  case round =>
    clear hw0 hb0 hsz
    obtain ⟨i, vs, hi', rfl, hvl, hown, hrows, hap, hbl⟩ := hrel
    by_cases hlt : i < g.length
    · have hvr := hv.below hbl
      obtain ⟨b, off, ar, cr, rfl, ci, cc⟩ := hvr.row i hlt
      have hrow : IsInts wr (.slice ar (rowOf g i).length cr) (rowOf g i) := ⟨ar, cr, rfl, cc⟩
      have i1 : (i : Int) < (g.length : Int) := by omega
      have hsi := hs.2 i hlt
      have hdst : wr.cell? ⟨w.heap.size, i, none⟩ = some (.slice none 0 0) := by
        rw [hown.cellAt i (by omega), List.getElem?_append_right (by omega), List.getElem?_replicate, if_pos (by omega)]
      have hfr : wr.frozen? ⟨w.heap.size, i, none⟩ = false := hown.frozenAt i
      have hBr : w.heap.size < wr.heap.size := World.block_lt_of_cell? wr ⟨w.heap.size, i, none⟩ hdst
      clear hvr cc
      go_wp2_with fail
      refine (toIntS_any _ (rowOf g i) _ hrow hsi).mono ?_
      rintro e w1 ⟨v1, rfl, ho1, hb1⟩
      obtain ⟨ax, cx, rfl, _⟩ := id ho1.ints
      have hown1 := World.ownsRow.kept hown (grown_below hb1 none) (.inr (by simp [Value.ownBlock]))
      have hdst1 : w1.cell? ⟨w.heap.size, i, none⟩ = some (.slice none 0 0) := (hb1.cell (p := ⟨w.heap.size, i, none⟩) hBr).trans hdst
      have hfr1 : w1.frozen? ⟨w.heap.size, i, none⟩ = false := hown1.frozenAt i
      have hst := hown1.stored i (.slice ax (rowOf g i).length cx)
      rw [set_vals vs (.slice ax (rowOf g i).length cx) g.length i hvl hlt] at hst
      have hbl1 : Below w.heap.size w w1 := hbl.trans (hb1.mono hbl.size)
      have hb2 : Below w.heap.size w (w1.setCell ⟨w.heap.size, i, none⟩ (.slice ax (rowOf g i).length cx)) := hbl1.setCell (by exact Nat.le_refl _) _
      have hrows2 : ∀ j, j < i + 1 → Own (w1.setCell ⟨w.heap.size, i, none⟩ (.slice ax (rowOf g i).length cx)) (w.heap.size + 1) ((vs ++ [Value.slice ax (rowOf g i).length cx]).getD j undef) (rowOf g j) := by
        intro j hj
        have hne : ∀ (v : Value) (xs : List Int), Own w1 (w.heap.size + 1) v xs → Own (w1.setCell ⟨w.heap.size, i, none⟩ (.slice ax (rowOf g i).length cx)) (w.heap.size + 1) v xs := fun v xs h => h.kept hst.2 (by
          cases hv : v.ownBlock with
          | none => exact .inl rfl
          | some k => exact .inr (by intro e; have := (h.lt k hv).1; simp at e; omega))
        by_cases hji : j = i
        · rw [hji]
          rw [show (vs ++ [Value.slice ax (rowOf g i).length cx]).getD i undef = Value.slice ax (rowOf g i).length cx by simp [List.getD, hvl]]
          exact hne _ _ (ho1.base (by omega))
        · rw [show (vs ++ [Value.slice ax (rowOf g i).length cx]).getD j undef = vs.getD j undef by simp [List.getD, List.getElem?_append_left (show j < vs.length by omega)]]
          exact hne _ _ ((hrows j (by omega)).below hb1)
      have hap2 : ∀ j k, j < i + 1 → k < i + 1 → j ≠ k → apartB ((vs ++ [Value.slice ax (rowOf g i).length cx]).getD j undef) ((vs ++ [Value.slice ax (rowOf g i).length cx]).getD k undef) := by
        have hn : ∀ j, j < i → apartB (vs.getD j undef) (Value.slice ax (rowOf g i).length cx) := fun j hj => apartB_of (fun k hk => ((hrows j hj).lt k hk).2) (fun k hk => (ho1.lt k hk).1)
        have e1 : (vs ++ [Value.slice ax (rowOf g i).length cx]).getD i undef = Value.slice ax (rowOf g i).length cx := by simp [List.getD, hvl]
        have e2 : ∀ j, j < i → (vs ++ [Value.slice ax (rowOf g i).length cx]).getD j undef = vs.getD j undef := fun j hj => by simp [List.getD, List.getElem?_append_left (show j < vs.length by omega)]
        intro j k hj hk hjk
        by_cases hji : j = i
        · rw [hji, e1, e2 k (by omega)]; exact (hn k (by omega)).symm
        · rw [e2 j (by omega)]
          by_cases hki : k = i
          · rw [hki, e1]; exact hn j (by omega)
          · rw [e2 k (by omega)]; exact hap j k (by omega) (by omega) hjk
      have H3 := Lib.hid hap2
      have H1 := Lib.hid hst.1
      have H2 := Lib.hid hrows2
      clear hst hrows2 hrows hap hap2 hown hown1 hdst hfr ho1 hrow ci hb1
      go_wp2
      go_roundw
      case rel => exact ⟨i + 1, vs ++ [Value.slice ax (rowOf g i).length cx], by omega, by go_num, by simp [hvl], H1.out, H2.out, H3.out, hb2⟩
      case measure => simp [intOf]; omega
    · have hie : i = g.length := by omega
      subst hie
      rw [Nat.sub_self, List.replicate_zero, List.append_nil] at hown
      have hG : Hid (OwnT wr w.heap.size (.slice (some ⟨w.heap.size, 0, none⟩) g.length g.length) g) :=
        ⟨vs, hvl, hown, fun j hj => ⟨(hrows j hj).base (by omega), .inr (by
          intro e
          have := ((hrows j hj).lt w.heap.size (by rw [e]; rfl)).1
          omega)⟩, fun j k hj hk hjk => hap j k hj hk hjk⟩
      clear hrows hown hap
      go_wp2
      go_ret
      exact ⟨_, rfl, hG.out, hbl⟩

/-- What other tables keep when rows in the blocks from B up to H are written. -/
def Spares (B H : Nat) (w w' : World) : Prop := Below B w w' ∧ (∀ B' v' vs' o', OwnTV w B' v' vs' o' → H ≤ B' → OwnTV w' B' v' vs' o') ∧ ∀ B' v' xs', Own w B' v' xs' → H ≤ B' → Own w' B' v' xs'

theorem Spares.refl (B H : Nat) (w : World) : Spares B H w w := ⟨Below.refl _ _, fun _ _ _ _ h _ => h, fun _ _ _ h _ => h⟩

theorem Spares.grown {B H : Nat} {w w1 w2 : World} {row : Option Nat} (h : Spares B H w w1) (hg : w1.grownBy w2 row) (hB : B ≤ w1.heap.size) (hr : ∀ k, row = some k → B ≤ k ∧ k < H) : Spares B H w w2 := by
  have hne : ∀ (B' : Nat) (x : Value), H ≤ B' → (∀ k, x.ownBlock = some k → B' ≤ k) → x.ownBlock = none ∨ x.ownBlock ≠ row := fun B' x hH hx => by
    cases hb : x.ownBlock with
    | none => exact .inl rfl
    | some k =>
      refine .inr fun e => ?_
      have := (hr k e.symm).2
      have := hx k hb
      omega
  refine ⟨h.1.trans (below_grown hg hB (fun k hk => (hr k hk).1)), fun B' v' vs' o' ho hH => ?_, fun B' v' xs' ho hH => ?_⟩
  · have h1 := h.2.1 B' v' vs' o' ho hH
    exact h1.kept hg (hne B' _ hH (fun k hk => (h1.lt.1 k hk).1)) (fun i hi => hne B' _ hH (fun k hk => (h1.lt.2 i hi k hk).1))
  · have h1 := h.2.2 B' v' xs' ho hH
    exact h1.kept hg (hne B' _ hH (fun k hk => (h1.lt k hk).1))

/-- The first rows are marked. -/
def MarkedT (q : Int) (o : List (List Int)) (i : Nat) (o' : List (List Int)) : Prop :=
  o'.length = o.length ∧ (∀ j, j < i → rowOf o' j = marks (q + pre o j) (rowOf o j).length) ∧ ∀ j, i ≤ j → j < o.length → rowOf o' j = rowOf o j

theorem MarkedT.next {q : Int} {o o' : List (List Int)} {i : Nat} (h : MarkedT q o i o') (hi : i < o.length) : MarkedT q o (i + 1) (o'.set i (marks (q + pre o i) (rowOf o i).length)) := by
  obtain ⟨hl, h1, h2⟩ := h
  have hr : ∀ j, j < o'.length → rowOf (o'.set i (marks (q + pre o i) (rowOf o i).length)) j = if j = i then marks (q + pre o i) (rowOf o i).length else rowOf o' j := by
    intro j hj
    by_cases e : j = i
    · subst e; simp [rowOf, List.getD, hj]
    · have e' : ¬ i = j := fun x => e x.symm
      simp [rowOf, List.getD, e, e']
  refine ⟨by simp [hl], fun j hj => ?_, fun j hj hjl => ?_⟩
  · rw [hr j (by omega)]
    by_cases e : j = i
    · subst e; rw [if_pos rfl]
    · rw [if_neg e]; exact h1 j (by omega)
  · rw [hr j (by omega), if_neg (by omega)]; exact h2 j (by omega) hjl

/-- A row is written where it lies. -/
theorem OwnTV.mark {w w' : World} {B : Nat} {v : Value} {vs : List Value} {o : List (List Int)} (h : OwnTV w B v vs o) {i : Nat} (hi : i < o.length) {r : List Int} (hg : w.grownBy w' (vs.getD i undef).ownBlock) (hrow : Own w' B (vs.getD i undef) r) : OwnTV w' B v vs (o.set i r) := by
  obtain ⟨hl, hown, hrows, hd⟩ := h
  have hr : ∀ j, j < o.length → rowOf (o.set i r) j = if j = i then r else rowOf o j := by
    intro j hj
    by_cases e : j = i
    · subst e; simp [rowOf, List.getD, hj]
    · have e' : ¬ i = j := fun x => e x.symm
      simp [rowOf, List.getD, e, e']
  refine ⟨by simp [hl], by rw [List.length_set]; exact World.ownsRow.kept hown hg (hrows i hi).2.symm, fun j hj => ?_, fun j k hj hk hjk => hd j k (by simpa using hj) (by simpa using hk) hjk⟩
  rw [List.length_set] at hj
  rw [hr j hj]
  by_cases e : j = i
  · subst e; rw [if_pos rfl]; exact ⟨hrow, (hrows j hj).2⟩
  · rw [if_neg e]; exact ⟨(hrows j hj).1.kept hg (hd j i hj hi e), (hrows j hj).2⟩

set_option maxRecDepth 100000 in
set_option maxHeartbeats 1600000 in
/-- Marks are written into all rows of a table of the call's own. -/
theorem markIntSS_any (v : Value) (vs : List Value) (o : List (List Int)) (q : Int) (B H : Nat) (w : World) (hv : OwnTV w B v vs o) (hB : B ≤ w.heap.size) (hH : ∀ i, i < o.length → ∀ k, (vs.getD i undef).ownBlock = some k → k < H) (hs : Sized o) (hq0 : 0 ≤ q) (hq : q + (pre o o.length : Int) ≤ 4294967296) :
    Calls Try.prog 54 #[v, .int .i64 q] w fun e w' => e = .returned (.int .i64 (q + (pre o o.length : Int))) ∧ (∃ o', OwnTV w' B v vs o' ∧ MarkedT q o o.length o') ∧ Spares B H w w' := by
  have hs1 := hs.1
  rcases id hv.2.1.2 with ⟨rfl, hn⟩ | ⟨b, cap, cur, rfl, _⟩
  · have hx : o = [] := List.length_eq_zero_iff.1 hn
    subst hx
    go_enter Try.func54, Try.ntmps54
    go_wp2
    refine wp_loop_rounds 1 ?_
    rw [rounds_succ]
    go_wp2
    go_ret
    exact ⟨ret_int (by simp [pre]), ⟨[], hv, rfl, fun j hj => absurd hj (Nat.not_lt_zero _), fun j _ hj => absurd hj (Nat.not_lt_zero _)⟩, Spares.refl _ _ _⟩
  · have HV := Lib.hid hv
    have HS := Lib.hid hs
    clear hv hs
    go_enter Try.func54, Try.ntmps54
    go_wp2
    go_loopw [1, 5] (fun q' s wr => ∃ i : Nat, i ≤ o.length ∧ s = .int .i64 i ∧ q' = .int .i64 (q + (pre o i : Int)) ∧ (∃ o', OwnTV wr B (.slice (some ⟨b, 0, none⟩) o.length cap) vs o' ∧ MarkedT q o i o') ∧ Spares B H w wr) (fun _ s _ => o.length - (intOf s).toNat)
    case atStart => exact ⟨0, Nat.zero_le _, rfl, by simp [pre], ⟨o, HV.out, rfl, fun j hj => absurd hj (Nat.not_lt_zero _), fun j _ _ => rfl⟩, Spares.refl _ _ _⟩
    case round =>
      obtain ⟨i, hi, rfl, rfl, ⟨o', hvo, hm⟩, hsp⟩ := hrel
      by_cases hlt : i < o.length
      · have i1 : (i : Int) < (o.length : Int) := by omega
        have hml := hm.1
        have hown0 : wr.ownsRow B 28 1 (.slice (some ⟨b, 0, none⟩) o.length cap) o.length vs := by have := hvo.2.1; rwa [hml] at this
        have cn := World.ownsRow.cellAt hown0 i (by omega)
        clear hown0
        rw [show vs[i]? = some (vs.getD i undef) by rw [List.getD_eq_getElem?_getD, List.getElem?_eq_getElem (by rw [hvo.1]; omega)]; rfl] at cn
        have hrow := (hvo.2.2.1 i (by omega)).1
        rw [hm.2.2 i (Nat.le_refl _) hlt] at hrow
        have hlen := HS.out.2 i hlt
        have hp1 : q + (pre o i : Int) ≤ 4294967296 := by have := pre_mono o hi; omega
        have C := markIntS_any _ _ (q + (pre o i : Int)) B _ hrow hlen (by omega) hp1
        have HC := Lib.hid C
        have HO := Lib.hid hvo
        have HM := Lib.hid hm
        generalize hrvv : vs.getD i undef = rv at *
        clear C hvo hm hrow hml
        go_wp2_with (go_at_call 55; refine HC.out.mono ?_)
        rintro e w1 ⟨rfl, ho1, hg1⟩
        rw [← hrvv] at ho1 hg1
        have h1 := HO.out.mark (by rw [HM.out.1]; exact hlt) hg1 ho1
        have h2 := HM.out.next hlt
        have h3 := hsp.grown hg1 (Nat.le_trans hB hsp.1.size) (fun k hk => ⟨(ho1.lt k hk).1, hH i hlt k hk⟩)
        have H1 := Lib.hid h1
        have H2 := Lib.hid h2
        clear h1 h2 ho1 hg1
        go_wp2
        go_roundw
        case rel => exact ⟨i + 1, by omega, by go_num, by simp only [pre, Int.natCast_add]; go_num, ⟨_, H1.out, H2.out⟩, h3⟩
        case measure => simp [intOf]; omega
      · have hie : i = o.length := by omega
        subst hie
        have H1 : Hid (∃ o', OwnTV wr B (.slice (some ⟨b, 0, none⟩) o.length cap) vs o' ∧ MarkedT q o o.length o') := ⟨o', hvo, hm⟩
        clear hvo hm
        go_wp2
        go_ret
        exact ⟨rfl, H1.out, hsp⟩

set_option maxRecDepth 100000 in
set_option maxHeartbeats 1600000 in
/-- Marks that are still there are told. -/
theorem heldIntSS_any (v : Value) (o o' : List (List Int)) (q : Int) (w : World) (hv : IsGrid w v o') (hm : MarkedT q o o.length o') (hs : Sized o) (hq0 : 0 ≤ q) (hq : q + (pre o o.length : Int) ≤ 4294967296) :
    Calls Try.prog 57 #[v, .int .i64 q] w fun e w' => e = .returned (.int .i64 (q + (pre o o.length : Int))) ∧ w = w' := by
  obtain ⟨a, cap, rfl, _⟩ := id hv
  have hs1 := hs.1
  have HS := Lib.hid hs
  have HV := Lib.hid hv
  have hml := hm.1
  have HM := Lib.hid hm
  clear hs hv hm
  rw [hml] at HV ⊢
  clear hml
  go_enter Try.func57, Try.ntmps57
  go_wp2
  go_loop [1, 5] (fun q' s => ∃ i : Nat, i ≤ o.length ∧ s = .int .i64 i ∧ q' = .int .i64 (q + (pre o i : Int))) (fun _ s => o.length - (intOf s).toNat)
  case atStart => exact ⟨0, Nat.zero_le _, rfl, by simp [pre]⟩
  case round =>
    obtain ⟨i, hi, rfl, rfl⟩ := hrel
    by_cases hlt : i < o.length
    · have i1 : (i : Int) < (o.length : Int) := by omega
      obtain ⟨b, off, ar, cr, rfl, ci, cc⟩ := HV.out.row i (by rw [HM.out.1]; exact hlt)
      have hrow : IsInts w (.slice ar (rowOf o' i).length cr) (rowOf o' i) := ⟨ar, cr, rfl, cc⟩
      rw [HM.out.2.1 i hlt] at hrow ci
      rw [marks_length] at hrow ci
      have hlen := HS.out.2 i hlt
      have hp1 : q + (pre o i : Int) ≤ 4294967296 := by have := pre_mono o hi; omega
      have C := heldIntS_any _ _ (q + (pre o i : Int)) w hrow hlen (by omega) hp1
      have HC := Lib.hid C
      have hn : ¬ (q + (pre o i : Int) + ((rowOf o i).length : Int) < 0) := by omega
      clear C hrow cc
      go_wp2_with fail
      refine HC.out.mono ?_
      rintro e w1 ⟨rfl, rfl⟩
      go_wp2
      go_round
      case rel => exact ⟨i + 1, by omega, by go_num, by simp only [pre, Int.natCast_add]; go_num⟩
      case measure => simp [intOf]; omega
    · have hie : i = o.length := by omega
      subst hie
      go_wp2
      go_ret
      exact ⟨rfl, rfl⟩

-- Turn
/-- The column k as a row. -/
def colL (g : List (List Int)) (k : Nat) : List Int := (List.range g.length).map fun i => cellOf g i k

/-- The table with rows as columns. -/
def turnL (g : List (List Int)) : List (List Int) := (List.range (rowOf g 0).length).map (colL g)

theorem colL_len (g : List (List Int)) (k : Nat) : (colL g k).length = g.length := by simp [colL]

theorem turnL_len (g : List (List Int)) : (turnL g).length = (rowOf g 0).length := by simp [turnL]

theorem colL_at (g : List (List Int)) (k i : Nat) (hi : i < g.length) : (colL g k).getD i 0 = cellOf g i k := by simp [colL, List.getD, hi]

theorem turnL_row (g : List (List Int)) (k : Nat) (hk : k < (rowOf g 0).length) : rowOf (turnL g) k = colL g k := by
  show ((List.range (rowOf g 0).length).map (colL g)).getD k [] = colL g k
  rw [List.getD_eq_getElem?_getD, List.getElem?_map, List.getElem?_range hk]
  rfl

theorem turnL_cell (g : List (List Int)) (k i : Nat) (hk : k < (rowOf g 0).length) (hi : i < g.length) : cellOf (turnL g) k i = cellOf g i k := by
  unfold cellOf
  rw [turnL_row g k hk, colL_at g k i hi]
  rfl

/-- A table of n rows of m numbers each. -/
def Rect (g : List (List Int)) (n m : Nat) : Prop := g.length = n ∧ ∀ i, i < n → (rowOf g i).length = m

section
variable {g : List (List Int)} {n m : Nat}

theorem Rect.turn (h : Rect g n m) (hn : 0 < n) : Rect (turnL g) m n := by
  have h0 := h.2 0 hn
  refine ⟨by rw [turnL_len, h0], fun k hk => ?_⟩
  rw [turnL_row g k (by rw [h0]; exact hk), colL_len, h.1]

end

section
variable {g : List (List Int)} {n m : Nat}

theorem Rect.cell (h : Rect g n m) (hn : 0 < n) {i k : Nat} (hi : i < n) (hk : k < m) : cellOf (turnL g) k i = cellOf g i k :=
  turnL_cell g k i (by rw [h.2 0 hn]; exact hk) (by rw [h.1]; exact hi)

end

theorem colL_take (g : List (List Int)) (k i : Nat) (hi : i < g.length) : (colL g k).take (i + 1) = (colL g k).take i ++ [cellOf g i k] := by
  have hl : i < (colL g k).length := by rw [colL_len]; exact hi
  rw [List.take_succ_eq_append_getElem hl, ← colL_at g k i hi]
  simp [List.getD, hl]

set_option maxRecDepth 100000 in
set_option maxHeartbeats 3200000 in
theorem turned_any (v : Value) (g : List (List Int)) (n m : Nat) (w : World) (hv : IsGrid w v g) (hg : Rect g n m) (hn : 0 < n) (hn3 : n ≤ 1048576) (hm3 : m ≤ 1048576) :
    Calls Try.prog 22 #[v] w fun e w' => ∃ v', e = .returned v' ∧ IsGrid w' v' (turnL g) ∧ Below w.heap.size w w' := by
  have h0 := hg.2 0 hn
  have hln := hg.1
  have HGR := Lib.hid hg
  have HV := Lib.hid hv
  obtain ⟨a, cap, rfl, _⟩ := id hv
  obtain ⟨b, off, ar, cr, rfl, c0, _⟩ := hv.row 0 (by omega)
  have hgl : g.length ≤ 1048576 := by omega
  have HLN := Lib.hid hln
  have HL0 := Lib.hid h0
  have ilen : (0 : Int) < (g.length : Int) := by omega
  have HC := Lib.hid c0
  have hs0 : b < w.heap.size := World.block_lt_of_cell? w _ c0
  have he : (turnL g).length = m := by rw [turnL_len, h0]
  have HE := Lib.hid he
  clear hv hg h0 hln c0 he
  go_enter Try.func22, Try.ntmps22
  go_wp2
  go_loopw [3, 4, 5, 6] (fun tv kv _ _ wr => ∃ kk : Nat, kk ≤ m ∧ kv = .int .i64 kk ∧ (∃ vs, OwnTV wr w.heap.size tv vs ((turnL g).take kk)) ∧ Below w.heap.size w wr) (fun _ kv _ _ _ => m - (intOf kv).toNat)
  case atStart => exact ⟨0, Nat.zero_le _, rfl, ⟨[], by simpa using ownTV_empty w _ (Nat.le_refl _)⟩, (Below.refl _ _).alloc (Nat.le_refl _) _⟩
  case round =>
    obtain ⟨kk, hk, rfl, ⟨vs, hvs⟩, hbl⟩ := hrel
    rename World => wo
    have cw : wo.cell? ⟨b, off, none⟩ = some (.slice ar (rowOf g 0).length cr) := by
      have := (hbl.cell (p := ⟨b, off + 0, none⟩) hs0).trans HC.out
      rwa [Nat.add_zero] at this
    have hRs : w.heap.size ≤ wo.heap.size := hbl.size
    have kl := HL0.out
    by_cases hlt : kk < m
    · have kl2 : (kk : Int) < ((rowOf g 0).length : Int) := by omega
      have tl := hvs.lt
      have tlen : ((turnL g).take kk).length = kk := by rw [List.length_take, HE.out]; omega
      have TL := Lib.hid tlen
      have tab0 := hvs.below (show Below wo.heap.size wo (wo.alloc (.cells #[] 3)) from (Below.refl _ _).alloc (Nat.le_refl _) _)
      have oe := own_empty wo wo.heap.size (Nat.le_refl _)
      have hb1 : Below w.heap.size w (wo.alloc (.cells #[] 3)) := hbl.alloc hRs _
      have HVS := Lib.hid tab0
      clear hvs tab0 kl tlen
      go_wp2
      go_loopw [5, 6] (fun rv iv wx => ∃ ii : Nat, ii ≤ g.length ∧ iv = .int .i64 ii ∧ Own wx wo.heap.size rv ((colL g kk).take ii) ∧ OwnTV wx w.heap.size u3 vs ((turnL g).take kk) ∧ Below w.heap.size w wx ∧ wo.heap.size ≤ wx.heap.size) (fun _ iv _ => g.length - (intOf iv).toNat)
      case atStart => exact ⟨0, Nat.zero_le _, rfl, by simpa using oe, HVS.out, hb1, by simp⟩
      case round =>
        obtain ⟨ii, hi, rfl, hox, htx, hbx, hsx⟩ := hrel
        rename World => wi
        have xl : ((colL g kk).take ii).length = ii := by rw [List.length_take, colL_len]; omega
        clear oe hb1
        by_cases hli : ii < g.length
        · have i1 : (ii : Int) < (g.length : Int) := by omega
          obtain ⟨bp, fp, ap, cp, ep, ci, hrow⟩ := (HV.out.below hbx).row ii hli
          simp only [Option.some.injEq, Addr.mk.injEq, and_true] at ep
          obtain ⟨rfl, rfl⟩ := ep
          have hrl : (rowOf g ii).length = m := HGR.out.2 ii (by have := HLN.out; omega)
          obtain ⟨b2, f2, rfl, cx⟩ := hrow kk (by omega)
          have kl3 : (kk : Int) < ((rowOf g ii).length : Int) := by omega
          have HT := Lib.hid htx
          have XL := Lib.hid xl
          have hxl : ((colL g kk).take ii).length ≤ 1048576 := by have := HLN.out; omega
          have hsw : w.heap.size ≤ wi.heap.size := by omega
          clear hrow hrl htx xl
          go_wp2_with (at_builtin; refine wpList_push hox hxl hsx (h := ?_))
          intro rv2 w4 o4 g4 m4
          rw [← colL_take g kk ii hli] at o4
          have t4 := HT.out.kept g4 (by
            cases hb : (u5 : Value).ownBlock with
            | none => cases hv : (u3 : Value).ownBlock <;> simp
            | some k => exact .inr fun e => by have := (tl.1 k e).2; have := (hox.lt k hb).1; omega) (fun j hj => by
            cases hb : (u5 : Value).ownBlock with
            | none => cases hv : (vs.getD j undef).ownBlock <;> simp
            | some k => exact .inr fun e => by have := (tl.2 j hj k e).2; have := (hox.lt k hb).1; omega)
          have b4 : Below w.heap.size w w4 := hbx.trans (below_grown g4 hsw (fun k hk => by have := (hox.lt k hk).1; omega))
          have s4 : wo.heap.size ≤ w4.heap.size := Nat.le_trans hsx g4.size
          have H4 := Lib.hid o4
          have T4 := Lib.hid t4
          clear o4 t4 g4 m4 hox hbx
          go_wp2
          go_roundw
          case rel => exact ⟨ii + 1, by omega, by go_num, H4.out, T4.out, b4, s4⟩
          case measure => simp [intOf]; omega
        · have hie : ii = g.length := by omega
          subst hie
          rw [List.take_of_length_le (by rw [colL_len]; exact Nat.le_refl _)] at hox
          obtain ⟨ax, cx, rfl, _⟩ := id hox.ints
          have hap : apartB (.slice ax (colL g kk).length cx) u3 := (apartB_of (fun k hk => (tl.1 k hk).2) (fun k hk => (hox.lt k hk).1)).symm
          have hrs : ∀ j, j < ((turnL g).take kk).length → apartB (vs.getD j undef) (.slice ax (colL g kk).length cx) := fun j hj => apartB_of (fun k hk => (tl.2 j hj k hk).2) (fun k hk => (hox.lt k hk).1)
          have hsw : w.heap.size ≤ wi.heap.size := by omega
          have hlk : ((turnL g).take kk).length ≤ 1048576 := by have := TL.out; omega
          clear xl
          go_wp2_with (at_builtin; refine wpList_pushT htx (hox.base hRs) hap hrs rfl hlk hsw (h := ?_))
          intro nv w5 v5 g5 m5
          have hrw : colL g kk = rowOf (turnL g) kk := (turnL_row g kk (by rw [HL0.out]; exact hlt)).symm
          rw [hrw, ← take_row (by rw [HE.out]; exact hlt)] at v5
          have b5 : Below w.heap.size w w5 := hbx.trans (below_grown g5 hsw (fun k hk => (tl.1 k hk).1))
          have V5 := Lib.hid v5
          clear v5 g5 m5 hrw hap hrs htx hox hbx
          go_wp2
          go_roundw
          case rel => exact ⟨kk + 1, by omega, by go_num, ⟨_, V5.out⟩, b5⟩
          case measure => simp [intOf]; omega
    · have hke : kk = m := by omega
      subst hke
      rw [List.take_of_length_le (by rw [HE.out]; exact Nat.le_refl _)] at hvs
      have G := Lib.hid hvs.table.grid
      clear hvs
      go_wp2
      go_ret
      exact ⟨_, rfl, G.out, hbl⟩

end Go.Proofs.Ytbedjebnllimpaa
