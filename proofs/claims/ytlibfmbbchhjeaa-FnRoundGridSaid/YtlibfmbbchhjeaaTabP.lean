/- Tables of the call's own: a row pushed, a row set, other blocks turned. -/
import Derived.Test.YtlibfmbbchhjeaaFromM
import Derived.Test.YtlibfmbbchhjeaaSpread
namespace Go.Proofs.Ytlibfmbbchhjeaa

section
open Go.RowKit

def apartB (x y : Value) : Prop := x.ownBlock = none ∨ x.ownBlock ≠ y.ownBlock

/-- v is a slice of rows, each in a block of its own (or nil where it is empty), all from block B on. -/
def OwnT (w : World) (B : Nat) (v : Value) (o : List (List Int)) : Prop :=
  ∃ vs : List Value, vs.length = o.length ∧ w.ownsRow B 23 1 v o.length vs ∧
    (∀ i, i < o.length → Own w B (vs.getD i undef) (rowOf o i) ∧ apartB (vs.getD i undef) v) ∧ (∀ i j, i < o.length → j < o.length → i ≠ j → apartB (vs.getD i undef) (vs.getD j undef))

theorem OwnT.below {w w' : World} {B : Nat} {v : Value} {o : List (List Int)} (h : OwnT w B v o) (hb : Below w.heap.size w w') : OwnT w' B v o := by
  obtain ⟨vs, hl, hown, hrows, hd⟩ := h
  exact ⟨vs, hl, World.ownsRow.kept hown (grown_below hb none) (by cases hv : v.ownBlock <;> simp), fun i hi => ⟨(hrows i hi).1.below hb, (hrows i hi).2⟩, hd⟩

theorem OwnT.grid {w : World} {B : Nat} {v : Value} {o : List (List Int)} (h : OwnT w B v o) : IsGrid w v o := by
  obtain ⟨vs, hl, hown, hrows, _⟩ := h
  rcases id hown.2 with ⟨rfl, hn⟩ | ⟨b, cap, cur, rfl, _⟩
  · exact ⟨none, 0, by rw [hn], fun j hj => by omega⟩
  · refine ⟨_, cap, rfl, fun j hj => ⟨b, 0, vs.getD j undef, rfl, ?_, (hrows j hj).1.ints⟩⟩
    have := World.ownsRow.cellAt hown j (by omega)
    rw [Nat.zero_add, this]
    simp [List.getD, show j < vs.length by omega]

theorem OwnGrid.table {w : World} {B : Nat} {v : Value} {o : List (List Int)} (h : OwnGrid w B v o) : OwnT w B v o := by
  obtain ⟨b0, G, rfl, hown, hrows, hd⟩ := h
  have hg : ∀ i, i < o.length → ((List.range o.length).map fun i => rowVal (G i) (rowOf o i).length).getD i undef = rowVal (G i) (rowOf o i).length := by
    intro i hi
    simp [List.getD, hi]
  refine ⟨_, by simp, hown, fun i hi => ?_, fun i j hi hj hij => ?_⟩
  · rw [hg i hi]
    exact ⟨(hrows i hi).2, .inr (by have := (hrows i hi).1; simp [rowVal, Value.ownBlock]; omega)⟩
  · rw [hg i hi, hg j hj]
    exact .inr (by have := hd i j hi hj hij; simp [rowVal, Value.ownBlock]; omega)

end

open Go.RowKit

/-- A table of the call's own whose rows are the values vs. -/
def OwnTV (w : World) (B : Nat) (v : Value) (vs : List Value) (o : List (List Int)) : Prop :=
  vs.length = o.length ∧ w.ownsRow B 23 1 v o.length vs ∧
    (∀ i, i < o.length → Own w B (vs.getD i undef) (rowOf o i) ∧ apartB (vs.getD i undef) v) ∧ (∀ i j, i < o.length → j < o.length → i ≠ j → apartB (vs.getD i undef) (vs.getD j undef))

theorem OwnT.values {w : World} {B : Nat} {v : Value} {o : List (List Int)} (h : OwnT w B v o) : ∃ vs, OwnTV w B v vs o := h
theorem OwnTV.table {w : World} {B : Nat} {v : Value} {vs : List Value} {o : List (List Int)} (h : OwnTV w B v vs o) : OwnT w B v o := ⟨vs, h⟩

theorem OwnT.base {w : World} {B B' : Nat} {v : Value} {o : List (List Int)} (h : OwnT w B v o) (hb : B' ≤ B) : OwnT w B' v o := by
  obtain ⟨vs, hl, hown, hrows, hd⟩ := h
  refine ⟨vs, hl, ⟨hown.1, ?_⟩, fun i hi => ⟨(hrows i hi).1.base hb, (hrows i hi).2⟩, hd⟩
  rcases hown.2 with hn | ⟨g, cap, cur, hv, hg, rest⟩
  · exact .inl hn
  · exact .inr ⟨g, cap, cur, hv, by omega, rest⟩

theorem apartB.symm {x y : Value} (h : apartB x y) : apartB y x := by
  unfold apartB at *
  cases hy : y.ownBlock with
  | none => exact .inl rfl
  | some k =>
    refine .inr fun e => ?_
    rcases h with h | h
    · rw [h] at e; cases e
    · exact h (e.symm.trans hy.symm)

/-- Apart by blocks: one below a bound, the other from it on. -/
theorem apartB_of {x y : Value} {n : Nat} (hx : ∀ k, x.ownBlock = some k → k < n) (hy : ∀ k, y.ownBlock = some k → n ≤ k) : apartB x y := by
  unfold apartB
  cases h : x.ownBlock with
  | none => exact .inl rfl
  | some k =>
    refine .inr fun e => ?_
    have h1 := hx k h
    have h2 := hy k e.symm
    omega

theorem OwnTV.below {w w' : World} {B : Nat} {v : Value} {vs : List Value} {o : List (List Int)} (h : OwnTV w B v vs o) (hb : Below w.heap.size w w') : OwnTV w' B v vs o := by
  obtain ⟨hl, hown, hrows, hd⟩ := h
  exact ⟨hl, World.ownsRow.kept hown (grown_below hb none) (by cases hv : v.ownBlock <;> simp), fun i hi => ⟨(hrows i hi).1.below hb, (hrows i hi).2⟩, hd⟩

theorem OwnTV.kept {w w' : World} {B : Nat} {v : Value} {vs : List Value} {o : List (List Int)} {row : Option Nat} (h : OwnTV w B v vs o) (hg : w.grownBy w' row) (hv : v.ownBlock = none ∨ v.ownBlock ≠ row) (hr : ∀ i, i < o.length → (vs.getD i undef).ownBlock = none ∨ (vs.getD i undef).ownBlock ≠ row) : OwnTV w' B v vs o := by
  obtain ⟨hl, hown, hrows, hd⟩ := h
  exact ⟨hl, World.ownsRow.kept hown hg hv, fun i hi => ⟨(hrows i hi).1.kept hg (hr i hi), (hrows i hi).2⟩, hd⟩

theorem OwnTV.lt {w : World} {B : Nat} {v : Value} {vs : List Value} {o : List (List Int)} (h : OwnTV w B v vs o) : (∀ k, v.ownBlock = some k → B ≤ k ∧ k < w.heap.size) ∧ ∀ i, i < o.length → ∀ k, (vs.getD i undef).ownBlock = some k → B ≤ k ∧ k < w.heap.size :=
  ⟨World.ownsRow.lt h.2.1, fun i hi => ((h.2.2.1 i hi).1).lt⟩

theorem getD_snoc_lt {α : Type} {l : List α} {x d : α} {i : Nat} (h : i < l.length) : (l ++ [x]).getD i d = l.getD i d := by simp [List.getD, List.getElem?_append_left h]
theorem getD_snoc_eq {α : Type} {l : List α} {x d : α} : (l ++ [x]).getD l.length d = x := by simp [List.getD]
theorem rowOf_snoc_lt {o : List (List Int)} {r : List Int} {i : Nat} (h : i < o.length) : rowOf (o ++ [r]) i = rowOf o i := getD_snoc_lt h
theorem rowOf_snoc_eq {o : List (List Int)} {r : List Int} : rowOf (o ++ [r]) o.length = r := getD_snoc_eq

/-- append(table, row). -/
theorem wpList_pushT {ops : Array Oper} {rest : List Oper} {o : Oper} {a : Act} {Q : Exit → Act → World → Prop} {wr : World} {s x : Operand} {B : Nat} {v rv : Value} {vs : List Value} {t : List (List Int)} {r : List Int}
    (hown : OwnTV wr B v vs t) (hrow : Own wr B rv r) (hrv : apartB rv v) (hrs : ∀ i, i < t.length → apartB (vs.getD i undef) rv) (hone : rv.oneCell' = true) (hlen : t.length ≤ 1048576) (hB : B ≤ wr.heap.size) (hgd : o.guard = none := by rfl)
    (ho : o.op = .call { callee := .builtin .append, args := #[s, x], argTypes := #[38, 38] } := by rfl)
    (hs : a.eval s = v := by rfl) (hx : a.eval x = .slice (some ⟨wr.heap.size, 0, none⟩) 1 1 := by rfl)
    (h : ∀ v' w', OwnTV w' B v' (vs ++ [rv]) (t ++ [r]) → wr.grownBy w' v.ownBlock → Moved wr v v' → wpList Try.prog ops Q rest (a.put o.dst v') w') :
    wpList Try.prog ops Q (o :: rest) a (wr.alloc (.cells #[rv] 23)) := by
  obtain ⟨i0, hi, hz0, hz1, hz2⟩ := info_parts infoInts
  have hlt := hown.lt
  obtain ⟨hl, hrow0, hrows, hd⟩ := hown
  refine wpList_append_own_at _ hgd s x 38 ho B 23 i0 (.slice none 0 0) 1 24 Try.underlying38 hi hz0 hz1 hz2 rfl (by decide) v t.length vs hs (World.ownsRow.alloc hrow0 _) ⟨wr.heap.size, 0, none⟩ 1 1 [rv] hx rfl (cell_one_new _ _ _) (by intro u hu; simp at hu; subst hu; exact hone) (by unfold maxLen; omega) (by omega) (by simp; omega) ?_
  intro v' w' h1 h2 _ h4
  have hg : wr.grownBy w' v.ownBlock := (World.grownBy_alloc wr _ _).trans h2
  have hm : Moved wr v v' := by
    rcases h4 with h4 | h4
    · exact .inl h4
    · exact .inr ⟨_, h4, by simp⟩
  -- the new table's block is the old one's, or a new one
  have hap : ∀ y : Value, (∀ k, y.ownBlock = some k → k < wr.heap.size) → apartB y v → apartB y v' := by
    intro y hy hyv
    rcases hm with e | ⟨k, e, hk⟩
    · unfold apartB at *; rw [e]; exact hyv
    · exact apartB_of hy (fun j hj => by rw [e] at hj; cases hj; exact hk)
  have hll : (t ++ [r]).length = t.length + 1 := by simp
  refine h v' w' ⟨by simp [hl], ?_, fun i hi => ?_, fun i j hi hj hij => ?_⟩ hg hm
  · rw [hll]; exact h1
  · rw [hll] at hi
    by_cases e : i < t.length
    · rw [getD_snoc_lt (by omega), rowOf_snoc_lt e]
      exact ⟨(hrows i e).1.kept hg (hrows i e).2, hap _ (fun k hk => (hlt.2 i e k hk).2) (hrows i e).2⟩
    · have e2 : i = t.length := by omega
      subst e2
      rw [show (vs ++ [rv]).getD t.length undef = rv by rw [← hl]; exact getD_snoc_eq, rowOf_snoc_eq]
      exact ⟨hrow.kept hg hrv, hap _ (fun k hk => (hrow.lt k hk).2) hrv⟩
  · rw [hll] at hi hj
    by_cases ei : i < t.length
    · rw [getD_snoc_lt (show i < vs.length by omega)]
      by_cases ej : j < t.length
      · rw [getD_snoc_lt (show j < vs.length by omega)]; exact hd i j ei ej hij
      · have e2 : j = t.length := by omega
        subst e2
        rw [show (vs ++ [rv]).getD t.length undef = rv by rw [← hl]; exact getD_snoc_eq]
        exact hrs i ei
    · have e1 : i = t.length := by omega
      subst e1
      rw [show (vs ++ [rv]).getD t.length undef = rv by rw [← hl]; exact getD_snoc_eq, getD_snoc_lt (show j < vs.length by omega)]
      exact (hrs j (by omega)).symm

/-- table[i] = row. -/
theorem OwnTV.setRow {w : World} {B g n cap : Nat} {vs : List Value} {o : List (List Int)} (h : OwnTV w B (.slice (some ⟨g, 0, none⟩) n cap) vs o) (hn : o.length = n) (i : Nat) (hi : i < n) (rv : Value) (r : List Int) (hrow : Own w B rv r) (hap : apartB rv (.slice (some ⟨g, 0, none⟩) n cap)) (hrs : ∀ j, j < n → j ≠ i → apartB (vs.getD j undef) rv) :
    OwnTV (w.setCell ⟨g, i, none⟩ rv) B (.slice (some ⟨g, 0, none⟩) n cap) (vs.set i rv) (o.set i r) ∧ w.grownBy (w.setCell ⟨g, i, none⟩ rv) (some g) := by
  subst hn
  obtain ⟨hl, hown, hrows, hd⟩ := h
  have hst := World.ownsRow.stored hown i rv
  have hne : ∀ j, j < o.length → (vs.getD j undef).ownBlock = none ∨ (vs.getD j undef).ownBlock ≠ some g := fun j hj => by
    rcases (hrows j hj).2 with h | h
    · exact .inl h
    · exact .inr h
  have hv : ∀ j, j < o.length → (vs.set i rv).getD j undef = if j = i then rv else vs.getD j undef := by
    intro j hj
    by_cases e : j = i
    · subst e; simp [List.getD, show j < vs.length by omega]
    · have e' : ¬ i = j := fun x => e x.symm
      simp [List.getD, e, e']
  have hr : ∀ j, j < o.length → rowOf (o.set i r) j = if j = i then r else rowOf o j := by
    intro j hj
    by_cases e : j = i
    · subst e; simp [rowOf, List.getD, hj]
    · have e' : ¬ i = j := fun x => e x.symm
      simp [rowOf, List.getD, e, e']
  refine ⟨⟨by simp [hl], by rw [List.length_set]; exact hst.1, fun j hj => ?_, fun j k hj hk hjk => ?_⟩, hst.2⟩
  · rw [List.length_set] at hj
    rw [hv j hj, hr j hj]
    by_cases e : j = i
    · rw [if_pos e, if_pos e]
      exact ⟨hrow.kept hst.2 (by rcases hap with h | h; exact .inl h; exact .inr h), hap⟩
    · rw [if_neg e, if_neg e]
      exact ⟨(hrows j hj).1.kept hst.2 (hne j hj), (hrows j hj).2⟩
  · rw [List.length_set] at hj hk
    rw [hv j hj, hv k hk]
    by_cases e : j = i
    · rw [if_pos e, if_neg (by omega)]; exact (hrs k hk (by omega)).symm
    · rw [if_neg e]
      by_cases e2 : k = i
      · rw [if_pos e2]; exact hrs j hj e
      · rw [if_neg e2]; exact hd j k hj hk hjk

theorem ownTV_empty (w : World) (B : Nat) (hB : B ≤ w.heap.size) : OwnTV (w.alloc (.cells #[] 23)) B (.slice (some ⟨w.heap.size, 0, none⟩) 0 0) [] [] :=
  ⟨rfl, World.ownsRow_lit w #[] 0 hB (by unfold maxLen; omega) rfl, fun i hi => by simp at hi, fun i j hi => by simp at hi⟩

end Go.Proofs.Ytlibfmbbchhjeaa
