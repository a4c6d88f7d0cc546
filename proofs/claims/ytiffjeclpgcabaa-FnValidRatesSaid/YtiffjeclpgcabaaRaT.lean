/- Tables of ratios in memory: read, made, copied, compared; what stands while one is drawn. -/
import Derived.Test.YtiffjeclpgcabaaRaS
import Derived.Test.YtiffjeclpgcabaaEqQuiet
import Derived.Test.YtiffjeclpgcabaaSpread
import Derived.Test.YtiffjeclpgcabaaReadH
import Derived.Deep.RegionHeld3
namespace Go.Proofs.Ytiffjeclpgcabaa
open Go.RowKit

theorem set_vals (vs : List Value) (v : Value) (n i : Nat) (hl : vs.length = i) (hi : i < n) : (vs ++ List.replicate (n - i) (Value.slice none 0 0)).set i v = (vs ++ [v]) ++ List.replicate (n - (i + 1)) (Value.slice none 0 0) := by
  have e : n - i = (n - (i + 1)) + 1 := by omega
  rw [e, List.replicate_succ, List.set_append_right _ _ (by omega), hl, Nat.sub_self, List.append_assoc]
  rfl

def apartB (x y : Value) : Prop := x.ownBlock = none ∨ x.ownBlock ≠ y.ownBlock

theorem apartB.symm {x y : Value} (h : apartB x y) : apartB y x := by
  unfold apartB at *
  cases hy : y.ownBlock with
  | none => exact .inl rfl
  | some k =>
    refine .inr fun e => ?_
    rcases h with h | h
    · rw [h] at e; cases e
    · exact h (e.symm.trans hy.symm)

/-- Apart by blocks: one below a bound, the other from it on. -/
theorem apartB_of {x y : Value} {n : Nat} (hx : ∀ k, x.ownBlock = some k → k < n) (hy : ∀ k, y.ownBlock = some k → n ≤ k) : apartB x y := by
  unfold apartB
  cases h : x.ownBlock with
  | none => exact .inl rfl
  | some k =>
    refine .inr fun e => ?_
    have h1 := hx k h
    have h2 := hy k e.symm
    omega

theorem getD_snoc_lt {α : Type} {l : List α} {x d : α} {i : Nat} (h : i < l.length) : (l ++ [x]).getD i d = l.getD i d := by simp [List.getD, List.getElem?_append_left h]

theorem getD_snoc_eq {α : Type} {l : List α} {x d : α} : (l ++ [x]).getD l.length d = x := by simp [List.getD]

/-- The row with the index i. -/
def rowR (g : List (List (Int × Int))) (i : Nat) : List (Int × Int) := g.getD i []

/-- The value v reads as the rows g. -/
def IsGridR (w : World) (v : Value) (g : List (List (Int × Int))) : Prop :=
  ∃ a cap, v = .slice a g.length cap ∧ ∀ i, i < g.length → ∃ b off u, a = some ⟨b, off, none⟩ ∧ w.cell? ⟨b, off + i, none⟩ = some u ∧ IsRs w u (rowR g i)

theorem IsGridR.below {w w' : World} {v : Value} {g : List (List (Int × Int))} (h : IsGridR w v g) (hb : Below w.heap.size w w') : IsGridR w' v g := by
  obtain ⟨a, cap, rfl, hc⟩ := h
  refine ⟨a, cap, rfl, fun i hi => ?_⟩
  obtain ⟨b, off, u, ha, hcell, hu⟩ := hc i hi
  exact ⟨b, off, u, ha, (hb.cell (p := ⟨b, off + i, none⟩) (World.block_lt_of_cell? w _ hcell)).trans hcell, hu.below hb⟩

/-- One row: its value and its numbers. -/
theorem IsGridR.row {w : World} {a : Option Addr} {n cap : Nat} {g : List (List (Int × Int))} (h : IsGridR w (.slice a n cap) g) (i : Nat) (hi : i < g.length) :
    ∃ b off ar cr, a = some ⟨b, off, none⟩ ∧ w.cell? ⟨b, off + i, none⟩ = some (.slice ar (rowR g i).length cr) ∧ IsRs w (.slice ar (rowR g i).length cr) (rowR g i) := by
  obtain ⟨a', cap', e, hc⟩ := h
  simp only [Value.slice.injEq] at e
  obtain ⟨rfl, _, _⟩ := e
  obtain ⟨b, off, u, ha, hcell, ar, cr, rfl, hr⟩ := hc i hi
  exact ⟨b, off, ar, cr, ha, hcell, ⟨ar, cr, rfl, hr⟩⟩

/-- Every number of every row fits an int. -/
def FitsGR (g : List (List (Int × Int))) : Prop := ∀ i, i < g.length → FitsRs (rowR g i)

/-- A measure that was kept. -/
def SizedR (g : List (List (Int × Int))) : Prop := g.length ≤ 1048576 ∧ ∀ i, i < g.length → (rowR g i).length ≤ 1048576

theorem sizedR_rows {g : List (List (Int × Int))} (h : SizedR g) : g.length ≤ 9223372036854775807 ∧ ∀ i, i < g.length → (rowR g i).length ≤ 9223372036854775807 :=
  ⟨Nat.le_trans h.1 (by decide), fun i hi => Nat.le_trans (h.2 i hi) (by decide)⟩

theorem infoRs : (Try.prog.info? 26).map (fun i => (i.zero, i.size, i.bytes)) = some (some (.slice none 0 0), 1, 24) := by kernel_rfl

/-- v is a slice of rows, each in a block of its own (or nil where it is empty), all from block B on. -/
def OwnTR (w : World) (B : Nat) (v : Value) (o : List (List (Int × Int))) : Prop :=
  ∃ vs : List Value, vs.length = o.length ∧ w.ownsRow B 26 1 v o.length vs ∧
    (∀ i, i < o.length → OwnRs w B (vs.getD i undef) (rowR o i) ∧ apartB (vs.getD i undef) v) ∧ (∀ i j, i < o.length → j < o.length → i ≠ j → apartB (vs.getD i undef) (vs.getD j undef))

theorem OwnTR.below {w w' : World} {B : Nat} {v : Value} {o : List (List (Int × Int))} (h : OwnTR w B v o) (hb : Below w.heap.size w w') : OwnTR w' B v o := by
  obtain ⟨vs, hl, hown, hrows, hd⟩ := h
  exact ⟨vs, hl, World.ownsRow.kept hown (grown_below hb none) (by cases hv : v.ownBlock <;> simp), fun i hi => ⟨(hrows i hi).1.below hb, (hrows i hi).2⟩, hd⟩

theorem OwnTR.grid {w : World} {B : Nat} {v : Value} {o : List (List (Int × Int))} (h : OwnTR w B v o) : IsGridR w v o := by
  obtain ⟨vs, hl, hown, hrows, _⟩ := h
  rcases id hown.2 with ⟨rfl, hn⟩ | ⟨b, cap, cur, rfl, _⟩
  · exact ⟨none, 0, by rw [hn], fun j hj => by omega⟩
  · refine ⟨_, cap, rfl, fun j hj => ⟨b, 0, vs.getD j undef, rfl, ?_, (hrows j hj).1.rs⟩⟩
    have := World.ownsRow.cellAt hown j (by omega)
    rw [Nat.zero_add, this]
    simp [List.getD, show j < vs.length by omega]

/-- A table of the call's own whose rows are the values vs. -/
def OwnTVR (w : World) (B : Nat) (v : Value) (vs : List Value) (o : List (List (Int × Int))) : Prop :=
  vs.length = o.length ∧ w.ownsRow B 26 1 v o.length vs ∧
    (∀ i, i < o.length → OwnRs w B (vs.getD i undef) (rowR o i) ∧ apartB (vs.getD i undef) v) ∧ (∀ i j, i < o.length → j < o.length → i ≠ j → apartB (vs.getD i undef) (vs.getD j undef))

theorem OwnTR.values {w : World} {B : Nat} {v : Value} {o : List (List (Int × Int))} (h : OwnTR w B v o) : ∃ vs, OwnTVR w B v vs o := h

theorem OwnTVR.table {w : World} {B : Nat} {v : Value} {vs : List Value} {o : List (List (Int × Int))} (h : OwnTVR w B v vs o) : OwnTR w B v o := ⟨vs, h⟩

theorem OwnTR.base {w : World} {B B' : Nat} {v : Value} {o : List (List (Int × Int))} (h : OwnTR w B v o) (hb : B' ≤ B) : OwnTR w B' v o := by
  obtain ⟨vs, hl, hown, hrows, hd⟩ := h
  refine ⟨vs, hl, ⟨hown.1, ?_⟩, fun i hi => ⟨(hrows i hi).1.base hb, (hrows i hi).2⟩, hd⟩
  rcases hown.2 with hn | ⟨g, cap, cur, hv, hg, rest⟩
  · exact .inl hn
  · exact .inr ⟨g, cap, cur, hv, by omega, rest⟩

theorem OwnTVR.below {w w' : World} {B : Nat} {v : Value} {vs : List Value} {o : List (List (Int × Int))} (h : OwnTVR w B v vs o) (hb : Below w.heap.size w w') : OwnTVR w' B v vs o := by
  obtain ⟨hl, hown, hrows, hd⟩ := h
  exact ⟨hl, World.ownsRow.kept hown (grown_below hb none) (by cases hv : v.ownBlock <;> simp), fun i hi => ⟨(hrows i hi).1.below hb, (hrows i hi).2⟩, hd⟩

theorem OwnTVR.kept {w w' : World} {B : Nat} {v : Value} {vs : List Value} {o : List (List (Int × Int))} {row : Option Nat} (h : OwnTVR w B v vs o) (hg : w.grownBy w' row) (hv : v.ownBlock = none ∨ v.ownBlock ≠ row) (hr : ∀ i, i < o.length → (vs.getD i undef).ownBlock = none ∨ (vs.getD i undef).ownBlock ≠ row) : OwnTVR w' B v vs o := by
  obtain ⟨hl, hown, hrows, hd⟩ := h
  exact ⟨hl, World.ownsRow.kept hown hg hv, fun i hi => ⟨(hrows i hi).1.kept hg (hr i hi), (hrows i hi).2⟩, hd⟩

theorem OwnTVR.lt {w : World} {B : Nat} {v : Value} {vs : List Value} {o : List (List (Int × Int))} (h : OwnTVR w B v vs o) : (∀ k, v.ownBlock = some k → B ≤ k ∧ k < w.heap.size) ∧ ∀ i, i < o.length → ∀ k, (vs.getD i undef).ownBlock = some k → B ≤ k ∧ k < w.heap.size :=
  ⟨World.ownsRow.lt h.2.1, fun i hi => ((h.2.2.1 i hi).1).lt⟩

theorem rowR_snoc_lt {o : List (List (Int × Int))} {r : List (Int × Int)} {i : Nat} (h : i < o.length) : rowR (o ++ [r]) i = rowR o i := getD_snoc_lt h

theorem rowR_snoc_eq {o : List (List (Int × Int))} {r : List (Int × Int)} : rowR (o ++ [r]) o.length = r := getD_snoc_eq

/-- append(table, row). -/
theorem wpList_pushTR {ops : Array Oper} {rest : List Oper} {o : Oper} {a : Act} {Q : Exit → Act → World → Prop} {wr : World} {s x : Operand} {B : Nat} {v rv : Value} {vs : List Value} {t : List (List (Int × Int))} {r : List (Int × Int)}
    (hown : OwnTVR wr B v vs t) (hrow : OwnRs wr B rv r) (hrv : apartB rv v) (hrs : ∀ i, i < t.length → apartB (vs.getD i undef) rv) (hone : rv.oneCell' = true) (hlen : t.length ≤ 1048576) (hB : B ≤ wr.heap.size) (hgd : o.guard = none := by rfl)
    (ho : o.op = .call { callee := .builtin .append, args := #[s, x], argTypes := #[23, 23] } := by rfl)
    (hs : a.eval s = v := by rfl) (hx : a.eval x = .slice (some ⟨wr.heap.size, 0, none⟩) 1 1 := by rfl)
    (h : ∀ v' w', OwnTVR w' B v' (vs ++ [rv]) (t ++ [r]) → wr.grownBy w' v.ownBlock → Moved wr v v' → wpList Try.prog ops Q rest (a.put o.dst v') w') :
    wpList Try.prog ops Q (o :: rest) a (wr.alloc (.cells #[rv] 26)) := by
  obtain ⟨i0, hi, hz0, hz1, hz2⟩ := info_parts infoRs
  have hlt := hown.lt
  obtain ⟨hl, hrow0, hrows, hd⟩ := hown
  refine wpList_append_own_at _ hgd s x 23 ho B 26 i0 (.slice none 0 0) 1 24 Try.underlying23 hi hz0 hz1 hz2 rfl (by decide) v t.length vs hs (World.ownsRow.alloc hrow0 _) ⟨wr.heap.size, 0, none⟩ 1 1 [rv] hx rfl (cell_one_new _ _ _) (by intro u hu; simp at hu; subst hu; exact hone) (by unfold maxLen; omega) (by omega) (by simp; omega) ?_
  intro v' w' h1 h2 _ h4
  have hg : wr.grownBy w' v.ownBlock := (World.grownBy_alloc wr _ _).trans h2
  have hm : Moved wr v v' := by
    rcases h4 with h4 | h4
    · exact .inl h4
    · exact .inr ⟨_, h4, by simp⟩
  -- the new table's block is the old one's, or a new one
  have hap : ∀ y : Value, (∀ k, y.ownBlock = some k → k < wr.heap.size) → apartB y v → apartB y v' := by
    intro y hy hyv
    rcases hm with e | ⟨k, e, hk⟩
    · unfold apartB at *; rw [e]; exact hyv
    · exact apartB_of hy (fun j hj => by rw [e] at hj; cases hj; exact hk)
  have hll : (t ++ [r]).length = t.length + 1 := by simp
  refine h v' w' ⟨by simp [hl], ?_, fun i hi => ?_, fun i j hi hj hij => ?_⟩ hg hm
  · rw [hll]; exact h1
  · rw [hll] at hi
    by_cases e : i < t.length
    · rw [getD_snoc_lt (by omega), rowR_snoc_lt e]
      exact ⟨(hrows i e).1.kept hg (hrows i e).2, hap _ (fun k hk => (hlt.2 i e k hk).2) (hrows i e).2⟩
    · have e2 : i = t.length := by omega
      subst e2
      rw [show (vs ++ [rv]).getD t.length undef = rv by rw [← hl]; exact getD_snoc_eq, rowR_snoc_eq]
      exact ⟨hrow.kept hg hrv, hap _ (fun k hk => (hrow.lt k hk).2) hrv⟩
  · rw [hll] at hi hj
    by_cases ei : i < t.length
    · rw [getD_snoc_lt (show i < vs.length by omega)]
      by_cases ej : j < t.length
      · rw [getD_snoc_lt (show j < vs.length by omega)]; exact hd i j ei ej hij
      · have e2 : j = t.length := by omega
        subst e2
        rw [show (vs ++ [rv]).getD t.length undef = rv by rw [← hl]; exact getD_snoc_eq]
        exact hrs i ei
    · have e1 : i = t.length := by omega
      subst e1
      rw [show (vs ++ [rv]).getD t.length undef = rv by rw [← hl]; exact getD_snoc_eq, getD_snoc_lt (show j < vs.length by omega)]
      exact (hrs j (by omega)).symm

theorem ownTR_empty (w : World) (B : Nat) (hB : B ≤ w.heap.size) : OwnTVR (w.alloc (.cells #[] 26)) B (.slice (some ⟨w.heap.size, 0, none⟩) 0 0) [] [] :=
  ⟨rfl, World.ownsRow_lit w #[] 0 hB (by unfold maxLen; omega) rfl, fun i hi => by simp at hi, fun i j hi => by simp at hi⟩

/-- table[i] = append(table[i], ..): the row grows, where it lies or in a new block. -/
theorem OwnTVR.pushRow {w w' : World} {B b n cap : Nat} {vs : List Value} {o : List (List (Int × Int))} (h : OwnTVR w B (.slice (some ⟨b, 0, none⟩) n cap) vs o) (hn : o.length = n) (i : Nat) (hi : i < n) (rv : Value) (r : List (Int × Int)) (hg : w.grownBy w' (vs.getD i undef).ownBlock) (hrow : OwnRs w' B rv r) (hm : Moved w (vs.getD i undef) rv) :
    OwnTVR (w'.setCell ⟨b, i, none⟩ rv) B (.slice (some ⟨b, 0, none⟩) n cap) (vs.set i rv) (o.set i r) ∧ w'.grownBy (w'.setCell ⟨b, i, none⟩ rv) (some b) := by
  subst hn
  have hlt := h.lt
  obtain ⟨hl, hown, hrows, hd⟩ := h
  have hap : ∀ y : Value, (∀ k, y.ownBlock = some k → k < w.heap.size) → apartB y (vs.getD i undef) → apartB y rv := by
    intro y hy hyv
    rcases hm with e | ⟨k, e, hk⟩
    · unfold apartB at *; rw [e]; exact hyv
    · exact apartB_of hy (fun j hj => by rw [e] at hj; cases hj; exact hk)
  have hown' := World.ownsRow.kept hown hg (hrows i hi).2.symm
  have hst := World.ownsRow.stored hown' i rv
  have hne : ∀ x : Value, apartB x (.slice (some ⟨b, 0, none⟩) o.length cap) → x.ownBlock = none ∨ x.ownBlock ≠ some b := fun x hx => by
    rcases hx with h | h
    · exact .inl h
    · exact .inr h
  have hrv : apartB rv (.slice (some ⟨b, 0, none⟩) o.length cap) := (hap _ (fun k hk => (hlt.1 k hk).2) (hrows i hi).2.symm).symm
  have hv : ∀ j, j < o.length → (vs.set i rv).getD j undef = if j = i then rv else vs.getD j undef := by
    intro j hj
    by_cases e : j = i
    · subst e; simp [List.getD, show j < vs.length by omega]
    · have e' : ¬ i = j := fun x => e x.symm
      simp [List.getD, e, e']
  have hr : ∀ j, j < o.length → rowR (o.set i r) j = if j = i then r else rowR o j := by
    intro j hj
    by_cases e : j = i
    · subst e; simp [rowR, List.getD, hj]
    · have e' : ¬ i = j := fun x => e x.symm
      simp [rowR, List.getD, e, e']
  refine ⟨⟨by simp [hl], by rw [List.length_set]; exact hst.1, fun j hj => ?_, fun j k hj hk hjk => ?_⟩, hst.2⟩
  · rw [List.length_set] at hj
    rw [hv j hj, hr j hj]
    by_cases e : j = i
    · rw [if_pos e, if_pos e]
      exact ⟨hrow.kept hst.2 (hne _ hrv), hrv⟩
    · rw [if_neg e, if_neg e]
      exact ⟨((hrows j hj).1.kept hg (hd j i hj hi e)).kept hst.2 (hne _ (hrows j hj).2), (hrows j hj).2⟩
  · rw [List.length_set] at hj hk
    have hx : ∀ j, j < o.length → j ≠ i → apartB (vs.getD j undef) rv := fun j hj e => hap _ (fun k hk => (hlt.2 j hj k hk).2) (hd j i hj hi e)
    rw [hv j hj, hv k hk]
    by_cases e : j = i
    · rw [if_pos e, if_neg (by omega)]; exact (hx k hk (by omega)).symm
    · rw [if_neg e]
      by_cases e2 : k = i
      · rw [if_pos e2]; exact hx j hj e
      · rw [if_neg e2]; exact hd j k hj hk hjk

/-- A row is written where it lies. -/
theorem OwnTVR.mark {w w' : World} {B : Nat} {v : Value} {vs : List Value} {o : List (List (Int × Int))} (h : OwnTVR w B v vs o) {i : Nat} (hi : i < o.length) {r : List (Int × Int)} (hg : w.grownBy w' (vs.getD i undef).ownBlock) (hrow : OwnRs w' B (vs.getD i undef) r) : OwnTVR w' B v vs (o.set i r) := by
  obtain ⟨hl, hown, hrows, hd⟩ := h
  have hr : ∀ j, j < o.length → rowR (o.set i r) j = if j = i then r else rowR o j := by
    intro j hj
    by_cases e : j = i
    · subst e; simp [rowR, List.getD, hj]
    · have e' : ¬ i = j := fun x => e x.symm
      simp [rowR, List.getD, e, e']
  refine ⟨by simp [hl], by rw [List.length_set]; exact World.ownsRow.kept hown hg (hrows i hi).2.symm, fun j hj => ?_, fun j k hj hk hjk => hd j k (by simpa using hj) (by simpa using hk) hjk⟩
  rw [List.length_set] at hj
  rw [hr j hj]
  by_cases e : j = i
  · subst e; rw [if_pos rfl]; exact ⟨hrow, (hrows j hj).2⟩
  · rw [if_neg e]; exact ⟨(hrows j hj).1.kept hg (hd j i hj hi e), (hrows j hj).2⟩

/-- How many numbers lie in the first rows. -/
def preR (o : List (List (Int × Int))) : Nat → Nat
  | 0 => 0
  | i + 1 => preR o i + (rowR o i).length

theorem preR_mono (o : List (List (Int × Int))) {i n : Nat} (h : i ≤ n) : preR o i ≤ preR o n := by
  induction h with
  | refl => exact Nat.le_refl _
  | step _ ih => exact Nat.le_trans ih (Nat.le_add_right _ _)

set_option maxRecDepth 100000 in
set_option maxHeartbeats 1600000 in
theorem szRatioSS_sum (v : Value) (g : List (List (Int × Int))) (l : Int) (w : World) (hv : IsGridR w v g) (hl : g.length ≤ 9223372036854775807) (hr : ∀ i, i < g.length → (rowR g i).length ≤ 9223372036854775807) (h0 : 0 ≤ l ∧ l ≤ 1048576) :
    Calls Try.prog 47 #[v, .int .i64 l] w fun e w' => ∃ r : Int, e = .returned (.int .i64 r) ∧ (r = -1 ∨ (0 ≤ r ∧ r ≤ l ∧ SizedR g ∧ preR g g.length ≤ 1048576)) ∧ w = w' := by
  obtain ⟨a, cap, rfl, _⟩ := id hv
  by_cases hb : (l : Int) < (g.length : Int)
  · go_enter Try.func47, Try.ntmps47
    go_wp2
    go_ret
    exact ⟨_, rfl, .inl rfl, rfl⟩
  · have hb2 : ¬ (l - (g.length : Int) < 0) := by omega
    go_enter Try.func47, Try.ntmps47
    go_wp2
    go_loop [1, 5] (fun c s => ∃ (i : Nat) (r : Int), i ≤ g.length ∧ s = .int .i64 i ∧ c = .int .i64 r ∧ 0 ≤ r ∧ r ≤ l ∧ r + (preR g i : Int) ≤ l ∧ ∀ j, j < i → (rowR g j).length ≤ 1048576) (fun _ s => g.length - (intOf s).toNat)
    case atStart => exact ⟨0, l - g.length, Nat.zero_le _, rfl, by go_num, by omega, by omega, by simp [preR]; omega, fun j hj => by omega⟩
    case round =>
      obtain ⟨i, r, hi, rfl, rfl, hr0, hr1, hpr, hok⟩ := hrel
      have HP := Lib.hid hpr
      clear hpr
      have HOK := Lib.hid hok
      clear hok
      by_cases hlt : i < g.length
      · obtain ⟨b, off, ar, cr, rfl, ci, _⟩ := hv.row i hlt
        have i1 : (i : Int) < (g.length : Int) := by omega
        have hri := hr i hlt
        by_cases hc : r < ((rowR g i).length : Int)
        · have hd : r - ((rowR g i).length : Int) < 0 := by omega
          go_wp2
          go_ret
          exact ⟨_, rfl, .inl rfl, rfl⟩
        · have hd : ¬ (r - ((rowR g i).length : Int) < 0) := by omega
          go_wp2
          go_round
          case rel =>
            refine ⟨i + 1, r - (rowR g i).length, by omega, by go_num, by go_num, by omega, by omega, by have := HP.out; simp only [preR, Int.natCast_add]; omega, fun j hj => ?_⟩
            by_cases hji : j = i
            · subst hji; omega
            · exact HOK.out j (by omega)
          case measure => simp [intOf]; omega
      · have hie : i = g.length := by omega
        have H : Hid (SizedR g ∧ preR g g.length ≤ 1048576) := ⟨⟨by omega, fun j hj => HOK.out j (by omega)⟩, by have := HP.out; rw [hie] at this; omega⟩
        go_wp2
        go_ret
        exact ⟨_, rfl, .inr ⟨hr0, hr1, H.out⟩, rfl⟩

set_option maxRecDepth 100000 in
set_option maxHeartbeats 1600000 in
theorem toRatioSS_own (v : Value) (g : List (List (Int × Int))) (w : World) (hv : IsGridR w v g) (hs : SizedR g) :
    Calls Try.prog 48 #[v] w fun e w' => ∃ v', e = .returned v' ∧ OwnTR w' w.heap.size v' g ∧ Below w.heap.size w w' := by
  obtain ⟨a, cap, rfl, _⟩ := id hv
  have hl := hs.1
  obtain ⟨i0, hi, hz0, hz1, hz2⟩ := info_parts infoRs
  go_enter Try.func48, Try.ntmps48
  go_wp2_with (at_make; refine wpList_make_full _ rfl _ _ 23 rfl w.heap.size 26 i0 (.slice none 0 0) 1 Try.underlying23 hi hz0 hz1 _ _ _ _ g.length rfl rfl rfl rfl ?b2 ?b3 (Nat.le_refl _) ?_)
  case b2 => rw [hz2]; omega
  case b3 => unfold maxLen; omega
  intro w0 hown0 hgrow0
  have hb0 : Below w.heap.size w w0 := below_grown hgrow0 (Nat.le_refl _) (fun k h => by cases h)
  have hsz : w.heap.size ≤ w0.heap.size := hb0.size
  have hw0 : w0.ownsRow w.heap.size 26 1 (.slice (some ⟨w.heap.size, 0, none⟩) g.length g.length) g.length (([] : List Value) ++ List.replicate (g.length - 0) (Value.slice none 0 0)) := by
    rw [toList_madeCells_one] at hown0
    simpa using hown0
  clear hown0 hgrow0
  go_wp2
  go_loopw [4] (fun s wr => ∃ (i : Nat) (vs : List Value), i ≤ g.length ∧ s = .int .i64 i ∧ vs.length = i ∧ wr.ownsRow w.heap.size 26 1 (.slice (some ⟨w.heap.size, 0, none⟩) g.length g.length) g.length (vs ++ List.replicate (g.length - i) (Value.slice none 0 0)) ∧ (∀ j, j < i → OwnRs wr (w.heap.size + 1) (vs.getD j undef) (rowR g j)) ∧ (∀ j k, j < i → k < i → j ≠ k → apartB (vs.getD j undef) (vs.getD k undef)) ∧ Below w.heap.size w wr)
    (fun s _ => g.length - (intOf s).toNat)
  case atStart => exact ⟨0, [], Nat.zero_le _, rfl, rfl, hw0, fun j hj => by omega, fun j k hj => by omega, hb0⟩
  case round =>
    clear hw0 hb0 hsz
    obtain ⟨i, vs, hi', rfl, hvl, hown, hrows, hap, hbl⟩ := hrel
    by_cases hlt : i < g.length
    · have hvr := hv.below hbl
      obtain ⟨b, off, ar, cr, rfl, ci, hrow⟩ := hvr.row i hlt
      have i1 : (i : Int) < (g.length : Int) := by omega
      have hsi := hs.2 i hlt
      have hdst : wr.cell? ⟨w.heap.size, i, none⟩ = some (.slice none 0 0) := by
        rw [hown.cellAt i (by omega), List.getElem?_append_right (by omega), List.getElem?_replicate, if_pos (by omega)]
      have hfr : wr.frozen? ⟨w.heap.size, i, none⟩ = false := hown.frozenAt i
      have hBr : w.heap.size < wr.heap.size := World.block_lt_of_cell? wr ⟨w.heap.size, i, none⟩ hdst
      clear hvr
      go_wp2_with fail
      refine (toRatioS_any _ (rowR g i) _ hrow hsi).mono ?_
      rintro e w1 ⟨v1, rfl, ho1, hb1⟩
      obtain ⟨ax, cx, rfl, _⟩ := id ho1.rs
      have hown1 := World.ownsRow.kept hown (grown_below hb1 none) (.inr (by simp [Value.ownBlock]))
      have hdst1 : w1.cell? ⟨w.heap.size, i, none⟩ = some (.slice none 0 0) := (hb1.cell (p := ⟨w.heap.size, i, none⟩) hBr).trans hdst
      have hfr1 : w1.frozen? ⟨w.heap.size, i, none⟩ = false := hown1.frozenAt i
      have hst := hown1.stored i (.slice ax (rowR g i).length cx)
      rw [set_vals vs (.slice ax (rowR g i).length cx) g.length i hvl hlt] at hst
      have hbl1 : Below w.heap.size w w1 := hbl.trans (hb1.mono hbl.size)
      have hb2 : Below w.heap.size w (w1.setCell ⟨w.heap.size, i, none⟩ (.slice ax (rowR g i).length cx)) := hbl1.setCell (by exact Nat.le_refl _) _
      have hrows2 : ∀ j, j < i + 1 → OwnRs (w1.setCell ⟨w.heap.size, i, none⟩ (.slice ax (rowR g i).length cx)) (w.heap.size + 1) ((vs ++ [Value.slice ax (rowR g i).length cx]).getD j undef) (rowR g j) := by
        intro j hj
        have hne : ∀ (v : Value) (xs : List (Int × Int)), OwnRs w1 (w.heap.size + 1) v xs → OwnRs (w1.setCell ⟨w.heap.size, i, none⟩ (.slice ax (rowR g i).length cx)) (w.heap.size + 1) v xs := fun v xs h => h.kept hst.2 (by
          cases hv : v.ownBlock with
          | none => exact .inl rfl
          | some k => exact .inr (by intro e; have := (h.lt k hv).1; simp at e; omega))
        by_cases hji : j = i
        · rw [hji]
          rw [show (vs ++ [Value.slice ax (rowR g i).length cx]).getD i undef = Value.slice ax (rowR g i).length cx by simp [List.getD, hvl]]
          exact hne _ _ (ho1.base (by omega))
        · rw [show (vs ++ [Value.slice ax (rowR g i).length cx]).getD j undef = vs.getD j undef by simp [List.getD, List.getElem?_append_left (show j < vs.length by omega)]]
          exact hne _ _ ((hrows j (by omega)).below hb1)
      have hap2 : ∀ j k, j < i + 1 → k < i + 1 → j ≠ k → apartB ((vs ++ [Value.slice ax (rowR g i).length cx]).getD j undef) ((vs ++ [Value.slice ax (rowR g i).length cx]).getD k undef) := by
        have hn : ∀ j, j < i → apartB (vs.getD j undef) (Value.slice ax (rowR g i).length cx) := fun j hj => apartB_of (fun k hk => ((hrows j hj).lt k hk).2) (fun k hk => (ho1.lt k hk).1)
        have e1 : (vs ++ [Value.slice ax (rowR g i).length cx]).getD i undef = Value.slice ax (rowR g i).length cx := by simp [List.getD, hvl]
        have e2 : ∀ j, j < i → (vs ++ [Value.slice ax (rowR g i).length cx]).getD j undef = vs.getD j undef := fun j hj => by simp [List.getD, List.getElem?_append_left (show j < vs.length by omega)]
        intro j k hj hk hjk
        by_cases hji : j = i
        · rw [hji, e1, e2 k (by omega)]; exact (hn k (by omega)).symm
        · rw [e2 j (by omega)]
          by_cases hki : k = i
          · rw [hki, e1]; exact hn j (by omega)
          · rw [e2 k (by omega)]; exact hap j k (by omega) (by omega) hjk
      have H3 := Lib.hid hap2
      have H1 := Lib.hid hst.1
      have H2 := Lib.hid hrows2
      clear hst hrows2 hrows hap hap2 hown hown1 hdst hfr ho1 hrow ci hb1
      go_wp2
      go_roundw
      case rel => exact ⟨i + 1, vs ++ [Value.slice ax (rowR g i).length cx], by omega, by go_num, by simp [hvl], H1.out, H2.out, H3.out, hb2⟩
      case measure => simp [intOf]; omega
    · have hie : i = g.length := by omega
      subst hie
      rw [Nat.sub_self, List.replicate_zero, List.append_nil] at hown
      have hG : Hid (OwnTR wr w.heap.size (.slice (some ⟨w.heap.size, 0, none⟩) g.length g.length) g) :=
        ⟨vs, hvl, hown, fun j hj => ⟨(hrows j hj).base (by omega), .inr (by
          intro e
          have := ((hrows j hj).lt w.heap.size (by rw [e]; rfl)).1
          omega)⟩, fun j k hj hk hjk => hap j k hj hk hjk⟩
      clear hrows hown hap
      go_wp2
      go_ret
      exact ⟨_, rfl, hG.out, hbl⟩

/-- What stands while a table is drawn: the reader, the table, and what has been left as it was. -/
structure TabR (w w' : World) (B R : Nat) (a : Option Addr) (q : Nat) (v : Value) (vs : List Value) (g : List (List (Int × Int))) : Prop where
  rd : HasReader w' B R a q
  tb : OwnTVR w' w.heap.size v vs g
  gr : w.grownBy w' (some R)

theorem OwnTVR.pastR {w : World} {B R : Nat} {v : Value} {vs : List Value} {g : List (List (Int × Int))} (h : OwnTVR w B v vs g) (hR : R < B) : (v.ownBlock = none ∨ v.ownBlock ≠ some R) ∧ ∀ i, i < g.length → (vs.getD i undef).ownBlock = none ∨ (vs.getD i undef).ownBlock ≠ some R :=
  ⟨.inr fun e => by have := (h.lt.1 R e).1; omega, fun i hi => .inr fun e => by have := (h.lt.2 i hi R e).1; omega⟩

theorem TabR.pick {w w' w2 : World} {B R q q' : Nat} {a : Option Addr} {v : Value} {vs : List Value} {g : List (List (Int × Int))} (h : TabR w w' B R a q v vs g) (hR : R < w.heap.size) (hr : HasReader w2 B R a q') (hg : w'.grownBy w2 (some R)) : TabR w w2 B R a q' v vs g :=
  ⟨hr, h.tb.kept hg (h.tb.pastR hR).1 (h.tb.pastR hR).2, h.gr.trans hg⟩

/-- A block made or written that is none of the table's. -/
theorem TabR.past {w w' w2 : World} {B R q : Nat} {a : Option Addr} {v : Value} {vs : List Value} {g : List (List (Int × Int))} {row : Option Nat} (h : TabR w w' B R a q v vs g) (hR : B ≤ R ∧ R < w.heap.size) (hg : w'.grownBy w2 row) (hrow : ∀ k, row = some k → w.heap.size ≤ k ∧ v.ownBlock ≠ some k ∧ ∀ i, i < g.length → (vs.getD i undef).ownBlock ≠ some k) : TabR w w2 B R a q v vs g := by
  refine ⟨h.rd.kept hg (fun k hk => by have := (hrow k hk).1; omega), h.tb.kept hg ?_ ?_, grown_fresh h.gr hg (fun k hk => (hrow k hk).1)⟩
  · cases row with
    | none => cases hv : v.ownBlock <;> simp
    | some k => exact .inr (hrow k rfl).2.1
  · intro i hi
    cases row with
    | none => cases hv : (vs.getD i undef).ownBlock <;> simp
    | some k => exact .inr ((hrow k rfl).2.2 i hi)

theorem quietAt_load_row {C : World → Prop} {o : Oper} {a : Act} (x : Operand) (ho : o.op = .load 26 x) (p : Addr) (v : Value) (hx : a.eval x = .pointer (some p)) (hc : ∀ w, C w → w.cell? p = some v) : ∀ w, C w → o.quietAt Try.prog a C w v := by
  intro w hw
  have h := hc w hw
  unfold Oper.quietAt execOp
  simp only [ho, hx, Instr.loadAt, Instr.sureAddr, Sem.run_bind, Sem.run_pure, Result.andThen_ok]
  simp [go_sem, h]

theorem enter_eqRatioS (args : Array Value) (w : World) : (callFunc 83 args).run Try.prog w = .ok (.enter 83 args) w := by rfl

set_option maxRecDepth 100000 in
set_option maxHeartbeats 1600000 in
/-- Equal rows are told equal. -/
theorem eqRatioSS_same (v z : Value) (g : List (List (Int × Int))) (w : World) (hv : IsGridR w v g) (hz : IsGridR w z g) (hl : g.length ≤ 9223372036854775807) (hr : ∀ i, i < g.length → (rowR g i).length ≤ 9223372036854775807) :
    Calls Try.prog 49 #[v, z] w fun e w' => e = .returned (.bool true) ∧ Below w.heap.size w w' := by
  obtain ⟨a, cap, rfl, _⟩ := id hv
  obtain ⟨a2, cap2, rfl, _⟩ := id hz
  go_enter Try.func49, Try.ntmps49
  go_wp2
  go_loopw [5] (fun s wr => ∃ i : Nat, i ≤ g.length ∧ s = .int .i64 i ∧ Below w.heap.size w wr) (fun s _ => g.length - (intOf s).toNat)
  case atStart => exact ⟨0, Nat.zero_le _, rfl, Below.refl _ _⟩
  case round =>
    obtain ⟨i, hi, rfl, hbl⟩ := hrel
    by_cases hlt : i < g.length
    · obtain ⟨b, off, ar, cr, rfl, ci, cc⟩ := hv.row i hlt
      obtain ⟨b2, off2, ar2, cr2, rfl, c2, cc2⟩ := hz.row i hlt
      have hbb : b < w.heap.size := World.block_lt_of_cell? w _ ci
      have hbb2 : b2 < w.heap.size := World.block_lt_of_cell? w _ c2
      have i1 : (i : Int) < (g.length : Int) := by omega
      have hri := hr i hlt
      have HQ0 : Hid (∀ w', Below wr.heap.size wr w' → w'.cell? ⟨b, off + i, none⟩ = some (.slice ar (rowR g i).length cr)) := fun w' hw' => ((hbl.trans (hw'.mono hbl.size)).cell (by exact hbb)).trans ci
      have HQ2 : Hid (∀ w', Below wr.heap.size wr w' → w'.cell? ⟨b2, off2 + i, none⟩ = some (.slice ar2 (rowR g i).length cr2)) := fun w' hw' => ((hbl.trans (hw'.mono hbl.size)).cell (by exact hbb2)).trans c2
      have C1 : Hid (∀ w', Below wr.heap.size wr w' → Calls Try.prog 83 #[.slice ar (rowR g i).length cr, .slice ar2 (rowR g i).length cr2] w' fun e w'' => e = .returned (.bool true) ∧ Below wr.heap.size wr w'') := by
        intro w' hw'
        have hx := hbl.trans (hw'.mono hbl.size)
        have := eqRatioS_any _ _ _ _ w' (cc.below hx) (cc2.below hx) hri
        rw [decide_eq_true rfl] at this
        exact this.mono (fun e w'' h => ⟨h.1, hw'.trans (h.2.mono hw'.size)⟩)
      clear cc cc2 ci c2
      go_wp2
      refine wp_region_quiet_below (by kernel_rfl) (by kernel_rfl) ?_
      go_simp
      repeat (first
        | (refine wpQuiet_val (.slice ar (rowR g i).length cr) (by kernel_rfl) (quietAt_load_row _ rfl ⟨b, off + i, none⟩ _ rfl HQ0.out) ?_; go_simp)
        | (refine wpQuiet_val (.slice ar2 (rowR g i).length cr2) (by kernel_rfl) (quietAt_load_row _ rfl ⟨b2, off2 + i, none⟩ _ rfl HQ2.out) ?_; go_simp)
        | (refine wpQuiet_val (.bool true) (by kernel_rfl) (quietAt_callf _ enter_eqRatioS _ _ rfl #[.slice ar (rowR g i).length cr, .slice ar2 (rowR g i).length cr2] (by simp [go_sem]) C1.out) ?_; go_simp)
        | go_big_quiet_skip | (go_big_quiet_want; go_big_quiet_op; first | go_big_quiet_on | (refine ⟨_, fun _ _ => rfl, ?_⟩; go_big_quiet_on)))
      refine wpQuiet_nil ?_
      intro w' hw'
      go_wp2
      go_roundw
      case rel => exact ⟨i + 1, by omega, by go_num, hbl.trans (hw'.mono hbl.size)⟩
      case measure => simp [intOf]; omega
    · go_wp2
      go_ret
      exact ⟨rfl, hbl⟩

end Go.Proofs.Ytiffjeclpgcabaa
