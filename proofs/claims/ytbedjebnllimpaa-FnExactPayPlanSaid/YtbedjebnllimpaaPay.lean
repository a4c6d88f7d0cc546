/- Payments in memory: slices that are read, and those of the call's own. -/
import Derived.Test.YtbedjebnllimpaaOwnB
import Derived.Test.YtbedjebnllimpaaPush
import Derived.Test.YtbedjebnllimpaaWorld
import Derived.Maps.AppendAt
namespace Go.Proofs.Ytbedjebnllimpaa
open Go.RowKit

/-- From, To and Amount of payment i. -/
def pF (st : List (Int × Int × Int)) (i : Nat) : Int := (st.getD i (0, 0, 0)).1
def pT (st : List (Int × Int × Int)) (i : Nat) : Int := (st.getD i (0, 0, 0)).2.1
def pA (st : List (Int × Int × Int)) (i : Nat) : Int := (st.getD i (0, 0, 0)).2.2

/-- The value of one payment. -/
abbrev pv (f t a : Int) : Value := .agg #[.int .i64 f, .int .i64 t, .int .i64 a]

/-- The slice value v reads as the payments st in the world w. -/
def IsPays (w : World) (v : Value) (st : List (Int × Int × Int)) : Prop :=
  ∃ a cap, v = .slice a st.length cap ∧ ∀ j, j < st.length → ∃ b off, a = some ⟨b, off, none⟩ ∧ w.cell? ⟨b, off + j * 3, none⟩ = some (.int .i64 (pF st j)) ∧ w.cell? ⟨b, off + j * 3 + 1, none⟩ = some (.int .i64 (pT st j)) ∧ w.cell? ⟨b, off + j * 3 + 2, none⟩ = some (.int .i64 (pA st j))

theorem IsPays.below {w w' : World} {v : Value} {st : List (Int × Int × Int)} (h : IsPays w v st) (hb : Below w.heap.size w w') : IsPays w' v st := by
  obtain ⟨a, cap, rfl, hc⟩ := h
  refine ⟨a, cap, rfl, fun j hj => ?_⟩
  obtain ⟨b, off, ha, h1, h2, h3⟩ := hc j hj
  exact ⟨b, off, ha, (hb.cell (p := ⟨b, off + j * 3, none⟩) (World.block_lt_of_cell? w _ h1)).trans h1, (hb.cell (p := ⟨b, off + j * 3 + 1, none⟩) (World.block_lt_of_cell? w _ h2)).trans h2, (hb.cell (p := ⟨b, off + j * 3 + 2, none⟩) (World.block_lt_of_cell? w _ h3)).trans h3⟩

/-- Every number of the payments fits an int. -/
def FitsP (st : List (Int × Int × Int)) : Prop := ∀ i, (-9223372036854775808 ≤ pF st i ∧ pF st i ≤ 9223372036854775807) ∧ (-9223372036854775808 ≤ pT st i ∧ pT st i ≤ 9223372036854775807) ∧ (-9223372036854775808 ≤ pA st i ∧ pA st i ≤ 9223372036854775807)

/-- The cells of payments. -/
def cellsP (st : List (Int × Int × Int)) : List Value := st.flatMap fun p => [.int .i64 p.1, .int .i64 p.2.1, .int .i64 p.2.2]

theorem cellsP_cons (p : Int × Int × Int) (st : List (Int × Int × Int)) : cellsP (p :: st) = .int .i64 p.1 :: .int .i64 p.2.1 :: .int .i64 p.2.2 :: cellsP st := rfl
theorem cellsP_append (a b : List (Int × Int × Int)) : cellsP (a ++ b) = cellsP a ++ cellsP b := by simp [cellsP]
theorem cellsP_length (st : List (Int × Int × Int)) : (cellsP st).length = st.length * 3 := by
  induction st with
  | nil => rfl
  | cons p st ih => rw [cellsP_cons, List.length_cons, List.length_cons, List.length_cons, ih, List.length_cons]; omega

theorem cellsP_at (st : List (Int × Int × Int)) (j : Nat) (hj : j < st.length) : (cellsP st)[j * 3]? = some (.int .i64 (pF st j)) ∧ (cellsP st)[j * 3 + 1]? = some (.int .i64 (pT st j)) ∧ (cellsP st)[j * 3 + 2]? = some (.int .i64 (pA st j)) := by
  induction st generalizing j with
  | nil => simp at hj
  | cons p st ih =>
    cases j with
    | zero => simp [cellsP_cons, pF, pT, pA]
    | succ j =>
      have := ih j (by simpa using hj)
      rw [cellsP_cons, show (j + 1) * 3 = j * 3 + 1 + 1 + 1 by omega]
      simpa [pF, pT, pA] using this

theorem cellsP_set (st : List (Int × Int × Int)) (j : Nat) (hj : j < st.length) (f t a : Int) : (((cellsP st).set (j * 3) (.int .i64 f)).set (j * 3 + 1) (.int .i64 t)).set (j * 3 + 2) (.int .i64 a) = cellsP (st.set j (f, t, a)) := by
  induction st generalizing j with
  | nil => simp at hj
  | cons p st ih =>
    cases j with
    | zero => simp [cellsP_cons]
    | succ j =>
      have := ih j (by simpa using hj)
      rw [cellsP_cons, show (j + 1) * 3 = j * 3 + 1 + 1 + 1 by omega]
      simp only [List.set_cons_succ, this, cellsP_cons]

/-- One number of a payment set. -/
theorem cellsP_set1 (st : List (Int × Int × Int)) (j : Nat) (hj : j < st.length) (x : Int) : (cellsP st).set (j * 3) (.int .i64 x) = cellsP (st.set j (x, pT st j, pA st j)) ∧ (cellsP st).set (j * 3 + 1) (.int .i64 x) = cellsP (st.set j (pF st j, x, pA st j)) ∧ (cellsP st).set (j * 3 + 2) (.int .i64 x) = cellsP (st.set j (pF st j, pT st j, x)) := by
  induction st generalizing j with
  | nil => simp at hj
  | cons p st ih =>
    cases j with
    | zero => simp [cellsP_cons, pF, pT, pA]
    | succ j =>
      obtain ⟨h1, h2, h3⟩ := ih j (by simpa using hj)
      rw [cellsP_cons, show (j + 1) * 3 = j * 3 + 1 + 1 + 1 by omega]
      simp only [List.set_cons_succ, h1, h2, h3, cellsP_cons]
      simp [pF, pT, pA]

theorem cellsP_replicate (n : Nat) : cellsP (List.replicate n (0, 0, 0)) = List.replicate (n * 3) (Value.int .i64 0) := by
  induction n with
  | zero => rfl
  | succ n ih => rw [List.replicate_succ, cellsP_cons, ih, show (n + 1) * 3 = n * 3 + 1 + 1 + 1 by omega, List.replicate_succ, List.replicate_succ, List.replicate_succ]

theorem toList_madeCells_pay (n : Nat) : (madeCells (Value.agg #[.int .i64 0, .int .i64 0, .int .i64 0]).cells (n * 3)).toList = cellsP (List.replicate n (0, 0, 0)) := by
  rw [cellsP_replicate]
  unfold madeCells
  apply List.ext_getElem
  · simp
  · intro i h1 h2
    simp [Value.cells]
    have : i % 3 = 0 ∨ i % 3 = 1 ∨ i % 3 = 2 := by omega
    rcases this with h | h | h <;> rw [h] <;> rfl

theorem infoPay : (Try.prog.info? 42).map (fun i => (i.zero, i.size, i.bytes)) = some (some (.agg #[.int .i64 0, .int .i64 0, .int .i64 0]), 3, 24) := by kernel_rfl

/-- v is a slice of payments that lies in a block of the call's own, from B on (or nil where there are none). -/
def OwnP (w : World) (B : Nat) (v : Value) (st : List (Int × Int × Int)) : Prop := w.ownsRow B 42 3 v st.length (cellsP st)

theorem OwnP.below {w w' : World} {B : Nat} {v : Value} {st : List (Int × Int × Int)} (h : OwnP w B v st) (hb : Below w.heap.size w w') : OwnP w' B v st :=
  World.ownsRow.kept h (grown_below hb none) (by cases hv : v.ownBlock <;> simp)
theorem OwnP.base {w : World} {B B' : Nat} {v : Value} {st : List (Int × Int × Int)} (h : OwnP w B v st) (hb : B' ≤ B) : OwnP w B' v st := by
  refine ⟨h.1, ?_⟩
  rcases h.2 with hn | ⟨g, cap, cur, hv, hg, rest⟩
  · exact .inl hn
  · exact .inr ⟨g, cap, cur, hv, by omega, rest⟩
theorem OwnP.lt {w : World} {B : Nat} {v : Value} {st : List (Int × Int × Int)} (h : OwnP w B v st) : ∀ k, v.ownBlock = some k → B ≤ k ∧ k < w.heap.size := World.ownsRow.lt h
theorem OwnP.kept {w w' : World} {B : Nat} {v : Value} {st : List (Int × Int × Int)} {row : Option Nat} (h : OwnP w B v st) (hg : w.grownBy w' row) (hne : v.ownBlock = none ∨ v.ownBlock ≠ row) : OwnP w' B v st := World.ownsRow.kept h hg hne

theorem OwnP.pays {w : World} {B : Nat} {v : Value} {st : List (Int × Int × Int)} (h : OwnP w B v st) : IsPays w v st := by
  have h0 := h
  rcases h.2 with ⟨rfl, hn⟩ | ⟨g, cap, cur, rfl, _⟩
  · exact ⟨none, 0, by rw [hn], fun j hj => by omega⟩
  · refine ⟨_, cap, rfl, fun j hj => ⟨g, 0, rfl, ?_, ?_, ?_⟩⟩
    · rw [Nat.zero_add, World.ownsRow.cellAt h0 (j * 3) (by omega)]
      exact (cellsP_at st j hj).1
    · rw [Nat.zero_add, World.ownsRow.cellAt h0 (j * 3 + 1) (by omega)]
      exact (cellsP_at st j hj).2.1
    · rw [Nat.zero_add, World.ownsRow.cellAt h0 (j * 3 + 2) (by omega)]
      exact (cellsP_at st j hj).2.2

/-- The value of a slice of n payments at the head of block g. -/
abbrev slP (g n cap : Nat) : Value := .slice (some ⟨g, 0, none⟩) n cap

theorem OwnP.at {w : World} {B g n cap : Nat} {st : List (Int × Int × Int)} (h : OwnP w B (slP g n cap) st) (hn : st.length = n) (j : Nat) (hj : j < n) :
    (w.cell? ⟨g, j * 3, none⟩ = some (.int .i64 (pF st j)) ∧ w.cell? ⟨g, j * 3 + 1, none⟩ = some (.int .i64 (pT st j)) ∧ w.cell? ⟨g, j * 3 + 2, none⟩ = some (.int .i64 (pA st j))) ∧ ∀ i, w.frozen? ⟨g, i, none⟩ = false := by
  subst hn
  obtain ⟨c0, c1, c2⟩ := cellsP_at st j hj
  exact ⟨⟨(World.ownsRow.cellAt h (j * 3) (by omega)).trans c0, (World.ownsRow.cellAt h (j * 3 + 1) (by omega)).trans c1, (World.ownsRow.cellAt h (j * 3 + 2) (by omega)).trans c2⟩, fun i => World.ownsRow.frozenAt h i⟩

theorem OwnP.set1 {w : World} {B g n cap : Nat} {st : List (Int × Int × Int)} (h : OwnP w B (slP g n cap) st) (hn : st.length = n) (j : Nat) (hj : j < n) (x : Int) :
    (OwnP (w.setCell ⟨g, j * 3, none⟩ (.int .i64 x)) B (slP g n cap) (st.set j (x, pT st j, pA st j)) ∧ w.grownBy (w.setCell ⟨g, j * 3, none⟩ (.int .i64 x)) (some g)) ∧
    (OwnP (w.setCell ⟨g, j * 3 + 1, none⟩ (.int .i64 x)) B (slP g n cap) (st.set j (pF st j, x, pA st j)) ∧ w.grownBy (w.setCell ⟨g, j * 3 + 1, none⟩ (.int .i64 x)) (some g)) ∧
    (OwnP (w.setCell ⟨g, j * 3 + 2, none⟩ (.int .i64 x)) B (slP g n cap) (st.set j (pF st j, pT st j, x)) ∧ w.grownBy (w.setCell ⟨g, j * 3 + 2, none⟩ (.int .i64 x)) (some g)) := by
  subst hn
  obtain ⟨e0, e1, e2⟩ := cellsP_set1 st j hj x
  have h0 := World.ownsRow.stored h (j * 3) (.int .i64 x)
  have h1 := World.ownsRow.stored h (j * 3 + 1) (.int .i64 x)
  have h2 := World.ownsRow.stored h (j * 3 + 2) (.int .i64 x)
  refine ⟨⟨?_, h0.2⟩, ⟨?_, h1.2⟩, ⟨?_, h2.2⟩⟩
  · unfold OwnP; rw [List.length_set, ← e0]; exact h0.1
  · unfold OwnP; rw [List.length_set, ← e1]; exact h1.1
  · unfold OwnP; rw [List.length_set, ← e2]; exact h2.1

theorem OwnP.set {w : World} {B g n cap : Nat} {st : List (Int × Int × Int)} (h : OwnP w B (slP g n cap) st) (hn : st.length = n) (j : Nat) (hj : j < n) (f t a : Int) :
    OwnP (((w.setCell ⟨g, j * 3, none⟩ (.int .i64 f)).setCell ⟨g, j * 3 + 1, none⟩ (.int .i64 t)).setCell ⟨g, j * 3 + 2, none⟩ (.int .i64 a)) B (slP g n cap) (st.set j (f, t, a)) ∧ w.grownBy (((w.setCell ⟨g, j * 3, none⟩ (.int .i64 f)).setCell ⟨g, j * 3 + 1, none⟩ (.int .i64 t)).setCell ⟨g, j * 3 + 2, none⟩ (.int .i64 a)) (some g) := by
  subst hn
  have h1 := World.ownsRow.stored h (j * 3) (.int .i64 f)
  have h2 := World.ownsRow.stored h1.1 (j * 3 + 1) (.int .i64 t)
  have h3 := World.ownsRow.stored h2.1 (j * 3 + 2) (.int .i64 a)
  refine ⟨?_, (h1.2.trans h2.2).trans h3.2⟩
  unfold OwnP
  rw [List.length_set, ← cellsP_set st j hj]
  exact h3.1

theorem own_emptyP (w : World) (B : Nat) (hB : B ≤ w.heap.size) : OwnP (w.alloc (.cells #[] 42)) B (slP w.heap.size 0 0) [] :=
  World.ownsRow_lit w #[] 0 hB (by unfold maxLen; omega) rfl
theorem own_nilP (w : World) (B : Nat) : OwnP w B (.slice none 0 0) [] := ⟨rfl, .inl ⟨rfl, rfl⟩⟩

/-- append(s, pay) on a slice of payments of the call's own. -/
theorem wpList_pushP {ops : Array Oper} {rest : List Oper} {o : Oper} {a : Act} {Q : Exit → Act → World → Prop} {wr : World} {s x : Operand} {B : Nat} {v : Value} {st : List (Int × Int × Int)} {f t am : Int}
    (hown : OwnP wr B v st) (hlen : st.length ≤ 1048576) (hB : B ≤ wr.heap.size) (hgd : o.guard = none := by rfl)
    (ho : o.op = .call { callee := .builtin .append, args := #[s, x], argTypes := #[34, 34] } := by rfl)
    (hs : a.eval s = v := by rfl) (hx : a.eval x = .slice (some ⟨wr.heap.size, 0, none⟩) 1 1 := by rfl)
    (h : ∀ v' w', OwnP w' B v' (st ++ [(f, t, am)]) → wr.grownBy w' v.ownBlock → Moved wr v v' → wpList Try.prog ops Q rest (a.put o.dst v') w') :
    wpList Try.prog ops Q (o :: rest) a (wr.alloc (.cells #[.int .i64 f, .int .i64 t, .int .i64 am] 42)) := by
  obtain ⟨i0, hi, hz0, hz1, hz2⟩ := info_parts infoPay
  have hbx : (wr.alloc (.cells #[.int .i64 f, .int .i64 t, .int .i64 am] 42)).heap[wr.heap.size]? = some (.cells #[.int .i64 f, .int .i64 t, .int .i64 am] 42 (0, 0)) := heap_alloc_new _ _
  have hbc : ∀ j u, ([.int .i64 f, .int .i64 t, .int .i64 am] : List Value)[j]? = some u → (wr.alloc (.cells #[.int .i64 f, .int .i64 t, .int .i64 am] 42)).cell? ((⟨wr.heap.size, 0, none⟩ : Addr).add j) = some u := by
    intro j u hj
    match j with
    | 0 => simp at hj; subst hj; simp [Addr.add, cell_of_row _ _ _ _ _ _ hbx]
    | 1 => simp at hj; subst hj; simp [Addr.add, cell_of_row _ _ _ _ _ _ hbx]
    | 2 => simp at hj; subst hj; simp [Addr.add, cell_of_row _ _ _ _ _ _ hbx]
    | j + 3 => simp at hj
  refine wpList_append_own_at _ hgd s x 34 ho B 42 i0 (.agg #[.int .i64 0, .int .i64 0, .int .i64 0]) 3 24 Try.underlying34 hi hz0 hz1 hz2 rfl (by decide) v st.length (cellsP st) hs (World.ownsRow.alloc hown _) ⟨wr.heap.size, 0, none⟩ 1 1 [.int .i64 f, .int .i64 t, .int .i64 am] hx rfl hbc (by intro u hu; simp at hu; rcases hu with rfl | rfl | rfl <;> rfl) (by unfold maxLen; omega) (by omega) (by simp; omega) ?_
  intro v' w' h1 h2 _ h4
  refine h v' w' ?_ ((World.grownBy_alloc wr _ _).trans h2) ?_
  · unfold OwnP
    rw [cellsP_append, List.length_append]
    exact h1
  · rcases h4 with h4 | h4
    · exact .inl h4
    · exact .inr ⟨_, h4, by simp⟩

end Go.Proofs.Ytbedjebnllimpaa
