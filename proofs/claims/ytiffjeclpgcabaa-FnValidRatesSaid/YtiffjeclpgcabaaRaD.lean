/- Drawn rates: rows and tables of ratios that are written. -/
import Derived.Test.YtiffjeclpgcabaaRaT
import Derived.Test.YtiffjeclpgcabaaReadH
import Derived.Deep.RegionHeld3
namespace Go.Proofs.Ytiffjeclpgcabaa
open Go.RowKit

/-- append(s, ratio) on a slice of ratios of the call's own. -/
theorem wpList_pushRs {ops : Array Oper} {rest : List Oper} {o : Oper} {a : Act} {Q : Exit → Act → World → Prop} {wr : World} {s x : Operand} {B : Nat} {v : Value} {st : List (Int × Int)} {f r : Int}
    (hown : OwnRs wr B v st) (hlen : st.length ≤ 1048576) (hB : B ≤ wr.heap.size) (hgd : o.guard = none := by rfl)
    (ho : o.op = .call { callee := .builtin .append, args := #[s, x], argTypes := #[26, 26] } := by rfl)
    (hs : a.eval s = v := by rfl) (hx : a.eval x = .slice (some ⟨wr.heap.size, 0, none⟩) 1 1 := by rfl)
    (h : ∀ v' w', OwnRs w' B v' (st ++ [(f, r)]) → wr.grownBy w' v.ownBlock → Moved wr v v' → wpList Try.prog ops Q rest (a.put o.dst v') w') :
    wpList Try.prog ops Q (o :: rest) a (wr.alloc (.cells #[.int .i64 f, .int .i64 r] 31)) := by
  obtain ⟨i0, hi, hz0, hz1, hz2⟩ := info_parts infoRatio
  have hbx := IsBoxR.new wr f r
  refine wpList_append_own_at _ hgd s x 26 ho B 31 i0 (.agg #[.int .i64 0, .int .i64 0]) 2 16 Try.underlying26 hi hz0 hz1 hz2 rfl (by decide) v st.length (cellsRs st) hs (World.ownsRow.alloc hown _) ⟨wr.heap.size, 0, none⟩ 1 1 [.int .i64 f, .int .i64 r] hx rfl ?_ (by intro u hu; simp at hu; rcases hu with rfl | rfl <;> rfl) (by unfold maxLen; omega) (by omega) (by simp; omega) ?_
  · intro j u hj
    match j with
    | 0 => simp at hj; subst hj; simp [Addr.add]
    | 1 => simp at hj; subst hj; simp [Addr.add]
    | j + 2 => simp at hj
  · intro v' w' h1 h2 _ h4
    refine h v' w' ?_ ((World.grownBy_alloc wr _ _).trans h2) ?_
    · unfold OwnRs
      rw [cellsRs_append, List.length_append]
      exact h1
    · rcases h4 with h4 | h4
      · exact .inl h4
      · exact .inr ⟨_, h4, by simp⟩

theorem own_litRs (w : World) (B : Nat) (f r : Int) (hB : B ≤ w.heap.size) : OwnRs (w.alloc (.cells #[.int .i64 f, .int .i64 r] 31)) B (slR w.heap.size 1 1) [(f, r)] :=
  World.ownsRow_lit (e := 31) (size := 2) w #[.int .i64 f, .int .i64 r] 1 hB (by unfold maxLen; omega) rfl

theorem own_emptyRs (w : World) (B : Nat) (hB : B ≤ w.heap.size) : OwnRs (w.alloc (.cells #[] 31)) B (slR w.heap.size 0 0) [] :=
  World.ownsRow_lit w #[] 0 hB (by unfold maxLen; omega) rfl

theorem OwnRs.neBlock {w : World} {B R : Nat} {v : Value} {st : List (Int × Int)} (h : OwnRs w B v st) (hR : R < B) : v.ownBlock ≠ some R := fun e => by
  have := (h.lt R e).1
  omega

theorem OwnRs.form {w : World} {B : Nat} {v : Value} {st : List (Int × Int)} (h : OwnRs w B v st) (hl : 0 < st.length) : ∃ g cap, v = slR g st.length cap ∧ B ≤ g ∧ g < w.heap.size := by
  rcases h.2 with ⟨_, hn⟩ | ⟨g, cap, cur, rfl, hg, hh, _⟩
  · omega
  · exact ⟨g, cap, rfl, hg, (Array.getElem?_eq_some_iff.1 hh).1⟩

theorem HasReader.drewR {w : World} {B R : Nat} {a : Option Addr} {q : Nat} (h : HasReader w B R a q) : HasReader w.drew B R a q := by
  obtain ⟨n, cap, p, hr, hp⟩ := h
  exact ⟨n, cap, p, ⟨hr.block, hr.bytes, hr.low, hr.base, hr.len⟩, hp⟩

theorem cellsRs_set1 (st : List (Int × Int)) (j : Nat) (hj : j < st.length) (r : Int) : (cellsRs st).set (j * 2 + 1) (.int .i64 r) = cellsRs (st.set j (rUp st j, r)) := by
  induction st generalizing j with
  | nil => simp at hj
  | cons p st ih =>
    cases j with
    | zero => simp [cellsRs_cons, rUp]
    | succ j =>
      have := ih j (by simpa using hj)
      rw [cellsRs_cons, show (j + 1) * 2 + 1 = j * 2 + 1 + 1 + 1 by omega, List.set_cons_succ, List.set_cons_succ, this, List.set_cons_succ, cellsRs_cons]
      simp [rUp]

theorem OwnRs.setUp {w : World} {B g n cap : Nat} {st : List (Int × Int)} (h : OwnRs w B (slR g n cap) st) (hn : st.length = n) (j : Nat) (hj : j < n) (f : Int) :
    OwnRs (w.setCell ⟨g, j * 2, none⟩ (.int .i64 f)) B (slR g n cap) (st.set j (f, rDn st j)) ∧ w.grownBy (w.setCell ⟨g, j * 2, none⟩ (.int .i64 f)) (some g) := by
  subst hn
  have h1 := World.ownsRow.stored h (j * 2) (.int .i64 f)
  refine ⟨?_, h1.2⟩
  unfold OwnRs
  rw [List.length_set, ← cellsRs_set0 st j hj]
  exact h1.1
theorem OwnRs.setDn {w : World} {B g n cap : Nat} {st : List (Int × Int)} (h : OwnRs w B (slR g n cap) st) (hn : st.length = n) (j : Nat) (hj : j < n) (r : Int) :
    OwnRs (w.setCell ⟨g, j * 2 + 1, none⟩ (.int .i64 r)) B (slR g n cap) (st.set j (rUp st j, r)) ∧ w.grownBy (w.setCell ⟨g, j * 2 + 1, none⟩ (.int .i64 r)) (some g) := by
  subst hn
  have h1 := World.ownsRow.stored h (j * 2 + 1) (.int .i64 r)
  refine ⟨?_, h1.2⟩
  unfold OwnRs
  rw [List.length_set, ← cellsRs_set1 st j hj]
  exact h1.1
theorem OwnRs.atR {w : World} {B g n cap : Nat} {st : List (Int × Int)} (h : OwnRs w B (slR g n cap) st) (hn : st.length = n) (j : Nat) (hj : j < n) :
    (w.cell? ⟨g, j * 2, none⟩ = some (.int .i64 (rUp st j)) ∧ w.cell? ⟨g, j * 2 + 1, none⟩ = some (.int .i64 (rDn st j))) ∧ w.frozen? ⟨g, j * 2, none⟩ = false ∧ w.frozen? ⟨g, j * 2 + 1, none⟩ = false := by
  subst hn
  exact ⟨⟨(World.ownsRow.cellAt h (j * 2) (by omega)).trans (cellsRs_at st j hj).1, (World.ownsRow.cellAt h (j * 2 + 1) (by omega)).trans (cellsRs_at st j hj).2⟩, World.ownsRow.frozenAt h _, World.ownsRow.frozenAt h _⟩

theorem grown_from_drewR {w w' : World} {row : Option Nat} (h : w.drew.grownBy w' row) : w.grownBy w' row := ⟨h.os, h.tape, h.output, h.size, h.block⟩

end Go.Proofs.Ytiffjeclpgcabaa
