/- Appending to, reading and writing slices of ints of the call's own: laws for the walks. -/
import Derived.Test.YtfgafbjofkicdaaOwnB
import Derived.Maps.AppendAt
namespace Go.Proofs.Ytfgafbjofkicdaa
open Go.RowKit

/-- The value of a slice of n ints at the head of block g. -/
abbrev sl (g n cap : Nat) : Value := .slice (some ⟨g, 0, none⟩) n cap

theorem own_made {w0 : World} {B g n : Nat} (h : w0.ownsRow B 3 1 (sl g n n) n (madeCells #[Value.int .i64 0] n).toList) :
    Own w0 B (sl g n n) (List.replicate n 0) := by
  rw [toList_madeCells_one] at h
  unfold Own
  rw [List.length_replicate, List.map_replicate]
  exact h

theorem Own.cell {w : World} {B g n cap : Nat} {xs : List Int} (h : Own w B (sl g n cap) xs) (hn : xs.length = n) (j : Nat) (hj : j < n) : w.cell? ⟨g, j, none⟩ = some (.int .i64 (xs.getD j 0)) := by
  subst hn
  rw [World.ownsRow.cellAt h j (by omega)]
  simp [List.getD, hj]

theorem Own.frozen {w : World} {B g n cap : Nat} {xs : List Int} (h : Own w B (sl g n cap) xs) (hn : xs.length = n) (j : Nat) : w.frozen? ⟨g, j, none⟩ = false := by
  subst hn
  exact World.ownsRow.frozenAt h j

theorem Own.set {w : World} {B g n cap : Nat} {xs : List Int} (h : Own w B (sl g n cap) xs) (hn : xs.length = n) (j : Nat) (u : Int) :
    Own (w.setCell ⟨g, j, none⟩ (.int .i64 u)) B (sl g n cap) (xs.set j u) ∧ w.grownBy (w.setCell ⟨g, j, none⟩ (.int .i64 u)) (some g) := by
  subst hn
  have := World.ownsRow.stored h j (.int .i64 u)
  refine ⟨?_, this.2⟩
  unfold Own
  rw [List.length_set, List.map_set]
  exact this.1

theorem Own.baseLe {w : World} {B g n cap : Nat} {xs : List Int} (h : Own w B (sl g n cap) xs) : B ≤ g ∧ g < w.heap.size := h.lt g rfl

/-- []int{} -/
theorem own_empty (w : World) (B : Nat) (hB : B ≤ w.heap.size) : Own (w.alloc (.cells #[] 3)) B (sl w.heap.size 0 0) [] :=
  World.ownsRow_lit w #[] 0 hB (by unfold maxLen; omega) rfl

/-- What an append does to a slice: where the new one lies. -/
def Moved (w : World) (v v' : Value) : Prop := v'.ownBlock = v.ownBlock ∨ ∃ k, v'.ownBlock = some k ∧ w.heap.size ≤ k

/-- Two slices do not lie in one block. -/
def Apart (u v : Value) : Prop := u.ownBlock = none ∨ u.ownBlock ≠ v.ownBlock

theorem Apart.symm {u v : Value} (h : Apart u v) : Apart v u := by
  rcases h with h | h
  · by_cases hv : v.ownBlock = none
    · exact .inl hv
    · exact .inr (by rw [h]; exact hv)
  · exact .inr (fun e => h e.symm)

theorem Apart.moved {w : World} {B : Nat} {u v v' : Value} {us : List Int} (h : Apart u v) (hm : Moved w v v') (ho : Own w B u us) : Apart u v' := by
  by_cases hu : u.ownBlock = none
  · exact .inl hu
  · refine .inr fun e => ?_
    rcases h with h | h
    · exact hu h
    · rcases hm with hm | ⟨k, hm, hk⟩
      · exact h (e.trans hm)
      · have := (ho.lt k (e.trans hm)).2
        omega

theorem Own.pushed_below {w w' : World} {B : Nat} {v : Value} {xs : List Int} (h : Own w B v xs) (hg : w.grownBy w' v.ownBlock) (hB : B ≤ w.heap.size) : Below B w w' :=
  below_grown hg hB (fun k hk => (h.lt k hk).1)

/-- append(s, y) on a slice of the call's own: 'refine wpList_push hown hlen hB (h := ?_)'. -/
theorem wpList_push {ops : Array Oper} {rest : List Oper} {o : Oper} {a : Act} {Q : Exit → Act → World → Prop} {wr : World} {s x : Operand} {B : Nat} {v : Value} {xs : List Int} {y : Int}
    (hown : Own wr B v xs) (hlen : xs.length ≤ 1048576) (hB : B ≤ wr.heap.size) (hgd : o.guard = none := by rfl)
    (ho : o.op = .call { callee := .builtin .append, args := #[s, x], argTypes := #[33, 33] } := by rfl)
    (hs : a.eval s = v := by rfl) (hx : a.eval x = .slice (some ⟨wr.heap.size, 0, none⟩) 1 1 := by rfl)
    (h : ∀ v' w', Own w' B v' (xs ++ [y]) → wr.grownBy w' v.ownBlock → Moved wr v v' → wpList Try.prog ops Q rest (a.put o.dst v') w') :
    wpList Try.prog ops Q (o :: rest) a (wr.alloc (.cells #[.int .i64 y] 3)) := by
  obtain ⟨i0, hi, hz0, hz1, hz2⟩ := info_parts infoInt
  refine wpList_append_own_at _ hgd s x 33 ho B 3 i0 (.int .i64 0) 1 8 Try.underlying33 hi hz0 hz1 hz2 rfl (by decide) v xs.length (xs.map (Value.int .i64)) hs (World.ownsRow.alloc hown _) ⟨wr.heap.size, 0, none⟩ 1 1 [.int .i64 y] hx rfl (cell_one_new _ _ _) (by intro u hu; simp at hu; subst hu; rfl) (by unfold maxLen; omega) (by omega) (by simp; omega) ?_
  intro v' w' h1 h2 _ h4
  refine h v' w' ?_ ((World.grownBy_alloc wr _ _).trans h2) ?_
  · unfold Own
    rw [List.map_append, List.length_append]
    exact h1
  · rcases h4 with h4 | h4
    · exact .inl h4
    · exact .inr ⟨_, h4, by simp⟩

end Go.Proofs.Ytfgafbjofkicdaa
