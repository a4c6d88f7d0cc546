/- Appending in a guarded operation, and appending a whole list. -/
import Derived.Test.YtbedjebnllimpaaPush
namespace Go.Proofs.Ytbedjebnllimpaa
open Go.RowKit

/-- append(s, u...) where the operation is wanted, guarded or not: 'refine wpList_spread hown hu hlen hB (h := ?_)'. -/
theorem wpList_spread {ops : Array Oper} {rest : List Oper} {o : Oper} {a : Act} {Q : Exit → Act → World → Prop} {wr : World} {s x : Operand} {B : Nat} {v u : Value} {xs ys : List Int}
    (hown : Own wr B v xs) (hu : IsInts wr u ys) (hy : 0 < ys.length) (hlen : xs.length + ys.length ≤ 1048576) (hB : B ≤ wr.heap.size)
    (hgd : Region.wanted o (yielded ops a.tmps) = true := by rfl)
    (ho : o.op = .call { callee := .builtin .append, args := #[s, x], argTypes := #[28, 28] } := by rfl)
    (hs : a.eval s = v := by rfl) (hx : a.eval x = u := by rfl)
    (h : ∀ v' w', Own w' B v' (xs ++ ys) → wr.grownBy w' v.ownBlock → Moved wr v v' → wpList Try.prog ops Q rest (a.put o.dst v') w') :
    wpList Try.prog ops Q (o :: rest) a wr := by
  obtain ⟨i0, hi, hz0, hz1, hz2⟩ := info_parts infoInt
  obtain ⟨au, cu, rfl, hc⟩ := hu
  obtain ⟨b, off, rfl, _⟩ := hc 0 hy
  have hnews : ∀ j z, (ys.map (Value.int .i64))[j]? = some z → wr.cell? ((⟨b, off, none⟩ : Addr).add j) = some z := by
    intro j z hz
    have hj : j < ys.length := by
      have := (List.getElem?_eq_some_iff.1 hz).1
      simpa using this
    obtain ⟨b2, off2, e, hcell⟩ := hc j hj
    simp only [Option.some.injEq, Addr.mk.injEq, and_true] at e
    obtain ⟨rfl, rfl⟩ := e
    rw [Go.WideShapes.add_plain, hcell]
    simp [List.getD, hj] at hz ⊢
    exact hz
  refine wpList_step fun K hK => ?_
  rw [if_pos hgd]
  obtain ⟨v', w', hr, h2, h3, h4, h5⟩ := run_append_own_at (P := Try.prog) wr B 28 o.type 3 i0 (.int .i64 0) 1 8 Try.underlying28 hi hz0 hz1 hz2 rfl (by decide) v xs.length (xs.map (Value.int .i64)) hown ⟨b, off, none⟩ ys.length cu (ys.map (Value.int .i64)) (by simp) hnews (by intro z hz; obtain ⟨q, _, rfl⟩ := List.mem_map.1 hz; rfl) (by unfold maxLen; omega) (by omega) hB
  unfold Oper.wp execOp
  simp only [ho, resolve, invoke, builtin, Sem.run_bind, Sem.run_pure, Result.andThen_ok, List.map_toArray, List.map_cons, List.map_nil, hs, hx, hr]
  refine hK _ _ (h v' w' ?_ h3 ?_)
  · unfold Own
    rw [List.map_append, List.length_append]
    exact h2
  · rcases h5 with h5 | h5
    · exact .inl h5
    · exact .inr ⟨_, h5, Nat.le_refl _⟩

/-- append(s, y) where the operation is wanted, guarded or not. -/
theorem wpList_pushG {ops : Array Oper} {rest : List Oper} {o : Oper} {a : Act} {Q : Exit → Act → World → Prop} {wr : World} {s x : Operand} {B g : Nat} {v : Value} {xs : List Int} {y : Int}
    (hown : Own wr B v xs) (hlen : xs.length ≤ 1048575) (hB : B ≤ wr.heap.size) (hg : g = wr.heap.size)
    (hgd : Region.wanted o (yielded ops a.tmps) = true := by rfl)
    (ho : o.op = .call { callee := .builtin .append, args := #[s, x], argTypes := #[28, 28] } := by rfl)
    (hs : a.eval s = v := by rfl) (hx : a.eval x = .slice (some ⟨g, 0, none⟩) 1 1 := by rfl)
    (h : ∀ v' w', Own w' B v' (xs ++ [y]) → wr.grownBy w' v.ownBlock → Moved wr v v' → wpList Try.prog ops Q rest (a.put o.dst v') w') :
    wpList Try.prog ops Q (o :: rest) a (wr.alloc (.cells #[.int .i64 y] 3)) := by
  subst hg
  have hb : Below wr.heap.size wr (wr.alloc (.cells #[.int .i64 y] 3)) := (Below.refl _ _).alloc (Nat.le_refl _) _
  have hu : IsInts (wr.alloc (.cells #[.int .i64 y] 3)) (.slice (some ⟨wr.heap.size, 0, none⟩) 1 1) [y] := by
    have h1 := World.ownsRow_lit (e := 3) (size := 1) wr #[.int .i64 y] 1 (Nat.le_refl _) (by unfold maxLen; omega) rfl
    exact Own.ints (B := wr.heap.size) (xs := [y]) h1
  refine wpList_spread (hown.below hb) hu (by simp) (by simp; omega) (Nat.le_trans hB hb.size) hgd ho hs hx (fun v' w' h1 h2 h3 => h v' w' h1 ((World.grownBy_alloc wr _ _).trans h2) ?_)
  rcases h3 with h3 | ⟨k, h3, hk⟩
  · exact .inl h3
  · exact .inr ⟨k, h3, Nat.le_trans hb.size hk⟩

end Go.Proofs.Ytbedjebnllimpaa
