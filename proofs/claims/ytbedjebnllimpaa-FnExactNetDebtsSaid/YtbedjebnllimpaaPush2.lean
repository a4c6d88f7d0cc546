/- append onto a slice of the call's own, where the slice is used again behind it: it still owns its row. -/
import Derived.Test.YtbedjebnllimpaaPush
import Derived.Laws.CopyOwn
namespace Go.Proofs.Ytbedjebnllimpaa
open Go.RowKit

theorem run_push_keep (w : World) (ty : TypeId) {B g n cap : Nat} {xs : List Int} {y : Int} (hown : Own w B (sl g n cap) xs) (hl : xs.length = n) (hn : n ≤ 1048576) (hB : B ≤ w.heap.size) (ad : Addr) (hnew : ∀ j u, [Value.int .i64 y][j]? = some u → w.cell? (ad.add j) = some u) :
    ∃ g' cap' w', (Builtin.append_ #[28, 28] ty #[sl g n cap, .slice (some ad) 1 1]).run Try.prog w = .ok (.slice (some ⟨g', 0, none⟩) (n + 1) cap') w' ∧ Own w' B (sl g' (n + 1) cap') (xs ++ [y]) ∧ Own w' B (sl g n cap) xs ∧ w.grownBy w' (some g) ∧ (g' = g ∧ cap' = cap ∨ g' = w.heap.size) := by
  subst hl
  obtain ⟨i0, hi, hz0, hz1, hz2⟩ := info_parts infoInt
  have h1c : ∀ u ∈ [Value.int .i64 y], u.oneCell' = true := by intro u hu; simp at hu; subst hu; rfl
  obtain ⟨v', w', hr, h2, h3, _, h5⟩ := run_append_own_at (P := Try.prog) w B 28 ty 3 i0 (.int .i64 0) 1 8 Try.underlying28 hi hz0 hz1 hz2 rfl (by decide) (sl g xs.length cap) xs.length (xs.map (Value.int .i64)) hown ad 1 1 [.int .i64 y] rfl hnew h1c (by unfold maxLen; omega) (by omega) hB
  have hown' : Own w' B v' (xs ++ [y]) := by
    unfold Own
    rw [List.map_append, List.length_append]
    exact h2
  rcases hown.2 with ⟨he, _⟩ | ⟨g0, cap0, cur, he, hbg, hg, hnc, hcm, hcs, htake⟩
  · cases he
  · simp only [Value.slice.injEq, Option.some.injEq, Addr.mk.injEq, and_true, true_and] at he
    obtain ⟨rfl, rfl⟩ := he
    rw [Nat.mul_one] at hcs htake
    by_cases hroom : xs.length + 1 ≤ cap
    · have hr2 := run_append_room (P := Try.prog) w 28 ty 3 i0 Try.underlying28 hi g xs.length cap cur hg ad 1 1 [.int .i64 y] (by rw [hz1]; rfl) hnew h1c hroom (by rw [hz1, Nat.mul_one, hcs]; simpa using hroom)
      rw [hr] at hr2
      simp only [Result.ok.injEq] at hr2
      obtain ⟨rfl, rfl⟩ := hr2
      refine ⟨g, cap, _, hr, hown', ⟨hown.1, .inr ⟨g, cap, _, rfl, hbg, setRow_heap w g cur _ _ _ hg, hnc, hcm, ?_, ?_⟩⟩, h3, .inl ⟨rfl, rfl⟩⟩
      · simp only [List.size_toArray, List.length_append, List.length_take, List.length_drop, Array.length_toList, hz1, Nat.mul_one, List.length_cons, List.length_nil]
        omega
      · rw [hz1, Nat.mul_one, htake]
        have hlm : (xs.map (Value.int .i64)).length = xs.length := by simp
        rw [List.append_assoc, ← hlm]
        simp
    · have holds : ∀ j u, (xs.map (Value.int .i64))[j]? = some u → w.cell? ((⟨g, 0, none⟩ : Addr).add j) = some u := World.ownsRow.cells hown (g := g) rfl
      have hr2 := run_append_grow (P := Try.prog) w 28 ty 3 i0 (.int .i64 0) Try.underlying28 hi hz0 ⟨g, 0, none⟩ xs.length cap (xs.map (Value.int .i64)) (by rw [hz1]; simp) holds ad 1 1 [.int .i64 y] (by rw [hz1]; rfl) hnew (by omega) (by omega) (by rw [hz2]; exact growslice_fits (by omega) (by omega))
      rw [hr] at hr2
      simp only [Result.ok.injEq] at hr2
      obtain ⟨rfl, rfl⟩ := hr2
      have hgr : w.grownBy (w.drew.alloc (.cells ((xs.map (Value.int .i64)).toArray ++ [Value.int .i64 y].toArray ++ Builtin.zeroCells (Value.int .i64 0).cells (grownCap w (xs.length + 1) cap 3 - (xs.length + 1))) 3)) none := ⟨rfl, rfl, rfl, by simp, fun k hk _ => heap_alloc_old w.drew _ hk⟩
      exact ⟨w.heap.size, _, _, hr, hown', World.ownsRow.kept hown hgr (by simp [Value.ownBlock]), h3, .inr rfl⟩

/-- 'append(s, y)' at the operation: s still owns its row. -/
theorem wpList_push_keep {ops : Array Oper} {rest : List Oper} {o : Oper} {a : Act} {Q : Exit → Act → World → Prop} {wr : World} {s x : Operand} {B g n cap : Nat} {xs : List Int} {y : Int}
    (hown : Own wr B (sl g n cap) xs) (hl : xs.length = n) (hlen : n ≤ 1048576) (hB : B ≤ wr.heap.size) (hgd : o.guard = none := by rfl)
    (ho : o.op = .call { callee := .builtin .append, args := #[s, x], argTypes := #[28, 28] } := by rfl)
    (hs : a.eval s = sl g n cap := by rfl) (hx : a.eval x = .slice (some ⟨wr.heap.size, 0, none⟩) 1 1 := by rfl)
    (h : ∀ g' cap' w', Own w' B (sl g' (n + 1) cap') (xs ++ [y]) → Own w' B (sl g n cap) xs → wr.grownBy w' (some g) → (g' = g ∧ cap' = cap ∨ wr.heap.size ≤ g') → wpList Try.prog ops Q rest (a.put o.dst (.slice (some ⟨g', 0, none⟩) (n + 1) cap')) w') :
    wpList Try.prog ops Q (o :: rest) a (wr.alloc (.cells #[.int .i64 y] 3)) := by
  refine wpList_plain hgd fun K hK => ?_
  obtain ⟨g', cap', w', hr, h2, h3, h4, h5⟩ := run_push_keep (wr.alloc (.cells #[.int .i64 y] 3)) o.type (World.ownsRow.alloc hown _) hl hlen (by simp; omega) ⟨wr.heap.size, 0, none⟩ (y := y) (cell_one_new _ _ _)
  unfold Oper.wp execOp
  simp only [ho, resolve, invoke, builtin, Sem.run_bind, Sem.run_pure, Result.andThen_ok, List.map_toArray, List.map_cons, List.map_nil, hs, hx, hr]
  refine hK _ _ (h g' cap' w' h2 h3 ((World.grownBy_alloc wr _ _).trans h4) ?_)
  rcases h5 with h5 | h5
  · exact .inl h5
  · exact .inr (by rw [h5]; simp)

/-- Without its last number a slice of the call's own owns the row still. -/
theorem Own.init {w : World} {B g n cap : Nat} {xs : List Int} {y : Int} (h : Own w B (sl g (n + 1) cap) (xs ++ [y])) (hl : xs.length = n) : Own w B (sl g n cap) xs := by
  subst hl
  rcases h.2 with ⟨he, _⟩ | ⟨g0, cap0, cur, he, hbg, hg, hnc, hcm, hcs, htake⟩
  · cases he
  · simp only [Value.slice.injEq, Option.some.injEq, Addr.mk.injEq, and_true] at he
    obtain ⟨rfl, _, rfl⟩ := he
    refine ⟨by simp, .inr ⟨g, cap, cur, rfl, hbg, hg, ?_, hcm, hcs, ?_⟩⟩
    · simp at hnc; omega
    · rw [List.length_append, Nat.mul_one] at htake
      rw [Nat.mul_one]
      have h2 := congrArg (List.take xs.length) htake
      rw [List.take_take, List.map_append] at h2
      have hlm : (xs.map (Value.int .i64)).length = xs.length := by simp
      rw [show min xs.length (xs.length + [y].length) = xs.length by simp] at h2
      rw [h2, ← hlm]
      simp

end Go.Proofs.Ytbedjebnllimpaa
