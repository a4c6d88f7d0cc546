/- append as a step of a region that draws its order. -/
import Derived.Test.YtbedjebnllimpaaPush
import Derived.Deep.RegionHeld3
import Derived.Deep.AppendLies
namespace Go.Proofs.Ytbedjebnllimpaa
open Go.RowKit

/-- append(s, u...) as a step of a region: u n ints at ad. -/
theorem step_spread {ops : Array Oper} {o : Oper} {a : Act} {K : Act → World → Prop} {Q : Exit → Act → World → Prop} {E : Prop} {wr : World} {s x : Operand} {B n cu : Nat} {v : Value} {xs ys : List Int} {ad : Addr}
    (hown : Own wr B v xs) (hn : ys.length = n) (hu : ∀ j, j < n → wr.cell? (ad.add j) = some (.int .i64 (ys.getD j 0))) (hlen : xs.length + n ≤ 1048576) (hB : B ≤ wr.heap.size)
    (hgd : Region.wanted o (yielded ops a.tmps) = true := by rfl)
    (ho : o.op = .call { callee := .builtin .append, args := #[s, x], argTypes := #[28, 28] } := by rfl)
    (hs : a.eval s = v := by rfl) (hx : a.eval x = .slice (some ad) n cu := by rfl)
    (h : ∀ v' w', Own w' B v' (xs ++ ys) → wr.grownBy w' v.ownBlock → Below B wr w' → K (a.put o.dst v') w') :
    if Region.wanted o (yielded ops a.tmps) = true then Oper.wp Try.prog o a wr K Q else E := by
  subst hn
  obtain ⟨i0, hi, hz0, hz1, hz2⟩ := info_parts infoInt
  have hnews : ∀ j z, (ys.map (Value.int .i64))[j]? = some z → wr.cell? (ad.add j) = some z := by
    intro j z hz
    have hj : j < ys.length := by
      have := (List.getElem?_eq_some_iff.1 hz).1
      simpa using this
    rw [hu j hj]
    simp [List.getD, hj] at hz ⊢
    exact hz
  rw [if_pos hgd]
  obtain ⟨v', w', hr, h2, h3, h4, h5⟩ := run_append_own_at (P := Try.prog) wr B 28 o.type 3 i0 (.int .i64 0) 1 8 Try.underlying28 hi hz0 hz1 hz2 rfl (by decide) v xs.length (xs.map (Value.int .i64)) hown ad ys.length cu (ys.map (Value.int .i64)) (by simp) hnews (by intro z hz; obtain ⟨q, _, rfl⟩ := List.mem_map.1 hz; rfl) (by unfold maxLen; omega) (by omega) hB
  unfold Oper.wp execOp
  simp only [ho, resolve, invoke, builtin, Sem.run_bind, Sem.run_pure, Result.andThen_ok, List.map_toArray, List.map_cons, List.map_nil, hs, hx, hr]
  refine h v' w' ?_ h3 (Own.pushed_below hown h3 hB)
  unfold Own
  rw [List.map_append, List.length_append]
  exact h2

theorem one_cell {W : World} {g : Nat} {y : Int} (h : W.cell? ⟨g, 0, none⟩ = some (.int .i64 y)) : ∀ j, j < 1 → W.cell? ((⟨g, 0, none⟩ : Addr).add j) = some (.int .i64 ([y].getD j 0)) := by
  intro j hj
  have e : j = 0 := by omega
  subst e
  rw [Go.WideShapes.add_plain]
  exact h

theorem own_empty_at {W : World} {B g : Nat} (hg : W.heap[g]? = some (.cells #[] 3 (0, 0))) (hB : B ≤ g) : Own W B (sl g 0 0) [] := by
  refine ⟨rfl, .inr ⟨g, 0, #[], rfl, hB, hg, Nat.le_refl _, by unfold maxLen; omega, rfl, rfl⟩⟩

theorem Own.capLe {w : World} {B n cap : Nat} {a : Option Addr} {xs : List Int} (h : Own w B (.slice a n cap) xs) : n ≤ cap := by
  rcases h.2 with ⟨h0, _⟩ | ⟨g, c, cur, hv, _, _, hl, _⟩
  · simp only [Value.slice.injEq] at h0
    omega
  · simp only [Value.slice.injEq] at hv
    omega

end Go.Proofs.Ytbedjebnllimpaa
