/- append of a payment as a step of a region that draws its order. -/
import Derived.Test.YtbedjebnllimpaaPay
import Derived.Deep.RegionHeld3
import Derived.Deep.AppendLies
namespace Go.Proofs.Ytbedjebnllimpaa
open Go.RowKit

/-- append(s, pay) as a step of a region: the payment lies at ad. -/
theorem step_pushP {ops : Array Oper} {o : Oper} {a : Act} {K : Act → World → Prop} {Q : Exit → Act → World → Prop} {E : Prop} {wr : World} {s x : Operand} {B cu : Nat} {v : Value} {st : List (Int × Int × Int)} {f t am : Int} {ad : Addr}
    (hown : OwnP wr B v st) (h0 : wr.cell? (ad.add 0) = some (.int .i64 f)) (h1 : wr.cell? (ad.add 1) = some (.int .i64 t)) (h2 : wr.cell? (ad.add 2) = some (.int .i64 am)) (hlen : st.length ≤ 1048576) (hB : B ≤ wr.heap.size)
    (hgd : Region.wanted o (yielded ops a.tmps) = true := by rfl)
    (ho : o.op = .call { callee := .builtin .append, args := #[s, x], argTypes := #[34, 34] } := by rfl)
    (hs : a.eval s = v := by rfl) (hx : a.eval x = .slice (some ad) 1 cu := by rfl)
    (h : ∀ v' w', OwnP w' B v' (st ++ [(f, t, am)]) → wr.grownBy w' v.ownBlock → Below B wr w' → K (a.put o.dst v') w') :
    if Region.wanted o (yielded ops a.tmps) = true then Oper.wp Try.prog o a wr K Q else E := by
  obtain ⟨i0, hi, hz0, hz1, hz2⟩ := info_parts infoPay
  have hnews : ∀ j z, ([.int .i64 f, .int .i64 t, .int .i64 am] : List Value)[j]? = some z → wr.cell? (ad.add j) = some z := by
    intro j z hj
    match j with
    | 0 => simp at hj; subst hj; exact h0
    | 1 => simp at hj; subst hj; exact h1
    | 2 => simp at hj; subst hj; exact h2
    | j + 3 => simp at hj
  rw [if_pos hgd]
  obtain ⟨v', w', hr, g2, g3, g4, g5⟩ := run_append_own_at (P := Try.prog) wr B 34 o.type 42 i0 (.agg #[.int .i64 0, .int .i64 0, .int .i64 0]) 3 24 Try.underlying34 hi hz0 hz1 hz2 rfl (by decide) v st.length (cellsP st) hown ad 1 cu [.int .i64 f, .int .i64 t, .int .i64 am] (by simp) hnews (by intro u hu; simp at hu; rcases hu with rfl | rfl | rfl <;> rfl) (by unfold maxLen; omega) (by omega) hB
  unfold Oper.wp execOp
  simp only [ho, resolve, invoke, builtin, Sem.run_bind, Sem.run_pure, Result.andThen_ok, List.map_toArray, List.map_cons, List.map_nil, hs, hx, hr]
  refine h v' w' ?_ g3 (below_grown g3 hB (fun k hk => (hown.lt k hk).1))
  unfold OwnP
  rw [cellsP_append, List.length_append]
  exact g2

end Go.Proofs.Ytbedjebnllimpaa
