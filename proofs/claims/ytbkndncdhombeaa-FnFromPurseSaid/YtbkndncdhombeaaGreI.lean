/- GreedyCoins, the program's contract. -/
import Derived.Test.YtbkndncdhombeaaGstM
import Derived.Test.YtbkndncdhombeaaCoinI
import Derived.RegionIn
import Derived.RangeFuncBox
import Derived.Laws.EntriesVeiled
namespace Go.Proofs.Ytbkndncdhombeaa
open Go.RowKit Go.Shelf
attribute [local go_sem] Oper.semAt_some

theorem Own.own {W W' : World} {B g n c : Nat} {xs : List Int} {row : Option Nat} (h : Go.Proofs.Ytbkndncdhombeaa.Own W B (sl g n c) xs) (hn : 1 ≤ n) (hx : xs.length = n) (hg : W.grownBy W' row) (hr : ∀ r, row = some r → ∃ o : Obj, W.heap[r]? = some o ∧ o.isCells = false) : Go.Proofs.Ytbkndncdhombeaa.Own W' B (sl g n c) xs := by
  refine h.kept hg (.inr ?_)
  intro e
  obtain ⟨o, ho, hc⟩ := hr g (by rw [← e]; rfl)
  rcases h.2 with ⟨_, h0⟩ | ⟨g', cap, cur, hv, _, hh, _⟩
  · omega
  · simp only [Value.slice.injEq, Option.some.injEq, Addr.mk.injEq, and_true] at hv
    rw [← hv.1, ho] at hh
    obtain rfl : o = _ := Option.some.inj hh
    cases hc

theorem Bx.otherAt {W : World} {b : Nat} {v : Value} (h : Bx W b v) (p : Addr) (hne : b ≠ p.block) (u : Value) : Bx (W.setCell p u) b v :=
  ⟨(World.cell?_setCell_other _ _ _ _ (by intro e; exact hne (by rw [e]))).trans h.1, by rw [World.frozen?_setCell]; exact h.2⟩

theorem Rd.setAt {n0 g : Nat} {v : Value} {xs : List Int} {W : World} (h : Rd n0 g v xs W) (p : Addr) (hc0 : n0 ≤ p.block) (hcg : g ≠ p.block) (u : Value) : Rd n0 g v xs (W.setCell p u) := by
  refine ⟨(World.cell?_setCell_other _ _ _ _ (by intro e; exact hcg (by rw [e]))).trans h.1, ?_⟩
  obtain ⟨a, cap, e, hc⟩ := h.2
  refine ⟨a, cap, e, fun j hj => ?_⟩
  obtain ⟨b, off, ha, hl, hcell⟩ := hc j hj
  exact ⟨b, off, ha, hl, (World.cell?_setCell_other _ _ _ _ (by intro e; rw [e] at hc0; simp at hc0; omega)).trans hcell⟩

theorem greL_no {cs : List Int} {a : Int} (h : cGre cs a = false) : greL cs a = [] := by unfold greL; rw [h]; rfl

end Go.Proofs.Ytbkndncdhombeaa
