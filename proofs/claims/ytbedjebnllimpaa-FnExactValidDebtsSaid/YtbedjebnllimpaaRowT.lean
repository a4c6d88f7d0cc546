/- What the frame of a proof tells of a slice of slices of integers that came in. -/
import Derived.Test.YtbedjebnllimpaaTK
import Derived.Test.YtbedjebnllimpaaRow
import Derived.Deep.Matrix
import Derived.ProofKit
import Derived.OpenShut
namespace Go.Proofs.Ytbedjebnllimpaa
open Go.RowKit

/-- The slice value that came in reads as the rows g, all of them of lengths and numbers that Go knows. -/
def IsRows (w : World) (a : Option Addr) (len cap : Nat) (g : List (List Int)) : Prop :=
  len = g.length ∧ IsGrid w (.slice a g.length cap) g ∧ g.length ≤ 9223372036854775807 ∧ (∀ i, i < g.length → (rowOf g i).length ≤ 9223372036854775807) ∧ FitsG g

theorem plain_of_cell {w : World} {a : Addr} {u : Value} (h : w.cell? (a.add 0) = some u) : ∃ b off, a = ⟨b, off, none⟩ := by
  obtain ⟨b, off, spot⟩ := a
  have hspot : spot = none := by simpa [Addr.add] using World.cell?_spot h
  subst hspot
  exact ⟨b, off, rfl⟩

theorem isRows_of {H : Type} {enc : TypeId × Value → H} {W : World} {base : Nat} {held : Bool} {a : Option Addr} {len cap fuel : Nat} {x : DataW H × List MemPlace}
    (h : DataW.trod enc Try.prog W base (fun _ => true) held fuel 23 (Value.slice a len cap).cells.toList = some x) : ∃ g, IsRows W a len cap g := by
  rcases Go.Deep.open_int_rows Try.underlying23 Try.underlying28 Try.underlying3 (by kernel_rfl) (by kernel_rfl) h with ⟨hcs, _⟩ | ⟨y, l, c, A, L, C, Z, hcs, _, hl, hm, _, hrows⟩
  · simp [Value.cells] at hcs
    obtain ⟨rfl, rfl, rfl⟩ := hcs
    exact ⟨[], rfl, ⟨none, 0, rfl, fun i hi => by simp at hi⟩, by simp, fun i hi => by simp at hi, fun i k hi => by simp at hi⟩
  · simp [Value.cells] at hcs
    obtain ⟨rfl, rfl, rfl⟩ := hcs
    have hg : ((List.range len).map fun r => (Z r).take (L r)).length = len := by simp
    have hrow : ∀ i, i < len → rowOf ((List.range len).map fun r => (Z r).take (L r)) i = (Z i).take (L i) := by
      intro i hi
      simp [rowOf, List.getD, hi]
    have hlen : ∀ i, i < len → ((Z i).take (L i)).length = L i := by
      intro i hi
      obtain ⟨_, h1, _, h2, _⟩ := hrows i (by omega)
      rw [List.length_take]; omega
    unfold maxLen at hm
    refine ⟨(List.range len).map fun r => (Z r).take (L r), hg.symm, ?_, by rw [hg]; omega, fun i hi => ?_, fun i k hi hk => ?_⟩
    · refine ⟨some y, cap, rfl, fun i hi => ?_⟩
      rw [hg] at hi
      obtain ⟨b, off, rfl⟩ := plain_of_cell (hrows 0 (by omega)).1
      obtain ⟨h0, h1, h2, h3, h4, h5, h6⟩ := hrows i (by omega)
      refine ⟨b, off, _, rfl, by rw [← Go.WideShapes.add_plain]; exact h0, ?_⟩
      rw [hrow i hi]
      refine ⟨A i, C i, by rw [hlen i hi], fun k hk => ?_⟩
      rw [hlen i hi] at hk
      cases hA : A i with
      | none => have := h5 hA; omega
      | some a' =>
        obtain ⟨_, hc⟩ := h6 a' hA
        obtain ⟨br, fr, rfl⟩ := plain_of_cell (hc 0 (by omega))
        refine ⟨br, fr, rfl, ?_⟩
        have e : ((Z i).take (L i)).getD k 0 = (Z i).getD k 0 := by
          rw [List.getD_eq_getElem?_getD, List.getD_eq_getElem?_getD, List.getElem?_take, if_pos hk]
        rw [e, ← Go.WideShapes.add_plain]
        exact hc k (by omega)
    · rw [hg] at hi
      obtain ⟨h0, h1, h2, h3, h4, h5, h6⟩ := hrows i (by omega)
      unfold maxLen at h2
      rw [hrow i hi, hlen i hi]
      omega
    · rw [hg] at hi
      obtain ⟨h0, h1, h2, h3, h4, h5, h6⟩ := hrows i (by omega)
      unfold cellOf
      rw [hrow i hi] at hk ⊢
      refine wf_i64_bounds (h4 _ ?_)
      rw [show ((Z i).take (L i)).getD k 0 = ((Z i).take (L i))[k] by rw [List.getD_eq_getElem?_getD, List.getElem?_eq_getElem hk]; rfl]
      exact List.mem_of_mem_take (List.getElem_mem hk)

end Go.Proofs.Ytbedjebnllimpaa
