/- What the frame of a proof tells of a slice of slices of ratios that came in. -/
import Derived.Test.YtiffjeclpgcabaaRaT
import Derived.Test.YtiffjeclpgcabaaRow
import Derived.Deep.Matrix
namespace Go.Proofs.Ytiffjeclpgcabaa
open Go.RowKit

/-- The slice value that came in reads as the rows g, all of them of lengths and numbers that Go knows. -/
def IsRowsR (w : World) (a : Option Addr) (len cap : Nat) (g : List (List (Int × Int))) : Prop :=
  len = g.length ∧ IsGridR w (.slice a g.length cap) g ∧ g.length ≤ 9223372036854775807 ∧ (∀ i, i < g.length → (rowR g i).length ≤ 9223372036854775807) ∧ FitsGR g

theorem isRowsR_of {H : Type} {enc : TypeId × Value → H} {W : World} {base : Nat} {held : Bool} {a : Option Addr} {len cap fuel : Nat} {x : DataW H × List MemPlace}
    (h : DataW.trod enc Try.prog W base (fun _ => true) held fuel 51 (Value.slice a len cap).cells.toList = some x) : ∃ g, IsRowsR W a len cap g := by
  rcases Go.Deep.open_slice1 Try.underlying51 (by kernel_rfl) h with ⟨hcs, _⟩ | ⟨y, l, c, m, n, V, D, Pl, hcs, _, hlm, hm, hmm, _, hx⟩
  · simp [Value.cells] at hcs
    obtain ⟨rfl, rfl, rfl⟩ := hcs
    exact ⟨[], rfl, ⟨none, 0, rfl, fun i hi => by simp at hi⟩, by simp, fun i hi => by simp at hi, fun i hi => by simp at hi⟩
  · simp [Value.cells] at hcs
    obtain ⟨rfl, rfl, rfl⟩ := hcs
    simp at hmm
    unfold maxLen at hm
    have hel : ∀ i, ∃ st : List (Int × Int), i < len → W.cell? (y.add i) = some (V i) ∧ ∃ ar lr cr, V i = .slice ar lr cr ∧ IsRowRs W ar lr cr st := by
      intro i
      by_cases hil : i < len
      · obtain ⟨h1, h2⟩ := hx i (by omega)
        have hsh : ∃ ar lr cr, V i = .slice ar lr cr := by
          rcases Go.Deep.open_slice Try.underlying82 h2 with ⟨e, _⟩ | ⟨y', l', c', _, _, _, _, e, _⟩
          · exact ⟨none, 0, 0, by simpa using e⟩
          · exact ⟨some y', l', c', by simpa using e⟩
        obtain ⟨ar, lr, cr, e⟩ := hsh
        rw [e] at h2
        obtain ⟨st, hst⟩ := isRowRs_of (a := ar) (len := lr) (cap := cr) (by simpa [Value.cells] using h2)
        exact ⟨st, fun _ => ⟨h1, ar, lr, cr, e, hst⟩⟩
      · exact ⟨[], fun h => absurd h hil⟩
    obtain ⟨F, hF⟩ : ∃ F : Nat → List (Int × Int), ∀ i, i < len → W.cell? (y.add i) = some (V i) ∧ ∃ ar lr cr, V i = .slice ar lr cr ∧ IsRowRs W ar lr cr (F i) := ⟨fun i => (hel i).choose, fun i => (hel i).choose_spec⟩
    have hg : ((List.range len).map F).length = len := by simp
    have hrow : ∀ i, i < len → rowR ((List.range len).map F) i = F i := by
      intro i hi
      simp [rowR, List.getD, hi]
    refine ⟨(List.range len).map F, hg.symm, ⟨some y, cap, rfl, fun i hi => ?_⟩, by rw [hg]; omega, fun i hi => ?_, fun i hi => ?_⟩
    · rw [hg] at hi
      obtain ⟨h0, _⟩ := hF 0 (by omega)
      obtain ⟨b, off, rfl⟩ := plain_of_cellR h0
      obtain ⟨h1, ar, lr, cr, e, hl, hrs, _⟩ := hF i hi
      rw [Go.WideShapes.add_plain] at h1
      refine ⟨b, off, V i, rfl, h1, ?_⟩
      rw [hrow i hi, e, hl]
      exact hrs
    · rw [hg] at hi
      obtain ⟨_, ar, lr, cr, e, hl, _, hb, _⟩ := hF i hi
      rw [hrow i hi]
      exact hb
    · rw [hg] at hi
      obtain ⟨_, ar, lr, cr, e, hl, _, _, hf⟩ := hF i hi
      rw [hrow i hi]
      exact hf

end Go.Proofs.Ytiffjeclpgcabaa
