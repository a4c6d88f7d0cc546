/- What the frame of a proof tells of a slice of steps that came in. -/
import Derived.Test.YtmeejaafbbabaaaSteps
import Derived.Deep.Slices
import Derived.Deep.Fields
import Derived.ChangeSame
import Derived.ProofKit
import Derived.OpenShut
namespace Go.Proofs.Ytmeejaafbbabaaa
open Go.RowKit Go.ChangeShapes Go.WideShapes

/-- The slice value that came in reads as the steps st, their number and their numbers such as Go knows. -/
def IsRowS (w : World) (a : Option Addr) (len cap : Nat) (st : List (Int × Int)) : Prop :=
  len = st.length ∧ IsSteps w (.slice a st.length cap) st ∧ st.length ≤ 9223372036854775807 ∧ FitsS st

theorem plainAddr_of_cell {w : World} {a : Addr} {u : Value} (h : w.cell? (a.add 0) = some u) : ∃ b off, a = ⟨b, off, none⟩ := by
  obtain ⟨b, off, spot⟩ := a
  have hspot : spot = none := by simpa [Addr.add] using World.cell?_spot h
  subst hspot
  exact ⟨b, off, rfl⟩

/-- One struct of two numbers, read. -/
theorem pair_of {H : Type} {enc : TypeId × Value → H} {w : World} {base fuel : Nat} {spare : Nat → Bool} {held : Bool} {e : TypeId} {f0 f1 : Field} {cs : List Value} {x : DataW H × List MemPlace} (he : Try.prog.underlying e = some (.struct #[f0, f1]))
    (h0 : Try.prog.underlying f0.type = some (.int .i64)) (h1 : Try.prog.underlying f1.type = some (.int .i64)) (hone : Go.Deep.oneCellFields Try.prog #[f0, f1] = true) (hl : cs.length = 2) (h : DataW.trod enc Try.prog w base spare held fuel e cs = some x) :
    ∃ p q : Int, cs = [.int .i64 p, .int .i64 q] ∧ (-9223372036854775808 ≤ p ∧ p ≤ 9223372036854775807) ∧ (-9223372036854775808 ≤ q ∧ q ≤ 9223372036854775807) := by
  match cs, hl with
  | [c0, c1], _ =>
    obtain ⟨ys, n, _, _, _, hyl, hf⟩ := DataW.trod_struct he h
    match ys, hyl with
    | [y0, y1], _ =>
      obtain ⟨o0, k0⟩ := Go.Deep.hone_of hone 0 f0 rfl
      obtain ⟨o1, k1⟩ := Go.Deep.hone_of hone 1 f1 rfl
      have t0 := hf 0 f0 rfl
      have t1 := hf 1 f1 rfl
      rw [o0, k0] at t0
      rw [o1, k1] at t1
      obtain ⟨p, hp, _, wp⟩ := DataW.trod_int h0 (x := y0) (by simpa using t0)
      obtain ⟨q, hq, _, wq⟩ := DataW.trod_int h1 (x := y1) (by simpa using t1)
      simp at hp hq
      exact ⟨p, q, by rw [hp, hq], bounds_i64 wp, bounds_i64 wq⟩

theorem rowS_of {H : Type} {enc : TypeId × Value → H} {W : World} {base : Nat} {held : Bool} {a : Option Addr} {len cap fuel : Nat} {t e : TypeId} {f0 f1 : Field} {x : DataW H × List MemPlace} (ht : Try.prog.underlying t = some (.slice e)) (he : Try.prog.underlying e = some (.struct #[f0, f1]))
    (h0 : Try.prog.underlying f0.type = some (.int .i64)) (h1 : Try.prog.underlying f1.type = some (.int .i64)) (hone : Go.Deep.oneCellFields Try.prog #[f0, f1] = true) (hC : Try.prog.cellsOf e = 2)
    (h : DataW.trod enc Try.prog W base (fun _ => true) held fuel t (Value.slice a len cap).cells.toList = some x) : ∃ st, IsRowS W a len cap st := by
  rcases Go.Deep.open_slice ht h with ⟨hcs, _⟩ | ⟨y, l, c, m, n, D, Pl, hcs, _, hlm, hm, hmm, _, hi⟩
  · simp [Value.cells] at hcs
    obtain ⟨rfl, rfl, rfl⟩ := hcs
    exact ⟨[], rfl, ⟨none, 0, rfl, fun i hi => by simp at hi⟩, by simp, fun i => by simp [frm, rat]⟩
  · simp [Value.cells] at hcs
    obtain ⟨rfl, rfl, rfl⟩ := hcs
    simp at hmm
    unfold maxLen at hm
    have hel : ∀ i, ∃ p : Int × Int, i < len → (W.cell? (y.add (i * 2)) = some (.int .i64 p.1) ∧ W.cell? (y.add (i * 2 + 1)) = some (.int .i64 p.2)) ∧ (-9223372036854775808 ≤ p.1 ∧ p.1 ≤ 9223372036854775807) ∧ (-9223372036854775808 ≤ p.2 ∧ p.2 ≤ 9223372036854775807) := by
      intro i
      by_cases hil : i < len
      · obtain ⟨cs', hc, ht'⟩ := hi i (by omega)
        rw [hC] at hc
        obtain ⟨_, hcl, hat⟩ := World.cells?_some hc
        obtain ⟨p, q, rfl, bp, bq⟩ := pair_of he h0 h1 hone hcl ht'
        refine ⟨(p, q), fun _ => ⟨⟨?_, ?_⟩, bp, bq⟩⟩
        · have := hat 0 (by omega)
          rw [Go.Deep.add_add] at this
          simpa using this
        · have := hat 1 (by omega)
          rw [Go.Deep.add_add] at this
          simpa using this
      · exact ⟨(0, 0), fun h => absurd h hil⟩
    have hS : ∃ F : Nat → Int × Int, ∀ i, i < len → (W.cell? (y.add (i * 2)) = some (.int .i64 (F i).1) ∧ W.cell? (y.add (i * 2 + 1)) = some (.int .i64 (F i).2)) ∧ (-9223372036854775808 ≤ (F i).1 ∧ (F i).1 ≤ 9223372036854775807) ∧ (-9223372036854775808 ≤ (F i).2 ∧ (F i).2 ≤ 9223372036854775807) :=
      ⟨fun i => (hel i).choose, fun i => (hel i).choose_spec⟩
    obtain ⟨F, hF⟩ := hS
    have hlen : ((List.range len).map F).length = len := by simp
    have hfr : ∀ i, i < len → frm ((List.range len).map F) i = (F i).1 ∧ rat ((List.range len).map F) i = (F i).2 := by
      intro i hi
      simp [frm, rat, List.getD, hi]
    refine ⟨(List.range len).map F, hlen.symm, ⟨some y, cap, rfl, fun i hj => ?_⟩, by rw [hlen]; omega, fun i => ?_⟩
    · rw [hlen] at hj
      obtain ⟨⟨c0, c1⟩, _⟩ := hF i hj
      obtain ⟨b, off, rfl⟩ := plainAddr_of_cell (by simpa using (hF 0 (by omega)).1.1)
      rw [(hfr i hj).1, (hfr i hj).2]
      rw [Go.WideShapes.add_plain] at c0 c1
      exact ⟨b, off, rfl, c0, by rw [Nat.add_assoc]; exact c1⟩
    · by_cases hj : i < len
      · obtain ⟨_, h2⟩ := hF i hj
        rw [(hfr i hj).1, (hfr i hj).2]
        exact h2
      · have : frm ((List.range len).map F) i = 0 ∧ rat ((List.range len).map F) i = 0 := by simp [frm, rat, List.getD, hj]
        rw [this.1, this.2]
        omega

theorem isRowS_of {H : Type} {enc : TypeId × Value → H} {W : World} {base : Nat} {held : Bool} {a : Option Addr} {len cap fuel : Nat} {x : DataW H × List MemPlace}
    (h : DataW.trod enc Try.prog W base (fun _ => true) held fuel 42 (Value.slice a len cap).cells.toList = some x) : ∃ st, IsRowS W a len cap st :=
  rowS_of Try.underlying42 Try.underlying61 Try.underlying3 Try.underlying3 (by kernel_rfl) (by kernel_rfl) h

end Go.Proofs.Ytmeejaafbbabaaa
