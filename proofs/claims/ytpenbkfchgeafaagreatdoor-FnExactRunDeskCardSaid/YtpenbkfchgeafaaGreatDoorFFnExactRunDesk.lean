/- Proved: the statement 'FnExactRunDeskCardSaid': the Go law FnExactRunDesk of the program at this seat's commit answers true at every argument, and each argument reads afterwards as it read before; the package variables that it lists hold what the program's own text lays in them. -/
import Derived.Test.YtpenbkfchgeafaaGreatDoorQDry
import Derived.Test.YtpenbkfchgeafaaGreatDoorQDfc
import Derived.Test.YtpenbkfchgeafaaGreatDoorCards
import Derived.Test.YtpenbkfchgeafaaGreatDoorTie
import Derived.Conc.Holds
import Derived.Conc.LeavingOf
import Derived.OpenShut
import Derived.ChangeOld
import Derived.Carry
import Derived.WalkKit
namespace Go.Proofs.YtpenbkfchgeafaaGreatDoor.fnExactRunDesk
open Go.ChangeShapes Go.WideShapes Go.ChangeAt Go.RowKit
set_option linter.unusedVariables false

theorem strs_of {W : World} (x : Addr) (l c : Nat) (ss : List ByteArray) (hl : l ≤ c) (hm : c ≤ maxLen) (hz : ss.length = c) (hcell : ∀ i, i < ss.length → W.cell? (x.add i) = some (.string (ss.getD i ByteArray.empty))) (hwz : ∀ s ∈ ss, s.size ≤ maxLen) :
    ∃ ps, IsStrs W (.slice (some x) l c) ps ∧ ps.length ≤ 9223372036854775807 ∧ ∀ k, k < ps.length → (ps.getD k ByteArray.empty).size ≤ 9223372036854775807 := by
  have ht : (ss.take l).length = l := by rw [List.length_take]; omega
  have hg : ∀ j, j < l → (ss.take l).getD j ByteArray.empty = ss.getD j ByteArray.empty := fun j hj => by simp [List.getD, hj]
  unfold maxLen at hm
  refine ⟨ss.take l, ⟨some x, c, by rw [ht], fun j hj => ?_⟩, by omega, fun k hk => ?_⟩
  · rw [ht] at hj
    obtain ⟨b, off, spot⟩ := x
    have hj0 : 0 < ss.length := by omega
    have hspot : spot = none := by simpa [Addr.add] using World.cell?_spot (hcell 0 hj0)
    subst hspot
    exact ⟨b, off, rfl, by rw [hg j hj, ← Go.WideShapes.add_plain]; exact hcell j (by omega)⟩
  · rw [ht] at hk
    rw [hg k hk]
    have h2 : k < ss.length := by omega
    have := hwz (ss.getD k ByteArray.empty) (by simp [List.getD, h2])
    unfold maxLen at this
    omega

/-! The walk, out of the contracts. -/
theorem walk (ps : List ByteArray) (a0 : Option Addr) (len0 cap0 : Nat) (w : World) (w0 : IsStrs w (.slice a0 len0 cap0) ps) (hl : ps.length ≤ 9223372036854775807) (hs : ∀ k, k < ps.length → (ps.getD k ByteArray.empty).size ≤ 9223372036854775807) (hL : LaidW w) :
    ∃ M last o w' t', runNT Tryz.prog (M + 1) (Conc.solo (Conc.G (Frame.enter Tryz.prog 4 #[.slice a0 len0 cap0] .normal) []) w) #[] = (.ended o w', t') ∧ runN Tryz.prog M (Conc.solo (Conc.G (Frame.enter Tryz.prog 4 #[.slice a0 len0 cap0] .normal) []) w) = .next last ∧
      step Tryz.prog last = .ended o w' ∧ Conc.Good Tryz.prog (fun v w' => v = .bool true ∧ Below w.heap.size w w') last o w' t' := by
  obtain ⟨M, last, o, w', t', r1, r2, r3, r4⟩ := run_of_B (FnExactRunDesk_B _ ps w w0 hl hs hL) (fun v w τ d h => ⟨h.1, h.2.on τ d⟩) Tryz.func4 rfl (by kernel_rfl)
  exact ⟨M, last, o, w', t', r1, r2, r3, r4.mono fun v h => ⟨h.1.1, h.1.2.below h.2⟩⟩

/-! The row's step. -/
set_option maxRecDepth 100000 in
theorem lifted (os : Os) (started : os.Started) (H : Type) (enc : TypeId × Value → H) :
    ReturnsInLeavingWide {} Tryz.checked os 4 .any (fun w args => (Rows.fnExactRunDeskSpec.pre enc Tryz.prog Tryz.f4 Rows.fnExactRunDeskRow.domain false w args ∧ laidMetH Tryz.prog Rows.fnExactRunDeskRow.laid w) ∧ sizedMet enc Tryz.prog Tryz.f4 (OpenSpec.ofChange Rows.fnExactRunDeskSpec) false w args) (Rows.fnExactRunDeskSpec.post enc Tryz.prog Tryz.f4 false true false false) := by
  refine returnsInLeavingWide_of_change_and (C := Tryz.checked) (X := fun w _ => laidMetH Tryz.prog Rows.fnExactRunDeskRow.laid w) (fun _ _ _ hh h => h.of_heap hh) ownKnob_none started Tryz.func4
    (ChangeSpec.witness_shaped (enc := enc) (C := Tryz.checked) (os := os) (X := fun w _ => laidMetH Tryz.prog Rows.fnExactRunDeskRow.laid w) false (laidWorld os) #[.slice none 0 0] 8 (laidWorld_os os)
      (World.shaped_of_ZipB (by kernel_rfl) (by kernel_rfl)) (by kernel_rfl) (by kernel_rfl) (by kernel_rfl) (laidWorld_met os _)) ?_
  intro W base args ds gs before hsh hval0 hW hcnd _ hL _
  have hval : ∀ (j : Nat) t v, Tryz.f4.params[j]? = some t → args[j]? = some v → Value.okWide Tryz.prog W .any base t v := hval0
  have hW' := hW
  obtain ⟨p, q, hA0, hV, rfl, hfz, hnd⟩ := hW
  have hA : DataW.TrodAll enc Tryz.prog W 0 (fun _ => true) true Tryz.f4.params.toList args.toList ds p := hA0
  rw [Tryz.params4] at hA hval
  obtain ⟨v0, vs0, d0, ds0, p0, q0, hargs, rfl, rfl, h0, r0⟩ := trodAll_cons hA
  obtain ⟨rfl, rfl, rfl⟩ := trodAll_nil r0
  obtain rfl : args = #[v0] := by cases args; simp_all
  obtain ⟨g0, t0, cs0, f0, e0, y0, g1, t1, cs1, f1, e1, y1, rfl, _⟩ := trodVars_two hV
  obtain ⟨a0, len0, cap0, rfl⟩ := okWide_slice Tryz.underlying23 (hval 0 23 v0 rfl rfl)
  have k0 := h0
  have lt0 : ∀ x ∈ p0, x.block < W.heap.size := by obtain ⟨m, hm⟩ := k0; exact DataW.trod_lt m _ _ _ hm
  obtain ⟨ps, w0, hl0, hs0⟩ : ∃ ps, IsStrs W (.slice a0 len0 cap0) ps ∧ ps.length ≤ 9223372036854775807 ∧ ∀ k, k < ps.length → (ps.getD k ByteArray.empty).size ≤ 9223372036854775807 := by
    obtain ⟨fuel, hf⟩ := h0
    rcases open_strings Tryz.underlying23 Tryz.underlying9 cells_s hf with ⟨hcs, _⟩ | ⟨x, l, c, ss, hcs, _, hl, hm, hz, _, hcell, hwz⟩
    · simp [Value.cells] at hcs
      obtain ⟨rfl, rfl, rfl⟩ := hcs
      exact ⟨[], ⟨none, 0, rfl, fun j hj => by simp at hj⟩, by simp, fun k hk => by simp at hk⟩
    · simp [Value.cells] at hcs
      obtain ⟨rfl, rfl, rfl⟩ := hcs
      exact strs_of x _ _ ss hl hm (by simpa using hz) hcell hwz
  clear hA0 hval0
  obtain ⟨M, last, o, w', t', r1, r2, r3, r4⟩ := walk ps a0 len0 cap0 W w0 hl0 hs0 (laidW_of hL hsh)
  refine ⟨M, last, o, w', t', r1, r2, r3, r4.mono fun v hF => ?_⟩
  obtain ⟨rfl, bel⟩ := hF
  exact ⟨_, _, _, [], _, _, hW', trodAll_mk1 (shut_bool Tryz.underlying4 _), (trodAll_cons_mk (Below.trod laidOut_prog (by kernel_rfl) (of_decide_eq_true (by kernel_rfl)) k0 bel lt0) trodAll_mk0), Below.trodVars laidOut_prog bel (by kernel_rfl) hV, bel.frame _, fun h => by cases h⟩

theorem closed : joinedFacts Tryz.prog 4 Tryz.f4 Rows.fnExactRunDeskSpec Rows.fnExactRunDeskRow = true := by kernel_rfl

theorem over : Rows.FnExactRunDeskSaid :=
  OpenClaim.holds_of_wide_leaving 4 Tryz.f4 rfl rfl rfl rfl rfl rfl rfl ⟨rfl, rfl, rfl, rfl, rfl⟩ rfl rfl rfl rfl rfl (by kernel_rfl) Tryz.func4 closed
    (of_decide_eq_true (by kernel_rfl)) (by unfold Func.isWrapper; first | (rw [if_pos (by decide +kernel)]; kernel_rfl) | (rw [if_neg (by decide +kernel)]; exact ⟨rfl, rfl⟩))
    (fun os started H enc _ => lifted os started H enc)

/-- The statement. -/
theorem proved : Rows.FnExactRunDeskCardSaid :=
  holds_tied_goes .later [.data, .data, .data, .data, .handle, .sentinel, .sentinel, .data, .sentinel, .pinned] true (true, "e28c1574d0b76af8ad5fe072653bace53acd37700d04e9f60520117bf42e2af4") true over (by kernel_rfl) fnExactRunDesk_row_tie rfl ⟨rfl, rfl⟩ (by kernel_rfl) rfl
    (fun f fn hf hfn => by
      obtain rfl : f = 4 := Option.some.inj ((show Tryz.prog.funcNamed Rows.fnExactRunDeskRow.func = some 4 by kernel_rfl).symm.trans hf) |>.symm
      obtain rfl : fn = Tryz.f4 := (Option.some.inj (Tryz.func4.symm.trans hfn)).symm
      exact ⟨by kernel_rfl, fun j t ht => by
        rw [Tryz.params4] at ht
        have hm : t ∈ [23] := by simpa using Array.mem_of_getElem? ht
        have hall : ([23].all fun u => !Tryz.prog.wantsStandIn u) = true := by kernel_rfl
        exact (show Tryz.prog.wantsStandIn t = false by simpa using List.all_eq_true.1 hall t hm)⟩)
    (by kernel_rfl)
#print axioms proved
end Go.Proofs.YtpenbkfchgeafaaGreatDoor.fnExactRunDesk
