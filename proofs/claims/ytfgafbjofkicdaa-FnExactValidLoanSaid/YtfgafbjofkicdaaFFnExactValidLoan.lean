/- Proved: the statement 'FnExactValidLoanSaid': the Go law FnExactValidLoan of the program at this seat's commit answers true at every argument, and each argument reads afterwards as it read before. -/
import Derived.Test.YtfgafbjofkicdaaRows
import Derived.Lib.SmallJoins
import Derived.Test.YtfgafbjofkicdaaELoanA
import Derived.Test.YtfgafbjofkicdaaFacts
import Derived.JoinedOf
import Derived.Test.YtfgafbjofkicdaaRow
import Derived.WalkKit
import Derived.ProofKit
import Derived.OpenShut
import Derived.ShutString
namespace Go.Proofs.Ytfgafbjofkicdaa.fnExactValidLoan
open Go.Joins Go.ChangeShapes Go.WideShapes Go.ChangeAt Go.RowKit
open Go.ChangeMaps (open_string shut_string)
set_option linter.unusedVariables false      -- a walk need not use every 'w<i>' (that an integer argument fits its kind)

theorem cells45 : Try.prog.cellsOf 45 = 4 := by kernel_rfl
theorem own : ownKnob Try.prog.godebug = none := by kernel_rfl

/-! The walk, out of the contracts. -/
theorem walk (f0a f0b f0c f0d : Int) (w : World) :
    Calls Try.prog 11 #[.agg #[.int .i64 f0a, .int .i64 f0b, .int .i64 f0c, .int .i64 f0d]] w fun e w' => e = .returned (.bool true) ∧ Below w.heap.size w w' := by
  exact FnExactValidLoan_walk f0a f0b f0c f0d w 

theorem trodI {H : Type} {enc : TypeId × Value → H} {W : World} {base : Nat} {sp : Nat → Bool} {held : Bool} {n : Int} (h : (Lit.int .i64 n).wf = true) : DataW.trod enc Try.prog W base sp held 1 3 [.int .i64 n] = some (.lit (.int .i64 n), []) := by simp [DataW.trod, Try.underlying3, h]

/-! The row's step. -/
set_option maxRecDepth 100000 in
theorem lifted (os : Os) (started : os.Started) (H : Type) (enc : TypeId × Value → H) :
    ReturnsInHanded {} Try.checked os 11 .any (Rows.fnExactValidLoanSpec.pre6 enc Try.prog Try.f11 Rows.fnExactValidLoanRow.domain false) (Rows.fnExactValidLoanSpec.post enc Try.prog Try.f11 false true false false) := by
  refine returnsInHanded_of_change (C := Try.checked) own started (by kernel_rfl) Try.func11
    (ChangeSpec.witness6 (enc := enc) (C := Try.checked) false ⟨#[], #[.agg #[.int .i64 0, .int .i64 0, .int .i64 0, .int .i64 0]], []⟩ 8 (by kernel_rfl) (by kernel_rfl) (by kernel_rfl) (by kernel_rfl)) ?_
  intro W base args ds gs before hval0 hW hcnd _
  have hval : ∀ (j : Nat) t v, Try.f11.params[j]? = some t → args[j]? = some v → Value.okWide Try.prog W .any base t v := hval0
  have hW' := hW
  obtain ⟨p, q, hA0, hV, rfl, hfz, hnd⟩ := hW
  have hA : DataW.TrodAll enc Try.prog W 0 (fun _ => true) true Try.f11.params.toList args.toList ds p := hA0
  rw [Try.params11] at hA hval
  obtain ⟨v0, vs0, d0, ds0, p0, q0, hargs, rfl, rfl, h0, r0⟩ := trodAll_cons hA
  obtain ⟨rfl, rfl, rfl⟩ := trodAll_nil r0
  obtain rfl : args = #[v0] := by cases args; simp_all
  obtain ⟨rfl, rfl⟩ := trodVars_none hV
  obtain ⟨s0a, s0b, s0c, s0d, y0a, y0b, y0c, y0d, m0, rfl, rfl, rfl, hy0a, hy0b, hy0c, hy0d⟩ := open_agg4 Try.underlying45 (by kernel_rfl) cells45 (hval 0 45 v0 rfl rfl) h0
  obtain ⟨f0a, e0a, rfl, wf0a⟩ := DataW.trod_int Try.underlying3 hy0a
  obtain ⟨f0b, e0b, rfl, wf0b⟩ := DataW.trod_int Try.underlying3 hy0b
  obtain ⟨f0c, e0c, rfl, wf0c⟩ := DataW.trod_int Try.underlying3 hy0c
  obtain ⟨f0d, e0d, rfl, wf0d⟩ := DataW.trod_int Try.underlying3 hy0d
  simp at e0a e0b e0c e0d
  subst e0a e0b e0c e0d
  clear hA0 hval0
  simp only [List.append_nil] at hW'
  refine (walk f0a f0b f0c f0d W).mono fun e W' ⟨he, hg⟩ => ?_
  subst he
  exact ⟨_, rfl, _, _, _, [], _, [], hW', (trodAll_cons_mk (shut_bool Try.underlying4 _) trodAll_mk0), (trodAll_cons_mk (shut_agg4 (y0 := (.lit (.int .i64 f0a), [])) (y1 := (.lit (.int .i64 f0b), [])) (y2 := (.lit (.int .i64 f0c), [])) (y3 := (.lit (.int .i64 f0d), [])) Try.underlying45 (by kernel_rfl) cells45 ⟨1, trodI wf0a⟩ ⟨1, trodI wf0b⟩ ⟨1, trodI wf0c⟩ ⟨1, trodI wf0d⟩) trodAll_mk0), rfl, hg.frame _, fun h => by cases h⟩

theorem closed : joinedFacts Try.prog 11 Try.f11 Rows.fnExactValidLoanSpec Rows.fnExactValidLoanRow = true := by
  unfold joinedFacts
  rw [factEnter, factLifts, show (Try.prog.make == some Rows.fnExactValidLoanRow.make) = true from factMake]
  kernel_rfl

theorem over : Rows.fnExactValidLoanRow.holds Try.pinned (OpenSpec.ofChange Rows.fnExactValidLoanSpec) :=
  OpenClaim.holds_of_wide 11 Try.f11 rfl rfl rfl rfl rfl rfl rfl ⟨rfl, rfl, rfl, rfl, rfl⟩ rfl rfl rfl rfl rfl (by kernel_rfl) Try.func11 closed
    (of_decide_eq_true (by kernel_rfl)) (by unfold Func.isWrapper; first | (rw [if_pos (by decide +kernel)]; kernel_rfl) | (rw [if_neg (by decide +kernel)]; exact ⟨rfl, rfl⟩))
    (fun os started H enc _ => lifted os started H enc)

/-- The statement. -/
theorem proved : Rows.FnExactValidLoanSaid :=
  over
#print axioms proved
end Go.Proofs.Ytfgafbjofkicdaa.fnExactValidLoan
