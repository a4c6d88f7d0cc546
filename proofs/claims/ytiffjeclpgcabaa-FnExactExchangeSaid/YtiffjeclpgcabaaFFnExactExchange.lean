/- Proved: the statement 'FnExactExchangeSaid': the Go law FnExactExchange of the program at this seat's commit answers true at every argument, and each argument reads afterwards as it read before. -/
import Derived.Test.YtiffjeclpgcabaaRows
import Derived.Lib.SmallJoins
import Derived.Test.YtiffjeclpgcabaaEExch
import Derived.Test.YtiffjeclpgcabaaFacts
import Derived.JoinedOf
import Derived.Test.YtiffjeclpgcabaaRow
import Derived.WalkKit
import Derived.ProofKit
import Derived.OpenShut
import Derived.ShutString
namespace Go.Proofs.Ytiffjeclpgcabaa.fnExactExchange
open Go.Joins Go.ChangeShapes Go.WideShapes Go.ChangeAt Go.RowKit
open Go.ChangeMaps (open_string shut_string)
set_option linter.unusedVariables false      -- a walk need not use every 'w<i>' (that an integer argument fits its kind)

theorem cells58 : Try.prog.cellsOf 58 = 2 := by kernel_rfl
theorem own : ownKnob Try.prog.godebug = none := by kernel_rfl

/-! The walk, out of the contracts. -/
theorem walk (a0 : Int) (f1a f1b : Int) (w0 : (Lit.int .i64 a0).wf = true) (w : World) :
    Calls Try.prog 15 #[.int .i64 a0, .agg #[.int .i64 f1a, .int .i64 f1b]] w fun e w' => e = .returned (.bool true) ∧ Below w.heap.size w w' := by
  exact FnExactExchange_walk a0 f1a f1b w (bounds_i64 w0)

theorem trodI {H : Type} {enc : TypeId × Value → H} {W : World} {base : Nat} {sp : Nat → Bool} {held : Bool} {n : Int} (h : (Lit.int .i64 n).wf = true) : DataW.trod enc Try.prog W base sp held 1 3 [.int .i64 n] = some (.lit (.int .i64 n), []) := by simp [DataW.trod, Try.underlying3, h]

/-! The row's step. -/
set_option maxRecDepth 100000 in
theorem lifted (os : Os) (started : os.Started) (H : Type) (enc : TypeId × Value → H) :
    ReturnsInHanded {} Try.checked os 15 .any (Rows.fnExactExchangeSpec.pre6 enc Try.prog Try.f15 Rows.fnExactExchangeRow.domain false) (Rows.fnExactExchangeSpec.post enc Try.prog Try.f15 false true false false) := by
  refine returnsInHanded_of_change (C := Try.checked) own started (by kernel_rfl) Try.func15
    (ChangeSpec.witness6 (enc := enc) (C := Try.checked) false ⟨#[], #[.int .i64 0, .agg #[.int .i64 0, .int .i64 0]], []⟩ 8 (by kernel_rfl) (by kernel_rfl) (by kernel_rfl) (by kernel_rfl)) ?_
  intro W base args ds gs before hval0 hW hcnd _
  have hval : ∀ (j : Nat) t v, Try.f15.params[j]? = some t → args[j]? = some v → Value.okWide Try.prog W .any base t v := hval0
  have hW' := hW
  obtain ⟨p, q, hA0, hV, rfl, hfz, hnd⟩ := hW
  have hA : DataW.TrodAll enc Try.prog W 0 (fun _ => true) true Try.f15.params.toList args.toList ds p := hA0
  rw [Try.params15] at hA hval
  obtain ⟨v0, vs0, d0, ds0, p0, q0, hargs, rfl, rfl, h0, r0⟩ := trodAll_cons hA
  obtain ⟨v1, vs1, d1, ds1, p1, q1, rfl, rfl, rfl, h1, r1⟩ := trodAll_cons r0
  obtain ⟨rfl, rfl, rfl⟩ := trodAll_nil r1
  obtain rfl : args = #[v0, v1] := by cases args; simp_all
  obtain ⟨rfl, rfl⟩ := trodVars_none hV
  obtain ⟨a0, rfl, rfl, rfl, w0⟩ := open_int Try.underlying3 (hval 0 3 v0 rfl rfl) h0
  obtain ⟨s1a, s1b, y1a, y1b, m1, rfl, rfl, rfl, hy1a, hy1b⟩ := open_agg2 Try.underlying58 (by kernel_rfl) cells58 (hval 1 58 v1 rfl rfl) h1
  obtain ⟨f1a, e1a, rfl, wf1a⟩ := DataW.trod_int Try.underlying3 hy1a
  obtain ⟨f1b, e1b, rfl, wf1b⟩ := DataW.trod_int Try.underlying3 hy1b
  simp at e1a e1b
  subst e1a e1b
  clear hA0 hval0
  simp only [List.append_nil] at hW'
  refine (walk a0 f1a f1b w0 W).mono fun e W' ⟨he, hg⟩ => ?_
  subst he
  exact ⟨_, rfl, _, _, _, [], _, [], hW', (trodAll_cons_mk (shut_bool Try.underlying4 _) trodAll_mk0), (trodAll_cons_mk (shut_int Try.underlying3 w0) (trodAll_cons_mk (shut_agg2 (y0 := (.lit (.int .i64 f1a), [])) (y1 := (.lit (.int .i64 f1b), [])) Try.underlying58 (by kernel_rfl) cells58 ⟨1, trodI wf1a⟩ ⟨1, trodI wf1b⟩) trodAll_mk0)), rfl, hg.frame _, fun h => by cases h⟩

theorem closed : joinedFacts Try.prog 15 Try.f15 Rows.fnExactExchangeSpec Rows.fnExactExchangeRow = true := by
  unfold joinedFacts
  rw [factEnter, factLifts, show (Try.prog.make == some Rows.fnExactExchangeRow.make) = true from factMake]
  kernel_rfl

theorem over : Rows.fnExactExchangeRow.holds Try.pinned (OpenSpec.ofChange Rows.fnExactExchangeSpec) :=
  OpenClaim.holds_of_wide 15 Try.f15 rfl rfl rfl rfl rfl rfl rfl ⟨rfl, rfl, rfl, rfl, rfl⟩ rfl rfl rfl rfl rfl (by kernel_rfl) Try.func15 closed
    (of_decide_eq_true (by kernel_rfl)) (by unfold Func.isWrapper; first | (rw [if_pos (by decide +kernel)]; kernel_rfl) | (rw [if_neg (by decide +kernel)]; exact ⟨rfl, rfl⟩))
    (fun os started H enc _ => lifted os started H enc)

/-- The statement. -/
theorem proved : Rows.FnExactExchangeSaid :=
  over
#print axioms proved
end Go.Proofs.Ytiffjeclpgcabaa.fnExactExchange
