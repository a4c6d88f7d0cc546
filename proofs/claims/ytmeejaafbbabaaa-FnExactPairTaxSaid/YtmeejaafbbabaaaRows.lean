/-
  No cell of these rows narrows 'for every input' (looked for: loops, veiled, ifaces, maps, wideKeys, modest, calm, conditions, laid).
  DERIVED. THE GIVEN ROWS OF THIS SEAT. 16 by the template 'for every input the law returns true; each argument reads behind the call as it read before'; 0 by the template 'total and deterministic' (their statements: YtmeejaafbbabaaaTotals.lean).
  GIVEN WITH THE SEED: the statements are not yours to turn. If you find one false, say at which input.
  Laid BY PROGRAM, IN A SANDBOX (cutbox-rows.mjs): the forced cells as the released guide's own fill.sh prints them over the translation b2c08c68cc856315… (all of the seat's roots in one cut). By AI agents, Wed Nov 11 2026. No macro, syntax, notation, axiom, sorry.
-/
import Derived.Test.YtmeejaafbbabaaaChecked
import GoSem.Claim
import GoSem.ClaimJoined
import GoSem.ClaimMapViews
import Derived.JoinedTies
import Derived.KernelRfl
namespace Go.Proofs.Ytmeejaafbbabaaa
/- THE CELL 'sum', in the pinned program and in every row, IS THE sha256 OF THE DUMP (.gsa) THAT YtmeejaafbbabaaaProg.lean LOADS. Nothing in Lean hashes anything: it is a label: what it is worth is what the hold of that sum in a sandbox is worth. -/
noncomputable def Try.pinned : Pinned := { name := "ytmeejaafbbabaaa", sum := "b2c08c68cc856315eecb8e46709068c6093b669989de618891f898888c647dad", checked := Try.checked }
namespace Rows
def none {H : Type} : Left H := { results := [], args := [] }

/-- 'laws.FnValidSteps': WHATEVER THE INPUT: true; the input reads as it did. -/
def fnValidStepsSpec : ChangeSpec := { name := "fnValidSteps", fn := fun _ => fun
  | [d] => { results := [.lit (.bool true)], args := [d] }
  | _ => none }
def fnValidStepsRow : OpenClaim := { program := "ytmeejaafbbabaaa", sum := "b2c08c68cc856315eecb8e46709068c6093b669989de618891f898888c647dad", func := "loop.example/sumsthatadd/laws.FnValidSteps", spec := "fnValidSteps", apart := false }
def FnValidStepsSaid : Prop := fnValidStepsRow.holds Try.pinned (OpenSpec.ofChange fnValidStepsSpec)

/-- ITS FALSE NEIGHBOUR: 'it returns false'. Refute it at one input. -/
def fnValidStepsWrong : ChangeSpec := { name := "fnValidSteps", fn := fun _ => fun
  | [d] => { results := [.lit (.bool false)], args := [d] }
  | _ => none }
def FnValidStepsWrongFalsely : Prop := fnValidStepsRow.holds Try.pinned (OpenSpec.ofChange fnValidStepsWrong)

/-- 'laws.FnHundredTax': WHATEVER THE INPUT: true; the input reads as it did. -/
def fnHundredTaxSpec : ChangeSpec := { name := "fnHundredTax", fn := fun _ => fun
  | [d] => { results := [.lit (.bool true)], args := [d] }
  | _ => none }
def fnHundredTaxRow : OpenClaim := { program := "ytmeejaafbbabaaa", sum := "b2c08c68cc856315eecb8e46709068c6093b669989de618891f898888c647dad", func := "loop.example/sumsthatadd/laws.FnHundredTax", spec := "fnHundredTax", apart := false }
def FnHundredTaxSaid : Prop := fnHundredTaxRow.holds Try.pinned (OpenSpec.ofChange fnHundredTaxSpec)

/-- ITS FALSE NEIGHBOUR: 'it returns false'. Refute it at one input. -/
def fnHundredTaxWrong : ChangeSpec := { name := "fnHundredTax", fn := fun _ => fun
  | [d] => { results := [.lit (.bool false)], args := [d] }
  | _ => none }
def FnHundredTaxWrongFalsely : Prop := fnHundredTaxRow.holds Try.pinned (OpenSpec.ofChange fnHundredTaxWrong)

/-- 'laws.FnNetOf': WHATEVER THE INPUT: true; the input reads as it did. -/
def fnNetOfSpec : ChangeSpec := { name := "fnNetOf", fn := fun _ => fun
  | [d] => { results := [.lit (.bool true)], args := [d] }
  | _ => none }
def fnNetOfRow : OpenClaim := { program := "ytmeejaafbbabaaa", sum := "b2c08c68cc856315eecb8e46709068c6093b669989de618891f898888c647dad", func := "loop.example/sumsthatadd/laws.FnNetOf", spec := "fnNetOf", apart := false }
def FnNetOfSaid : Prop := fnNetOfRow.holds Try.pinned (OpenSpec.ofChange fnNetOfSpec)

/-- ITS FALSE NEIGHBOUR: 'it returns false'. Refute it at one input. -/
def fnNetOfWrong : ChangeSpec := { name := "fnNetOf", fn := fun _ => fun
  | [d] => { results := [.lit (.bool false)], args := [d] }
  | _ => none }
def FnNetOfWrongFalsely : Prop := fnNetOfRow.holds Try.pinned (OpenSpec.ofChange fnNetOfWrong)

/-- 'laws.FnGrossFor': WHATEVER THE INPUT: true; the input reads as it did. -/
def fnGrossForSpec : ChangeSpec := { name := "fnGrossFor", fn := fun _ => fun
  | [d] => { results := [.lit (.bool true)], args := [d] }
  | _ => none }
def fnGrossForRow : OpenClaim := { program := "ytmeejaafbbabaaa", sum := "b2c08c68cc856315eecb8e46709068c6093b669989de618891f898888c647dad", func := "loop.example/sumsthatadd/laws.FnGrossFor", spec := "fnGrossFor", unfollowed := true, recurses := true, apart := false }
def FnGrossForSaid : Prop := fnGrossForRow.holds Try.pinned (OpenSpec.ofChange fnGrossForSpec)

/-- ITS FALSE NEIGHBOUR: 'it returns false'. Refute it at one input. -/
def fnGrossForWrong : ChangeSpec := { name := "fnGrossFor", fn := fun _ => fun
  | [d] => { results := [.lit (.bool false)], args := [d] }
  | _ => none }
def FnGrossForWrongFalsely : Prop := fnGrossForRow.holds Try.pinned (OpenSpec.ofChange fnGrossForWrong)

/-- 'laws.FnRateAt': WHATEVER THE INPUT: true; the input reads as it did. -/
def fnRateAtSpec : ChangeSpec := { name := "fnRateAt", fn := fun _ => fun
  | [d] => { results := [.lit (.bool true)], args := [d] }
  | _ => none }
def fnRateAtRow : OpenClaim := { program := "ytmeejaafbbabaaa", sum := "b2c08c68cc856315eecb8e46709068c6093b669989de618891f898888c647dad", func := "loop.example/sumsthatadd/laws.FnRateAt", spec := "fnRateAt", apart := false }
def FnRateAtSaid : Prop := fnRateAtRow.holds Try.pinned (OpenSpec.ofChange fnRateAtSpec)

/-- ITS FALSE NEIGHBOUR: 'it returns false'. Refute it at one input. -/
def fnRateAtWrong : ChangeSpec := { name := "fnRateAt", fn := fun _ => fun
  | [d] => { results := [.lit (.bool false)], args := [d] }
  | _ => none }
def FnRateAtWrongFalsely : Prop := fnRateAtRow.holds Try.pinned (OpenSpec.ofChange fnRateAtWrong)

/-- 'laws.FnIsRising': WHATEVER THE INPUT: true; the input reads as it did. -/
def fnIsRisingSpec : ChangeSpec := { name := "fnIsRising", fn := fun _ => fun
  | [d] => { results := [.lit (.bool true)], args := [d] }
  | _ => none }
def fnIsRisingRow : OpenClaim := { program := "ytmeejaafbbabaaa", sum := "b2c08c68cc856315eecb8e46709068c6093b669989de618891f898888c647dad", func := "loop.example/sumsthatadd/laws.FnIsRising", spec := "fnIsRising", apart := false }
def FnIsRisingSaid : Prop := fnIsRisingRow.holds Try.pinned (OpenSpec.ofChange fnIsRisingSpec)

/-- ITS FALSE NEIGHBOUR: 'it returns false'. Refute it at one input. -/
def fnIsRisingWrong : ChangeSpec := { name := "fnIsRising", fn := fun _ => fun
  | [d] => { results := [.lit (.bool false)], args := [d] }
  | _ => none }
def FnIsRisingWrongFalsely : Prop := fnIsRisingRow.holds Try.pinned (OpenSpec.ofChange fnIsRisingWrong)

/-- 'laws.FnPairTax': WHATEVER THE INPUT: true; the input reads as it did. -/
def fnPairTaxSpec : ChangeSpec := { name := "fnPairTax", fn := fun _ => fun
  | [d] => { results := [.lit (.bool true)], args := [d] }
  | _ => none }
def fnPairTaxRow : OpenClaim := { program := "ytmeejaafbbabaaa", sum := "b2c08c68cc856315eecb8e46709068c6093b669989de618891f898888c647dad", func := "loop.example/sumsthatadd/laws.FnPairTax", spec := "fnPairTax", apart := false }
def FnPairTaxSaid : Prop := fnPairTaxRow.holds Try.pinned (OpenSpec.ofChange fnPairTaxSpec)

/-- ITS FALSE NEIGHBOUR: 'it returns false'. Refute it at one input. -/
def fnPairTaxWrong : ChangeSpec := { name := "fnPairTax", fn := fun _ => fun
  | [d] => { results := [.lit (.bool false)], args := [d] }
  | _ => none }
def FnPairTaxWrongFalsely : Prop := fnPairTaxRow.holds Try.pinned (OpenSpec.ofChange fnPairTaxWrong)

/-- 'laws.FnJoinSteps': WHATEVER THE INPUT: true; the input reads as it did. -/
def fnJoinStepsSpec : ChangeSpec := { name := "fnJoinSteps", fn := fun _ => fun
  | [d] => { results := [.lit (.bool true)], args := [d] }
  | _ => none }
def fnJoinStepsRow : OpenClaim := { program := "ytmeejaafbbabaaa", sum := "b2c08c68cc856315eecb8e46709068c6093b669989de618891f898888c647dad", func := "loop.example/sumsthatadd/laws.FnJoinSteps", spec := "fnJoinSteps", unfollowed := true, recurses := true, apart := false }
def FnJoinStepsSaid : Prop := fnJoinStepsRow.holds Try.pinned (OpenSpec.ofChange fnJoinStepsSpec)

/-- ITS FALSE NEIGHBOUR: 'it returns false'. Refute it at one input. -/
def fnJoinStepsWrong : ChangeSpec := { name := "fnJoinSteps", fn := fun _ => fun
  | [d] => { results := [.lit (.bool false)], args := [d] }
  | _ => none }
def FnJoinStepsWrongFalsely : Prop := fnJoinStepsRow.holds Try.pinned (OpenSpec.ofChange fnJoinStepsWrong)

/-- 'laws.FnExactValidSteps': WHATEVER THE INPUT: true; the input reads as it did. -/
def fnExactValidStepsSpec : ChangeSpec := { name := "fnExactValidSteps", fn := fun _ => fun
  | [d] => { results := [.lit (.bool true)], args := [d] }
  | _ => none }
def fnExactValidStepsRow : OpenClaim := { program := "ytmeejaafbbabaaa", sum := "b2c08c68cc856315eecb8e46709068c6093b669989de618891f898888c647dad", func := "loop.example/sumsthatadd/laws.FnExactValidSteps", spec := "fnExactValidSteps", apart := false }
def FnExactValidStepsSaid : Prop := fnExactValidStepsRow.holds Try.pinned (OpenSpec.ofChange fnExactValidStepsSpec)

/-- ITS FALSE NEIGHBOUR: 'it returns false'. Refute it at one input. -/
def fnExactValidStepsWrong : ChangeSpec := { name := "fnExactValidSteps", fn := fun _ => fun
  | [d] => { results := [.lit (.bool false)], args := [d] }
  | _ => none }
def FnExactValidStepsWrongFalsely : Prop := fnExactValidStepsRow.holds Try.pinned (OpenSpec.ofChange fnExactValidStepsWrong)

/-- 'laws.FnExactHundredTax': WHATEVER THE INPUT: true; the input reads as it did. -/
def fnExactHundredTaxSpec : ChangeSpec := { name := "fnExactHundredTax", fn := fun _ => fun
  | [d1, d2] => { results := [.lit (.bool true)], args := [d1, d2] }
  | _ => none }
def fnExactHundredTaxRow : OpenClaim := { program := "ytmeejaafbbabaaa", sum := "b2c08c68cc856315eecb8e46709068c6093b669989de618891f898888c647dad", func := "loop.example/sumsthatadd/laws.FnExactHundredTax", spec := "fnExactHundredTax", apart := false }
def FnExactHundredTaxSaid : Prop := fnExactHundredTaxRow.holds Try.pinned (OpenSpec.ofChange fnExactHundredTaxSpec)

/-- ITS FALSE NEIGHBOUR: 'it returns false'. Refute it at one input. -/
def fnExactHundredTaxWrong : ChangeSpec := { name := "fnExactHundredTax", fn := fun _ => fun
  | [d1, d2] => { results := [.lit (.bool false)], args := [d1, d2] }
  | _ => none }
def FnExactHundredTaxWrongFalsely : Prop := fnExactHundredTaxRow.holds Try.pinned (OpenSpec.ofChange fnExactHundredTaxWrong)

/-- 'laws.FnExactNetOf': WHATEVER THE INPUT: true; the input reads as it did. -/
def fnExactNetOfSpec : ChangeSpec := { name := "fnExactNetOf", fn := fun _ => fun
  | [d1, d2] => { results := [.lit (.bool true)], args := [d1, d2] }
  | _ => none }
def fnExactNetOfRow : OpenClaim := { program := "ytmeejaafbbabaaa", sum := "b2c08c68cc856315eecb8e46709068c6093b669989de618891f898888c647dad", func := "loop.example/sumsthatadd/laws.FnExactNetOf", spec := "fnExactNetOf", apart := false }
def FnExactNetOfSaid : Prop := fnExactNetOfRow.holds Try.pinned (OpenSpec.ofChange fnExactNetOfSpec)

/-- ITS FALSE NEIGHBOUR: 'it returns false'. Refute it at one input. -/
def fnExactNetOfWrong : ChangeSpec := { name := "fnExactNetOf", fn := fun _ => fun
  | [d1, d2] => { results := [.lit (.bool false)], args := [d1, d2] }
  | _ => none }
def FnExactNetOfWrongFalsely : Prop := fnExactNetOfRow.holds Try.pinned (OpenSpec.ofChange fnExactNetOfWrong)

/-- 'laws.FnExactGrossFor': WHATEVER THE INPUT: true; the input reads as it did. -/
def fnExactGrossForSpec : ChangeSpec := { name := "fnExactGrossFor", fn := fun _ => fun
  | [d1, d2] => { results := [.lit (.bool true)], args := [d1, d2] }
  | _ => none }
def fnExactGrossForRow : OpenClaim := { program := "ytmeejaafbbabaaa", sum := "b2c08c68cc856315eecb8e46709068c6093b669989de618891f898888c647dad", func := "loop.example/sumsthatadd/laws.FnExactGrossFor", spec := "fnExactGrossFor", unfollowed := true, recurses := true, apart := false }
def FnExactGrossForSaid : Prop := fnExactGrossForRow.holds Try.pinned (OpenSpec.ofChange fnExactGrossForSpec)

/-- ITS FALSE NEIGHBOUR: 'it returns false'. Refute it at one input. -/
def fnExactGrossForWrong : ChangeSpec := { name := "fnExactGrossFor", fn := fun _ => fun
  | [d1, d2] => { results := [.lit (.bool false)], args := [d1, d2] }
  | _ => none }
def FnExactGrossForWrongFalsely : Prop := fnExactGrossForRow.holds Try.pinned (OpenSpec.ofChange fnExactGrossForWrong)

/-- 'laws.FnExactRateAt': WHATEVER THE INPUT: true; the input reads as it did. -/
def fnExactRateAtSpec : ChangeSpec := { name := "fnExactRateAt", fn := fun _ => fun
  | [d1, d2] => { results := [.lit (.bool true)], args := [d1, d2] }
  | _ => none }
def fnExactRateAtRow : OpenClaim := { program := "ytmeejaafbbabaaa", sum := "b2c08c68cc856315eecb8e46709068c6093b669989de618891f898888c647dad", func := "loop.example/sumsthatadd/laws.FnExactRateAt", spec := "fnExactRateAt", apart := false }
def FnExactRateAtSaid : Prop := fnExactRateAtRow.holds Try.pinned (OpenSpec.ofChange fnExactRateAtSpec)

/-- ITS FALSE NEIGHBOUR: 'it returns false'. Refute it at one input. -/
def fnExactRateAtWrong : ChangeSpec := { name := "fnExactRateAt", fn := fun _ => fun
  | [d1, d2] => { results := [.lit (.bool false)], args := [d1, d2] }
  | _ => none }
def FnExactRateAtWrongFalsely : Prop := fnExactRateAtRow.holds Try.pinned (OpenSpec.ofChange fnExactRateAtWrong)

/-- 'laws.FnExactIsRising': WHATEVER THE INPUT: true; the input reads as it did. -/
def fnExactIsRisingSpec : ChangeSpec := { name := "fnExactIsRising", fn := fun _ => fun
  | [d] => { results := [.lit (.bool true)], args := [d] }
  | _ => none }
def fnExactIsRisingRow : OpenClaim := { program := "ytmeejaafbbabaaa", sum := "b2c08c68cc856315eecb8e46709068c6093b669989de618891f898888c647dad", func := "loop.example/sumsthatadd/laws.FnExactIsRising", spec := "fnExactIsRising", apart := false }
def FnExactIsRisingSaid : Prop := fnExactIsRisingRow.holds Try.pinned (OpenSpec.ofChange fnExactIsRisingSpec)

/-- ITS FALSE NEIGHBOUR: 'it returns false'. Refute it at one input. -/
def fnExactIsRisingWrong : ChangeSpec := { name := "fnExactIsRising", fn := fun _ => fun
  | [d] => { results := [.lit (.bool false)], args := [d] }
  | _ => none }
def FnExactIsRisingWrongFalsely : Prop := fnExactIsRisingRow.holds Try.pinned (OpenSpec.ofChange fnExactIsRisingWrong)

/-- 'laws.FnExactPairTax': WHATEVER THE INPUT: true; the input reads as it did. -/
def fnExactPairTaxSpec : ChangeSpec := { name := "fnExactPairTax", fn := fun _ => fun
  | [d1, d2, d3] => { results := [.lit (.bool true)], args := [d1, d2, d3] }
  | _ => none }
def fnExactPairTaxRow : OpenClaim := { program := "ytmeejaafbbabaaa", sum := "b2c08c68cc856315eecb8e46709068c6093b669989de618891f898888c647dad", func := "loop.example/sumsthatadd/laws.FnExactPairTax", spec := "fnExactPairTax", apart := false }
def FnExactPairTaxSaid : Prop := fnExactPairTaxRow.holds Try.pinned (OpenSpec.ofChange fnExactPairTaxSpec)

/-- ITS FALSE NEIGHBOUR: 'it returns false'. Refute it at one input. -/
def fnExactPairTaxWrong : ChangeSpec := { name := "fnExactPairTax", fn := fun _ => fun
  | [d1, d2, d3] => { results := [.lit (.bool false)], args := [d1, d2, d3] }
  | _ => none }
def FnExactPairTaxWrongFalsely : Prop := fnExactPairTaxRow.holds Try.pinned (OpenSpec.ofChange fnExactPairTaxWrong)

/-- 'laws.FnExactJoinSteps': WHATEVER THE INPUT: true; the input reads as it did. -/
def fnExactJoinStepsSpec : ChangeSpec := { name := "fnExactJoinSteps", fn := fun _ => fun
  | [d1, d2] => { results := [.lit (.bool true)], args := [d1, d2] }
  | _ => none }
def fnExactJoinStepsRow : OpenClaim := { program := "ytmeejaafbbabaaa", sum := "b2c08c68cc856315eecb8e46709068c6093b669989de618891f898888c647dad", func := "loop.example/sumsthatadd/laws.FnExactJoinSteps", spec := "fnExactJoinSteps", unfollowed := true, recurses := true, apart := false }
def FnExactJoinStepsSaid : Prop := fnExactJoinStepsRow.holds Try.pinned (OpenSpec.ofChange fnExactJoinStepsSpec)

/-- ITS FALSE NEIGHBOUR: 'it returns false'. Refute it at one input. -/
def fnExactJoinStepsWrong : ChangeSpec := { name := "fnExactJoinSteps", fn := fun _ => fun
  | [d1, d2] => { results := [.lit (.bool false)], args := [d1, d2] }
  | _ => none }
def FnExactJoinStepsWrongFalsely : Prop := fnExactJoinStepsRow.holds Try.pinned (OpenSpec.ofChange fnExactJoinStepsWrong)

/- THE SECOND FORM. 'bulk': how many values and letters a reading holds, each counted each time it is reached (what is shared counts as often as it is met; a slice's spare places count too). A statement '..UptoSaid' is the law's where the arguments, and the package variables that the reading takes, are together of bulk at most 1048576: NARROWER than '..Said'. Prove '..Said' where nothing that the law and all that it calls make is longer than what came in: it says more and counts as full. Else prove '..UptoSaid'. A law counts once. -/
mutual
def uptoBulk {H : Type} : DataW H → Nat
  | .lit (.string bytes) => bytes.length + 1
  | .lit _ => 1
  | .nil => 1
  | .ptr d => uptoBulk d + 1
  | .slice elems spare => uptoBulkAll elems + uptoBulkAll spare + 1
  | .agg parts => uptoBulkAll parts + 1
  | .iface _ d => uptoBulk d + 1
  | .map entries => uptoBulkEntries entries + 1
  | .held _ => 1
def uptoBulkAll {H : Type} : List (DataW H) → Nat
  | [] => 0
  | d :: r => uptoBulk d + uptoBulkAll r
def uptoBulkEntries {H : Type} : List (Lit × DataW H) → Nat
  | [] => 0
  | x :: r => uptoBulkEntry x + uptoBulkEntries r
def uptoBulkEntry {H : Type} : Lit × DataW H → Nat
  | (.string bytes, d) => bytes.length + uptoBulk d + 1
  | (_, d) => uptoBulk d + 1
 end
def uptoSmall : (H : Type) → List (DataW H) → Bool := fun _ ds => decide (uptoBulkAll ds ≤ 1048576)
def OpenSpec.upto (s : _root_.Go.ChangeSpec) : _root_.Go.OpenSpec := { _root_.Go.OpenSpec.ofChange s with cond := some uptoSmall }

/-- 'laws.FnValidSteps', WHERE WHAT IT READS IS OF BULK AT MOST 1048576: true; the input reads as it did. -/
def fnValidStepsUptoRow : OpenClaim := { program := "ytmeejaafbbabaaa", sum := "b2c08c68cc856315eecb8e46709068c6093b669989de618891f898888c647dad", func := "loop.example/sumsthatadd/laws.FnValidSteps", spec := "fnValidSteps", apart := false, narrowed := true }
def FnValidStepsUptoSaid : Prop := fnValidStepsUptoRow.holds Try.pinned (OpenSpec.upto fnValidStepsSpec)

/-- 'laws.FnHundredTax', WHERE WHAT IT READS IS OF BULK AT MOST 1048576: true; the input reads as it did. -/
def fnHundredTaxUptoRow : OpenClaim := { program := "ytmeejaafbbabaaa", sum := "b2c08c68cc856315eecb8e46709068c6093b669989de618891f898888c647dad", func := "loop.example/sumsthatadd/laws.FnHundredTax", spec := "fnHundredTax", apart := false, narrowed := true }
def FnHundredTaxUptoSaid : Prop := fnHundredTaxUptoRow.holds Try.pinned (OpenSpec.upto fnHundredTaxSpec)

/-- 'laws.FnNetOf', WHERE WHAT IT READS IS OF BULK AT MOST 1048576: true; the input reads as it did. -/
def fnNetOfUptoRow : OpenClaim := { program := "ytmeejaafbbabaaa", sum := "b2c08c68cc856315eecb8e46709068c6093b669989de618891f898888c647dad", func := "loop.example/sumsthatadd/laws.FnNetOf", spec := "fnNetOf", apart := false, narrowed := true }
def FnNetOfUptoSaid : Prop := fnNetOfUptoRow.holds Try.pinned (OpenSpec.upto fnNetOfSpec)

/-- 'laws.FnGrossFor', WHERE WHAT IT READS IS OF BULK AT MOST 1048576: true; the input reads as it did. -/
def fnGrossForUptoRow : OpenClaim := { program := "ytmeejaafbbabaaa", sum := "b2c08c68cc856315eecb8e46709068c6093b669989de618891f898888c647dad", func := "loop.example/sumsthatadd/laws.FnGrossFor", spec := "fnGrossFor", unfollowed := true, recurses := true, apart := false, narrowed := true }
def FnGrossForUptoSaid : Prop := fnGrossForUptoRow.holds Try.pinned (OpenSpec.upto fnGrossForSpec)

/-- 'laws.FnRateAt', WHERE WHAT IT READS IS OF BULK AT MOST 1048576: true; the input reads as it did. -/
def fnRateAtUptoRow : OpenClaim := { program := "ytmeejaafbbabaaa", sum := "b2c08c68cc856315eecb8e46709068c6093b669989de618891f898888c647dad", func := "loop.example/sumsthatadd/laws.FnRateAt", spec := "fnRateAt", apart := false, narrowed := true }
def FnRateAtUptoSaid : Prop := fnRateAtUptoRow.holds Try.pinned (OpenSpec.upto fnRateAtSpec)

/-- 'laws.FnIsRising', WHERE WHAT IT READS IS OF BULK AT MOST 1048576: true; the input reads as it did. -/
def fnIsRisingUptoRow : OpenClaim := { program := "ytmeejaafbbabaaa", sum := "b2c08c68cc856315eecb8e46709068c6093b669989de618891f898888c647dad", func := "loop.example/sumsthatadd/laws.FnIsRising", spec := "fnIsRising", apart := false, narrowed := true }
def FnIsRisingUptoSaid : Prop := fnIsRisingUptoRow.holds Try.pinned (OpenSpec.upto fnIsRisingSpec)

/-- 'laws.FnPairTax', WHERE WHAT IT READS IS OF BULK AT MOST 1048576: true; the input reads as it did. -/
def fnPairTaxUptoRow : OpenClaim := { program := "ytmeejaafbbabaaa", sum := "b2c08c68cc856315eecb8e46709068c6093b669989de618891f898888c647dad", func := "loop.example/sumsthatadd/laws.FnPairTax", spec := "fnPairTax", apart := false, narrowed := true }
def FnPairTaxUptoSaid : Prop := fnPairTaxUptoRow.holds Try.pinned (OpenSpec.upto fnPairTaxSpec)

/-- 'laws.FnJoinSteps', WHERE WHAT IT READS IS OF BULK AT MOST 1048576: true; the input reads as it did. -/
def fnJoinStepsUptoRow : OpenClaim := { program := "ytmeejaafbbabaaa", sum := "b2c08c68cc856315eecb8e46709068c6093b669989de618891f898888c647dad", func := "loop.example/sumsthatadd/laws.FnJoinSteps", spec := "fnJoinSteps", unfollowed := true, recurses := true, apart := false, narrowed := true }
def FnJoinStepsUptoSaid : Prop := fnJoinStepsUptoRow.holds Try.pinned (OpenSpec.upto fnJoinStepsSpec)

/-- 'laws.FnExactValidSteps', WHERE WHAT IT READS IS OF BULK AT MOST 1048576: true; the input reads as it did. -/
def fnExactValidStepsUptoRow : OpenClaim := { program := "ytmeejaafbbabaaa", sum := "b2c08c68cc856315eecb8e46709068c6093b669989de618891f898888c647dad", func := "loop.example/sumsthatadd/laws.FnExactValidSteps", spec := "fnExactValidSteps", apart := false, narrowed := true }
def FnExactValidStepsUptoSaid : Prop := fnExactValidStepsUptoRow.holds Try.pinned (OpenSpec.upto fnExactValidStepsSpec)

/-- 'laws.FnExactHundredTax', WHERE WHAT IT READS IS OF BULK AT MOST 1048576: true; the input reads as it did. -/
def fnExactHundredTaxUptoRow : OpenClaim := { program := "ytmeejaafbbabaaa", sum := "b2c08c68cc856315eecb8e46709068c6093b669989de618891f898888c647dad", func := "loop.example/sumsthatadd/laws.FnExactHundredTax", spec := "fnExactHundredTax", apart := false, narrowed := true }
def FnExactHundredTaxUptoSaid : Prop := fnExactHundredTaxUptoRow.holds Try.pinned (OpenSpec.upto fnExactHundredTaxSpec)

/-- 'laws.FnExactNetOf', WHERE WHAT IT READS IS OF BULK AT MOST 1048576: true; the input reads as it did. -/
def fnExactNetOfUptoRow : OpenClaim := { program := "ytmeejaafbbabaaa", sum := "b2c08c68cc856315eecb8e46709068c6093b669989de618891f898888c647dad", func := "loop.example/sumsthatadd/laws.FnExactNetOf", spec := "fnExactNetOf", apart := false, narrowed := true }
def FnExactNetOfUptoSaid : Prop := fnExactNetOfUptoRow.holds Try.pinned (OpenSpec.upto fnExactNetOfSpec)

/-- 'laws.FnExactGrossFor', WHERE WHAT IT READS IS OF BULK AT MOST 1048576: true; the input reads as it did. -/
def fnExactGrossForUptoRow : OpenClaim := { program := "ytmeejaafbbabaaa", sum := "b2c08c68cc856315eecb8e46709068c6093b669989de618891f898888c647dad", func := "loop.example/sumsthatadd/laws.FnExactGrossFor", spec := "fnExactGrossFor", unfollowed := true, recurses := true, apart := false, narrowed := true }
def FnExactGrossForUptoSaid : Prop := fnExactGrossForUptoRow.holds Try.pinned (OpenSpec.upto fnExactGrossForSpec)

/-- 'laws.FnExactRateAt', WHERE WHAT IT READS IS OF BULK AT MOST 1048576: true; the input reads as it did. -/
def fnExactRateAtUptoRow : OpenClaim := { program := "ytmeejaafbbabaaa", sum := "b2c08c68cc856315eecb8e46709068c6093b669989de618891f898888c647dad", func := "loop.example/sumsthatadd/laws.FnExactRateAt", spec := "fnExactRateAt", apart := false, narrowed := true }
def FnExactRateAtUptoSaid : Prop := fnExactRateAtUptoRow.holds Try.pinned (OpenSpec.upto fnExactRateAtSpec)

/-- 'laws.FnExactIsRising', WHERE WHAT IT READS IS OF BULK AT MOST 1048576: true; the input reads as it did. -/
def fnExactIsRisingUptoRow : OpenClaim := { program := "ytmeejaafbbabaaa", sum := "b2c08c68cc856315eecb8e46709068c6093b669989de618891f898888c647dad", func := "loop.example/sumsthatadd/laws.FnExactIsRising", spec := "fnExactIsRising", apart := false, narrowed := true }
def FnExactIsRisingUptoSaid : Prop := fnExactIsRisingUptoRow.holds Try.pinned (OpenSpec.upto fnExactIsRisingSpec)

/-- 'laws.FnExactPairTax', WHERE WHAT IT READS IS OF BULK AT MOST 1048576: true; the input reads as it did. -/
def fnExactPairTaxUptoRow : OpenClaim := { program := "ytmeejaafbbabaaa", sum := "b2c08c68cc856315eecb8e46709068c6093b669989de618891f898888c647dad", func := "loop.example/sumsthatadd/laws.FnExactPairTax", spec := "fnExactPairTax", apart := false, narrowed := true }
def FnExactPairTaxUptoSaid : Prop := fnExactPairTaxUptoRow.holds Try.pinned (OpenSpec.upto fnExactPairTaxSpec)

/-- 'laws.FnExactJoinSteps', WHERE WHAT IT READS IS OF BULK AT MOST 1048576: true; the input reads as it did. -/
def fnExactJoinStepsUptoRow : OpenClaim := { program := "ytmeejaafbbabaaa", sum := "b2c08c68cc856315eecb8e46709068c6093b669989de618891f898888c647dad", func := "loop.example/sumsthatadd/laws.FnExactJoinSteps", spec := "fnExactJoinSteps", unfollowed := true, recurses := true, apart := false, narrowed := true }
def FnExactJoinStepsUptoSaid : Prop := fnExactJoinStepsUptoRow.holds Try.pinned (OpenSpec.upto fnExactJoinStepsSpec)

end Rows
end Go.Proofs.Ytmeejaafbbabaaa
