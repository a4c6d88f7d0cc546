/-
  No cell of these rows narrows 'for every input' (looked for: loops, veiled, ifaces, maps, wideKeys, modest, calm, conditions, laid).
  DERIVED. THE GIVEN ROWS OF THIS SEAT. 12 by the template 'for every input the law returns true; each argument reads behind the call as it read before'; 0 by the template 'total and deterministic' (their statements: YtbkndncdhombeaaTotals.lean).
  GIVEN WITH THE SEED: the statements are not yours to turn. If you find one false, say at which input.
  Laid BY PROGRAM, IN A SANDBOX (cutbox-rows.mjs): the forced cells as the released guide's own fill.sh prints them over the translation 99bddfa0fe108104… (all of the seat's roots in one cut). By AI agents, Wed Nov 11 2026. No macro, syntax, notation, axiom, sorry.
-/
import Derived.Test.YtbkndncdhombeaaChecked
import GoSem.Claim
import GoSem.ClaimJoined
import GoSem.ClaimMapViews
import Derived.JoinedTies
import Derived.KernelRfl
namespace Go.Proofs.Ytbkndncdhombeaa
/- THE CELL 'sum', in the pinned program and in every row, IS THE sha256 OF THE DUMP (.gsa) THAT YtbkndncdhombeaaProg.lean LOADS. Nothing in Lean hashes anything: it is a label: what it is worth is what the hold of that sum in a sandbox is worth. -/
noncomputable def Try.pinned : Pinned := { name := "ytbkndncdhombeaa", sum := "99bddfa0fe108104e1eea637a2c2401ca8b8f51503fa6c30e86f3c373e431d8b", checked := Try.checked }
namespace Rows
def none {H : Type} : Left H := { results := [], args := [] }

/-- 'laws.FnValidCoins': WHATEVER THE INPUT: true; the input reads as it did. -/
def fnValidCoinsSpec : ChangeSpec := { name := "fnValidCoins", fn := fun _ => fun
  | [d] => { results := [.lit (.bool true)], args := [d] }
  | _ => none }
def fnValidCoinsRow : OpenClaim := { program := "ytbkndncdhombeaa", sum := "99bddfa0fe108104e1eea637a2c2401ca8b8f51503fa6c30e86f3c373e431d8b", func := "loop.example/sumsthatadd/laws.FnValidCoins", spec := "fnValidCoins", apart := false }
def FnValidCoinsSaid : Prop := fnValidCoinsRow.holds Try.pinned (OpenSpec.ofChange fnValidCoinsSpec)

/-- ITS FALSE NEIGHBOUR: 'it returns false'. Refute it at one input. -/
def fnValidCoinsWrong : ChangeSpec := { name := "fnValidCoins", fn := fun _ => fun
  | [d] => { results := [.lit (.bool false)], args := [d] }
  | _ => none }
def FnValidCoinsWrongFalsely : Prop := fnValidCoinsRow.holds Try.pinned (OpenSpec.ofChange fnValidCoinsWrong)

/-- 'laws.FnExactValidCoins': WHATEVER THE INPUT: true; the input reads as it did. -/
def fnExactValidCoinsSpec : ChangeSpec := { name := "fnExactValidCoins", fn := fun _ => fun
  | [d] => { results := [.lit (.bool true)], args := [d] }
  | _ => none }
def fnExactValidCoinsRow : OpenClaim := { program := "ytbkndncdhombeaa", sum := "99bddfa0fe108104e1eea637a2c2401ca8b8f51503fa6c30e86f3c373e431d8b", func := "loop.example/sumsthatadd/laws.FnExactValidCoins", spec := "fnExactValidCoins", apart := false }
def FnExactValidCoinsSaid : Prop := fnExactValidCoinsRow.holds Try.pinned (OpenSpec.ofChange fnExactValidCoinsSpec)

/-- ITS FALSE NEIGHBOUR: 'it returns false'. Refute it at one input. -/
def fnExactValidCoinsWrong : ChangeSpec := { name := "fnExactValidCoins", fn := fun _ => fun
  | [d] => { results := [.lit (.bool false)], args := [d] }
  | _ => none }
def FnExactValidCoinsWrongFalsely : Prop := fnExactValidCoinsRow.holds Try.pinned (OpenSpec.ofChange fnExactValidCoinsWrong)

/-- 'laws.FnFewestCoins': WHATEVER THE INPUT: true; the input reads as it did. -/
def fnFewestCoinsSpec : ChangeSpec := { name := "fnFewestCoins", fn := fun _ => fun
  | [d] => { results := [.lit (.bool true)], args := [d] }
  | _ => none }
def fnFewestCoinsRow : OpenClaim := { program := "ytbkndncdhombeaa", sum := "99bddfa0fe108104e1eea637a2c2401ca8b8f51503fa6c30e86f3c373e431d8b", func := "loop.example/sumsthatadd/laws.FnFewestCoins", spec := "fnFewestCoins", unfollowed := true, recurses := true, apart := false }
def FnFewestCoinsSaid : Prop := fnFewestCoinsRow.holds Try.pinned (OpenSpec.ofChange fnFewestCoinsSpec)

/-- ITS FALSE NEIGHBOUR: 'it returns false'. Refute it at one input. -/
def fnFewestCoinsWrong : ChangeSpec := { name := "fnFewestCoins", fn := fun _ => fun
  | [d] => { results := [.lit (.bool false)], args := [d] }
  | _ => none }
def FnFewestCoinsWrongFalsely : Prop := fnFewestCoinsRow.holds Try.pinned (OpenSpec.ofChange fnFewestCoinsWrong)

/-- 'laws.FnExactFewestCoins': WHATEVER THE INPUT: true; the input reads as it did. -/
def fnExactFewestCoinsSpec : ChangeSpec := { name := "fnExactFewestCoins", fn := fun _ => fun
  | [d1, d2] => { results := [.lit (.bool true)], args := [d1, d2] }
  | _ => none }
def fnExactFewestCoinsRow : OpenClaim := { program := "ytbkndncdhombeaa", sum := "99bddfa0fe108104e1eea637a2c2401ca8b8f51503fa6c30e86f3c373e431d8b", func := "loop.example/sumsthatadd/laws.FnExactFewestCoins", spec := "fnExactFewestCoins", unfollowed := true, recurses := true, apart := false }
def FnExactFewestCoinsSaid : Prop := fnExactFewestCoinsRow.holds Try.pinned (OpenSpec.ofChange fnExactFewestCoinsSpec)

/-- ITS FALSE NEIGHBOUR: 'it returns false'. Refute it at one input. -/
def fnExactFewestCoinsWrong : ChangeSpec := { name := "fnExactFewestCoins", fn := fun _ => fun
  | [d1, d2] => { results := [.lit (.bool false)], args := [d1, d2] }
  | _ => none }
def FnExactFewestCoinsWrongFalsely : Prop := fnExactFewestCoinsRow.holds Try.pinned (OpenSpec.ofChange fnExactFewestCoinsWrong)

/-- 'laws.FnGreedyCoins': WHATEVER THE INPUT: true; the input reads as it did. -/
def fnGreedyCoinsSpec : ChangeSpec := { name := "fnGreedyCoins", fn := fun _ => fun
  | [d] => { results := [.lit (.bool true)], args := [d] }
  | _ => none }
def fnGreedyCoinsRow : OpenClaim := { program := "ytbkndncdhombeaa", sum := "99bddfa0fe108104e1eea637a2c2401ca8b8f51503fa6c30e86f3c373e431d8b", func := "loop.example/sumsthatadd/laws.FnGreedyCoins", spec := "fnGreedyCoins", unfollowed := true, recurses := true, apart := false }
def FnGreedyCoinsSaid : Prop := fnGreedyCoinsRow.holds Try.pinned (OpenSpec.ofChange fnGreedyCoinsSpec)

/-- ITS FALSE NEIGHBOUR: 'it returns false'. Refute it at one input. -/
def fnGreedyCoinsWrong : ChangeSpec := { name := "fnGreedyCoins", fn := fun _ => fun
  | [d] => { results := [.lit (.bool false)], args := [d] }
  | _ => none }
def FnGreedyCoinsWrongFalsely : Prop := fnGreedyCoinsRow.holds Try.pinned (OpenSpec.ofChange fnGreedyCoinsWrong)

/-- 'laws.FnExactGreedyCoins': WHATEVER THE INPUT: true; the input reads as it did. -/
def fnExactGreedyCoinsSpec : ChangeSpec := { name := "fnExactGreedyCoins", fn := fun _ => fun
  | [d1, d2] => { results := [.lit (.bool true)], args := [d1, d2] }
  | _ => none }
def fnExactGreedyCoinsRow : OpenClaim := { program := "ytbkndncdhombeaa", sum := "99bddfa0fe108104e1eea637a2c2401ca8b8f51503fa6c30e86f3c373e431d8b", func := "loop.example/sumsthatadd/laws.FnExactGreedyCoins", spec := "fnExactGreedyCoins", unfollowed := true, recurses := true, apart := false }
def FnExactGreedyCoinsSaid : Prop := fnExactGreedyCoinsRow.holds Try.pinned (OpenSpec.ofChange fnExactGreedyCoinsSpec)

/-- ITS FALSE NEIGHBOUR: 'it returns false'. Refute it at one input. -/
def fnExactGreedyCoinsWrong : ChangeSpec := { name := "fnExactGreedyCoins", fn := fun _ => fun
  | [d1, d2] => { results := [.lit (.bool false)], args := [d1, d2] }
  | _ => none }
def FnExactGreedyCoinsWrongFalsely : Prop := fnExactGreedyCoinsRow.holds Try.pinned (OpenSpec.ofChange fnExactGreedyCoinsWrong)

/-- 'laws.FnIsGreedy': WHATEVER THE INPUT: true; the input reads as it did. -/
def fnIsGreedySpec : ChangeSpec := { name := "fnIsGreedy", fn := fun _ => fun
  | [d] => { results := [.lit (.bool true)], args := [d] }
  | _ => none }
def fnIsGreedyRow : OpenClaim := { program := "ytbkndncdhombeaa", sum := "99bddfa0fe108104e1eea637a2c2401ca8b8f51503fa6c30e86f3c373e431d8b", func := "loop.example/sumsthatadd/laws.FnIsGreedy", spec := "fnIsGreedy", unfollowed := true, recurses := true, apart := false }
def FnIsGreedySaid : Prop := fnIsGreedyRow.holds Try.pinned (OpenSpec.ofChange fnIsGreedySpec)

/-- ITS FALSE NEIGHBOUR: 'it returns false'. Refute it at one input. -/
def fnIsGreedyWrong : ChangeSpec := { name := "fnIsGreedy", fn := fun _ => fun
  | [d] => { results := [.lit (.bool false)], args := [d] }
  | _ => none }
def FnIsGreedyWrongFalsely : Prop := fnIsGreedyRow.holds Try.pinned (OpenSpec.ofChange fnIsGreedyWrong)

/-- 'laws.FnExactIsGreedy': WHATEVER THE INPUT: true; the input reads as it did. -/
def fnExactIsGreedySpec : ChangeSpec := { name := "fnExactIsGreedy", fn := fun _ => fun
  | [d] => { results := [.lit (.bool true)], args := [d] }
  | _ => none }
def fnExactIsGreedyRow : OpenClaim := { program := "ytbkndncdhombeaa", sum := "99bddfa0fe108104e1eea637a2c2401ca8b8f51503fa6c30e86f3c373e431d8b", func := "loop.example/sumsthatadd/laws.FnExactIsGreedy", spec := "fnExactIsGreedy", unfollowed := true, recurses := true, apart := false }
def FnExactIsGreedySaid : Prop := fnExactIsGreedyRow.holds Try.pinned (OpenSpec.ofChange fnExactIsGreedySpec)

/-- ITS FALSE NEIGHBOUR: 'it returns false'. Refute it at one input. -/
def fnExactIsGreedyWrong : ChangeSpec := { name := "fnExactIsGreedy", fn := fun _ => fun
  | [d] => { results := [.lit (.bool false)], args := [d] }
  | _ => none }
def FnExactIsGreedyWrongFalsely : Prop := fnExactIsGreedyRow.holds Try.pinned (OpenSpec.ofChange fnExactIsGreedyWrong)

/-- 'laws.FnExactLastUnpaid': WHATEVER THE INPUT: true; the input reads as it did. -/
def fnExactLastUnpaidSpec : ChangeSpec := { name := "fnExactLastUnpaid", fn := fun _ => fun
  | [d] => { results := [.lit (.bool true)], args := [d] }
  | _ => none }
def fnExactLastUnpaidRow : OpenClaim := { program := "ytbkndncdhombeaa", sum := "99bddfa0fe108104e1eea637a2c2401ca8b8f51503fa6c30e86f3c373e431d8b", func := "loop.example/sumsthatadd/laws.FnExactLastUnpaid", spec := "fnExactLastUnpaid", unfollowed := true, recurses := true, apart := false }
def FnExactLastUnpaidSaid : Prop := fnExactLastUnpaidRow.holds Try.pinned (OpenSpec.ofChange fnExactLastUnpaidSpec)

/-- ITS FALSE NEIGHBOUR: 'it returns false'. Refute it at one input. -/
def fnExactLastUnpaidWrong : ChangeSpec := { name := "fnExactLastUnpaid", fn := fun _ => fun
  | [d] => { results := [.lit (.bool false)], args := [d] }
  | _ => none }
def FnExactLastUnpaidWrongFalsely : Prop := fnExactLastUnpaidRow.holds Try.pinned (OpenSpec.ofChange fnExactLastUnpaidWrong)

/-- 'laws.FnExactFewestHands': WHATEVER THE INPUT: true; the input reads as it did. -/
def fnExactFewestHandsSpec : ChangeSpec := { name := "fnExactFewestHands", fn := fun _ => fun
  | [d1, d2] => { results := [.lit (.bool true)], args := [d1, d2] }
  | _ => none }
def fnExactFewestHandsRow : OpenClaim := { program := "ytbkndncdhombeaa", sum := "99bddfa0fe108104e1eea637a2c2401ca8b8f51503fa6c30e86f3c373e431d8b", func := "loop.example/sumsthatadd/laws.FnExactFewestHands", spec := "fnExactFewestHands", unfollowed := true, recurses := true, apart := false }
def FnExactFewestHandsSaid : Prop := fnExactFewestHandsRow.holds Try.pinned (OpenSpec.ofChange fnExactFewestHandsSpec)

/-- ITS FALSE NEIGHBOUR: 'it returns false'. Refute it at one input. -/
def fnExactFewestHandsWrong : ChangeSpec := { name := "fnExactFewestHands", fn := fun _ => fun
  | [d1, d2] => { results := [.lit (.bool false)], args := [d1, d2] }
  | _ => none }
def FnExactFewestHandsWrongFalsely : Prop := fnExactFewestHandsRow.holds Try.pinned (OpenSpec.ofChange fnExactFewestHandsWrong)

/-- 'laws.FnFromPurse': WHATEVER THE INPUT: true; the input reads as it did. -/
def fnFromPurseSpec : ChangeSpec := { name := "fnFromPurse", fn := fun _ => fun
  | [d] => { results := [.lit (.bool true)], args := [d] }
  | _ => none }
def fnFromPurseRow : OpenClaim := { program := "ytbkndncdhombeaa", sum := "99bddfa0fe108104e1eea637a2c2401ca8b8f51503fa6c30e86f3c373e431d8b", func := "loop.example/sumsthatadd/laws.FnFromPurse", spec := "fnFromPurse", unfollowed := true, recurses := true, apart := false }
def FnFromPurseSaid : Prop := fnFromPurseRow.holds Try.pinned (OpenSpec.ofChange fnFromPurseSpec)

/-- ITS FALSE NEIGHBOUR: 'it returns false'. Refute it at one input. -/
def fnFromPurseWrong : ChangeSpec := { name := "fnFromPurse", fn := fun _ => fun
  | [d] => { results := [.lit (.bool false)], args := [d] }
  | _ => none }
def FnFromPurseWrongFalsely : Prop := fnFromPurseRow.holds Try.pinned (OpenSpec.ofChange fnFromPurseWrong)

/-- 'laws.FnExactFromPurse': WHATEVER THE INPUT: true; the input reads as it did. -/
def fnExactFromPurseSpec : ChangeSpec := { name := "fnExactFromPurse", fn := fun _ => fun
  | [d1, d2, d3] => { results := [.lit (.bool true)], args := [d1, d2, d3] }
  | _ => none }
def fnExactFromPurseRow : OpenClaim := { program := "ytbkndncdhombeaa", sum := "99bddfa0fe108104e1eea637a2c2401ca8b8f51503fa6c30e86f3c373e431d8b", func := "loop.example/sumsthatadd/laws.FnExactFromPurse", spec := "fnExactFromPurse", unfollowed := true, recurses := true, apart := false }
def FnExactFromPurseSaid : Prop := fnExactFromPurseRow.holds Try.pinned (OpenSpec.ofChange fnExactFromPurseSpec)

/-- ITS FALSE NEIGHBOUR: 'it returns false'. Refute it at one input. -/
def fnExactFromPurseWrong : ChangeSpec := { name := "fnExactFromPurse", fn := fun _ => fun
  | [d1, d2, d3] => { results := [.lit (.bool false)], args := [d1, d2, d3] }
  | _ => none }
def FnExactFromPurseWrongFalsely : Prop := fnExactFromPurseRow.holds Try.pinned (OpenSpec.ofChange fnExactFromPurseWrong)

/- THE SECOND FORM. 'bulk': how many values and letters a reading holds, each counted each time it is reached (what is shared counts as often as it is met; a slice's spare places count too). A statement '..UptoSaid' is the law's where the arguments, and the package variables that the reading takes, are together of bulk at most 1048576: NARROWER than '..Said'. Prove '..Said' where nothing that the law and all that it calls make is longer than what came in: it says more and counts as full. Else prove '..UptoSaid'. A law counts once. -/
mutual
def uptoBulk {H : Type} : DataW H → Nat
  | .lit (.string bytes) => bytes.length + 1
  | .lit _ => 1
  | .nil => 1
  | .ptr d => uptoBulk d + 1
  | .slice elems spare => uptoBulkAll elems + uptoBulkAll spare + 1
  | .agg parts => uptoBulkAll parts + 1
  | .iface _ d => uptoBulk d + 1
  | .map entries => uptoBulkEntries entries + 1
  | .held _ => 1
def uptoBulkAll {H : Type} : List (DataW H) → Nat
  | [] => 0
  | d :: r => uptoBulk d + uptoBulkAll r
def uptoBulkEntries {H : Type} : List (Lit × DataW H) → Nat
  | [] => 0
  | x :: r => uptoBulkEntry x + uptoBulkEntries r
def uptoBulkEntry {H : Type} : Lit × DataW H → Nat
  | (.string bytes, d) => bytes.length + uptoBulk d + 1
  | (_, d) => uptoBulk d + 1
 end
def uptoSmall : (H : Type) → List (DataW H) → Bool := fun _ ds => decide (uptoBulkAll ds ≤ 1048576)
def OpenSpec.upto (s : _root_.Go.ChangeSpec) : _root_.Go.OpenSpec := { _root_.Go.OpenSpec.ofChange s with cond := some uptoSmall }

/-- 'laws.FnValidCoins', WHERE WHAT IT READS IS OF BULK AT MOST 1048576: true; the input reads as it did. -/
def fnValidCoinsUptoRow : OpenClaim := { program := "ytbkndncdhombeaa", sum := "99bddfa0fe108104e1eea637a2c2401ca8b8f51503fa6c30e86f3c373e431d8b", func := "loop.example/sumsthatadd/laws.FnValidCoins", spec := "fnValidCoins", apart := false, narrowed := true }
def FnValidCoinsUptoSaid : Prop := fnValidCoinsUptoRow.holds Try.pinned (OpenSpec.upto fnValidCoinsSpec)

/-- 'laws.FnExactValidCoins', WHERE WHAT IT READS IS OF BULK AT MOST 1048576: true; the input reads as it did. -/
def fnExactValidCoinsUptoRow : OpenClaim := { program := "ytbkndncdhombeaa", sum := "99bddfa0fe108104e1eea637a2c2401ca8b8f51503fa6c30e86f3c373e431d8b", func := "loop.example/sumsthatadd/laws.FnExactValidCoins", spec := "fnExactValidCoins", apart := false, narrowed := true }
def FnExactValidCoinsUptoSaid : Prop := fnExactValidCoinsUptoRow.holds Try.pinned (OpenSpec.upto fnExactValidCoinsSpec)

/-- 'laws.FnFewestCoins', WHERE WHAT IT READS IS OF BULK AT MOST 1048576: true; the input reads as it did. -/
def fnFewestCoinsUptoRow : OpenClaim := { program := "ytbkndncdhombeaa", sum := "99bddfa0fe108104e1eea637a2c2401ca8b8f51503fa6c30e86f3c373e431d8b", func := "loop.example/sumsthatadd/laws.FnFewestCoins", spec := "fnFewestCoins", unfollowed := true, recurses := true, apart := false, narrowed := true }
def FnFewestCoinsUptoSaid : Prop := fnFewestCoinsUptoRow.holds Try.pinned (OpenSpec.upto fnFewestCoinsSpec)

/-- 'laws.FnExactFewestCoins', WHERE WHAT IT READS IS OF BULK AT MOST 1048576: true; the input reads as it did. -/
def fnExactFewestCoinsUptoRow : OpenClaim := { program := "ytbkndncdhombeaa", sum := "99bddfa0fe108104e1eea637a2c2401ca8b8f51503fa6c30e86f3c373e431d8b", func := "loop.example/sumsthatadd/laws.FnExactFewestCoins", spec := "fnExactFewestCoins", unfollowed := true, recurses := true, apart := false, narrowed := true }
def FnExactFewestCoinsUptoSaid : Prop := fnExactFewestCoinsUptoRow.holds Try.pinned (OpenSpec.upto fnExactFewestCoinsSpec)

/-- 'laws.FnGreedyCoins', WHERE WHAT IT READS IS OF BULK AT MOST 1048576: true; the input reads as it did. -/
def fnGreedyCoinsUptoRow : OpenClaim := { program := "ytbkndncdhombeaa", sum := "99bddfa0fe108104e1eea637a2c2401ca8b8f51503fa6c30e86f3c373e431d8b", func := "loop.example/sumsthatadd/laws.FnGreedyCoins", spec := "fnGreedyCoins", unfollowed := true, recurses := true, apart := false, narrowed := true }
def FnGreedyCoinsUptoSaid : Prop := fnGreedyCoinsUptoRow.holds Try.pinned (OpenSpec.upto fnGreedyCoinsSpec)

/-- 'laws.FnExactGreedyCoins', WHERE WHAT IT READS IS OF BULK AT MOST 1048576: true; the input reads as it did. -/
def fnExactGreedyCoinsUptoRow : OpenClaim := { program := "ytbkndncdhombeaa", sum := "99bddfa0fe108104e1eea637a2c2401ca8b8f51503fa6c30e86f3c373e431d8b", func := "loop.example/sumsthatadd/laws.FnExactGreedyCoins", spec := "fnExactGreedyCoins", unfollowed := true, recurses := true, apart := false, narrowed := true }
def FnExactGreedyCoinsUptoSaid : Prop := fnExactGreedyCoinsUptoRow.holds Try.pinned (OpenSpec.upto fnExactGreedyCoinsSpec)

/-- 'laws.FnIsGreedy', WHERE WHAT IT READS IS OF BULK AT MOST 1048576: true; the input reads as it did. -/
def fnIsGreedyUptoRow : OpenClaim := { program := "ytbkndncdhombeaa", sum := "99bddfa0fe108104e1eea637a2c2401ca8b8f51503fa6c30e86f3c373e431d8b", func := "loop.example/sumsthatadd/laws.FnIsGreedy", spec := "fnIsGreedy", unfollowed := true, recurses := true, apart := false, narrowed := true }
def FnIsGreedyUptoSaid : Prop := fnIsGreedyUptoRow.holds Try.pinned (OpenSpec.upto fnIsGreedySpec)

/-- 'laws.FnExactIsGreedy', WHERE WHAT IT READS IS OF BULK AT MOST 1048576: true; the input reads as it did. -/
def fnExactIsGreedyUptoRow : OpenClaim := { program := "ytbkndncdhombeaa", sum := "99bddfa0fe108104e1eea637a2c2401ca8b8f51503fa6c30e86f3c373e431d8b", func := "loop.example/sumsthatadd/laws.FnExactIsGreedy", spec := "fnExactIsGreedy", unfollowed := true, recurses := true, apart := false, narrowed := true }
def FnExactIsGreedyUptoSaid : Prop := fnExactIsGreedyUptoRow.holds Try.pinned (OpenSpec.upto fnExactIsGreedySpec)

/-- 'laws.FnExactLastUnpaid', WHERE WHAT IT READS IS OF BULK AT MOST 1048576: true; the input reads as it did. -/
def fnExactLastUnpaidUptoRow : OpenClaim := { program := "ytbkndncdhombeaa", sum := "99bddfa0fe108104e1eea637a2c2401ca8b8f51503fa6c30e86f3c373e431d8b", func := "loop.example/sumsthatadd/laws.FnExactLastUnpaid", spec := "fnExactLastUnpaid", unfollowed := true, recurses := true, apart := false, narrowed := true }
def FnExactLastUnpaidUptoSaid : Prop := fnExactLastUnpaidUptoRow.holds Try.pinned (OpenSpec.upto fnExactLastUnpaidSpec)

/-- 'laws.FnExactFewestHands', WHERE WHAT IT READS IS OF BULK AT MOST 1048576: true; the input reads as it did. -/
def fnExactFewestHandsUptoRow : OpenClaim := { program := "ytbkndncdhombeaa", sum := "99bddfa0fe108104e1eea637a2c2401ca8b8f51503fa6c30e86f3c373e431d8b", func := "loop.example/sumsthatadd/laws.FnExactFewestHands", spec := "fnExactFewestHands", unfollowed := true, recurses := true, apart := false, narrowed := true }
def FnExactFewestHandsUptoSaid : Prop := fnExactFewestHandsUptoRow.holds Try.pinned (OpenSpec.upto fnExactFewestHandsSpec)

/-- 'laws.FnFromPurse', WHERE WHAT IT READS IS OF BULK AT MOST 1048576: true; the input reads as it did. -/
def fnFromPurseUptoRow : OpenClaim := { program := "ytbkndncdhombeaa", sum := "99bddfa0fe108104e1eea637a2c2401ca8b8f51503fa6c30e86f3c373e431d8b", func := "loop.example/sumsthatadd/laws.FnFromPurse", spec := "fnFromPurse", unfollowed := true, recurses := true, apart := false, narrowed := true }
def FnFromPurseUptoSaid : Prop := fnFromPurseUptoRow.holds Try.pinned (OpenSpec.upto fnFromPurseSpec)

/-- 'laws.FnExactFromPurse', WHERE WHAT IT READS IS OF BULK AT MOST 1048576: true; the input reads as it did. -/
def fnExactFromPurseUptoRow : OpenClaim := { program := "ytbkndncdhombeaa", sum := "99bddfa0fe108104e1eea637a2c2401ca8b8f51503fa6c30e86f3c373e431d8b", func := "loop.example/sumsthatadd/laws.FnExactFromPurse", spec := "fnExactFromPurse", unfollowed := true, recurses := true, apart := false, narrowed := true }
def FnExactFromPurseUptoSaid : Prop := fnExactFromPurseUptoRow.holds Try.pinned (OpenSpec.upto fnExactFromPurseSpec)

end Rows
end Go.Proofs.Ytbkndncdhombeaa
