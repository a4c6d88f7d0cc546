/-
  No cell of these rows narrows 'for every input' (looked for: loops, veiled, ifaces, maps, wideKeys, modest, calm, conditions, laid).
  DERIVED. THE GIVEN ROWS OF THIS SEAT. 16 by the template 'for every input the law returns true; each argument reads behind the call as it read before'; 0 by the template 'total and deterministic' (their statements: YtbedjebnllimpaaTotals.lean).
  GIVEN WITH THE SEED: the statements are not yours to turn. If you find one false, say at which input.
  Laid BY PROGRAM, IN A SANDBOX (cutbox-rows.mjs): the forced cells as the released guide's own fill.sh prints them over the translation db1b4e9479c2cb0b… (all of the seat's roots in one cut). By AI agents, Wed Nov 11 2026. No macro, syntax, notation, axiom, sorry.
-/
import Derived.Test.YtbedjebnllimpaaChecked
import GoSem.Claim
import GoSem.ClaimJoined
import GoSem.ClaimMapViews
import Derived.JoinedTies
import Derived.KernelRfl
namespace Go.Proofs.Ytbedjebnllimpaa
/- THE CELL 'sum', in the pinned program and in every row, IS THE sha256 OF THE DUMP (.gsa) THAT YtbedjebnllimpaaProg.lean LOADS. Nothing in Lean hashes anything: it is a label: what it is worth is what the hold of that sum in a sandbox is worth. -/
noncomputable def Try.pinned : Pinned := { name := "ytbedjebnllimpaa", sum := "db1b4e9479c2cb0bbb33d41200ae6750d5f4059d7ef968998b2eb2667a69e7bd", checked := Try.checked }
namespace Rows
def none {H : Type} : Left H := { results := [], args := [] }

/-- 'laws.FnValidDebts': WHATEVER THE INPUT: true; the input reads as it did. -/
def fnValidDebtsSpec : ChangeSpec := { name := "fnValidDebts", fn := fun _ => fun
  | [d] => { results := [.lit (.bool true)], args := [d] }
  | _ => none }
def fnValidDebtsRow : OpenClaim := { program := "ytbedjebnllimpaa", sum := "db1b4e9479c2cb0bbb33d41200ae6750d5f4059d7ef968998b2eb2667a69e7bd", func := "loop.example/sumsthatadd/laws.FnValidDebts", spec := "fnValidDebts", apart := false }
def FnValidDebtsSaid : Prop := fnValidDebtsRow.holds Try.pinned (OpenSpec.ofChange fnValidDebtsSpec)

/-- ITS FALSE NEIGHBOUR: 'it returns false'. Refute it at one input. -/
def fnValidDebtsWrong : ChangeSpec := { name := "fnValidDebts", fn := fun _ => fun
  | [d] => { results := [.lit (.bool false)], args := [d] }
  | _ => none }
def FnValidDebtsWrongFalsely : Prop := fnValidDebtsRow.holds Try.pinned (OpenSpec.ofChange fnValidDebtsWrong)

/-- 'laws.FnBalancesOf': WHATEVER THE INPUT: true; the input reads as it did. -/
def fnBalancesOfSpec : ChangeSpec := { name := "fnBalancesOf", fn := fun _ => fun
  | [d] => { results := [.lit (.bool true)], args := [d] }
  | _ => none }
def fnBalancesOfRow : OpenClaim := { program := "ytbedjebnllimpaa", sum := "db1b4e9479c2cb0bbb33d41200ae6750d5f4059d7ef968998b2eb2667a69e7bd", func := "loop.example/sumsthatadd/laws.FnBalancesOf", spec := "fnBalancesOf", apart := false }
def FnBalancesOfSaid : Prop := fnBalancesOfRow.holds Try.pinned (OpenSpec.ofChange fnBalancesOfSpec)

/-- ITS FALSE NEIGHBOUR: 'it returns false'. Refute it at one input. -/
def fnBalancesOfWrong : ChangeSpec := { name := "fnBalancesOf", fn := fun _ => fun
  | [d] => { results := [.lit (.bool false)], args := [d] }
  | _ => none }
def FnBalancesOfWrongFalsely : Prop := fnBalancesOfRow.holds Try.pinned (OpenSpec.ofChange fnBalancesOfWrong)

/-- 'laws.FnNetDebts': WHATEVER THE INPUT: true; the input reads as it did. -/
def fnNetDebtsSpec : ChangeSpec := { name := "fnNetDebts", fn := fun _ => fun
  | [d] => { results := [.lit (.bool true)], args := [d] }
  | _ => none }
def fnNetDebtsRow : OpenClaim := { program := "ytbedjebnllimpaa", sum := "db1b4e9479c2cb0bbb33d41200ae6750d5f4059d7ef968998b2eb2667a69e7bd", func := "loop.example/sumsthatadd/laws.FnNetDebts", spec := "fnNetDebts", recurses := true, apart := false }
def FnNetDebtsSaid : Prop := fnNetDebtsRow.holds Try.pinned (OpenSpec.ofChange fnNetDebtsSpec)

/-- ITS FALSE NEIGHBOUR: 'it returns false'. Refute it at one input. -/
def fnNetDebtsWrong : ChangeSpec := { name := "fnNetDebts", fn := fun _ => fun
  | [d] => { results := [.lit (.bool false)], args := [d] }
  | _ => none }
def FnNetDebtsWrongFalsely : Prop := fnNetDebtsRow.holds Try.pinned (OpenSpec.ofChange fnNetDebtsWrong)

/-- 'laws.FnGroupsOf': WHATEVER THE INPUT: true; the input reads as it did. -/
def fnGroupsOfSpec : ChangeSpec := { name := "fnGroupsOf", fn := fun _ => fun
  | [d] => { results := [.lit (.bool true)], args := [d] }
  | _ => none }
def fnGroupsOfRow : OpenClaim := { program := "ytbedjebnllimpaa", sum := "db1b4e9479c2cb0bbb33d41200ae6750d5f4059d7ef968998b2eb2667a69e7bd", func := "loop.example/sumsthatadd/laws.FnGroupsOf", spec := "fnGroupsOf", apart := false }
def FnGroupsOfSaid : Prop := fnGroupsOfRow.holds Try.pinned (OpenSpec.ofChange fnGroupsOfSpec)

/-- ITS FALSE NEIGHBOUR: 'it returns false'. Refute it at one input. -/
def fnGroupsOfWrong : ChangeSpec := { name := "fnGroupsOf", fn := fun _ => fun
  | [d] => { results := [.lit (.bool false)], args := [d] }
  | _ => none }
def FnGroupsOfWrongFalsely : Prop := fnGroupsOfRow.holds Try.pinned (OpenSpec.ofChange fnGroupsOfWrong)

/-- 'laws.FnFewestPays': WHATEVER THE INPUT: true; the input reads as it did. -/
def fnFewestPaysSpec : ChangeSpec := { name := "fnFewestPays", fn := fun _ => fun
  | [d] => { results := [.lit (.bool true)], args := [d] }
  | _ => none }
def fnFewestPaysRow : OpenClaim := { program := "ytbedjebnllimpaa", sum := "db1b4e9479c2cb0bbb33d41200ae6750d5f4059d7ef968998b2eb2667a69e7bd", func := "loop.example/sumsthatadd/laws.FnFewestPays", spec := "fnFewestPays", apart := false }
def FnFewestPaysSaid : Prop := fnFewestPaysRow.holds Try.pinned (OpenSpec.ofChange fnFewestPaysSpec)

/-- ITS FALSE NEIGHBOUR: 'it returns false'. Refute it at one input. -/
def fnFewestPaysWrong : ChangeSpec := { name := "fnFewestPays", fn := fun _ => fun
  | [d] => { results := [.lit (.bool false)], args := [d] }
  | _ => none }
def FnFewestPaysWrongFalsely : Prop := fnFewestPaysRow.holds Try.pinned (OpenSpec.ofChange fnFewestPaysWrong)

/-- 'laws.FnPayPlan': WHATEVER THE INPUT: true; the input reads as it did. -/
def fnPayPlanSpec : ChangeSpec := { name := "fnPayPlan", fn := fun _ => fun
  | [d] => { results := [.lit (.bool true)], args := [d] }
  | _ => none }
def fnPayPlanRow : OpenClaim := { program := "ytbedjebnllimpaa", sum := "db1b4e9479c2cb0bbb33d41200ae6750d5f4059d7ef968998b2eb2667a69e7bd", func := "loop.example/sumsthatadd/laws.FnPayPlan", spec := "fnPayPlan", apart := false }
def FnPayPlanSaid : Prop := fnPayPlanRow.holds Try.pinned (OpenSpec.ofChange fnPayPlanSpec)

/-- ITS FALSE NEIGHBOUR: 'it returns false'. Refute it at one input. -/
def fnPayPlanWrong : ChangeSpec := { name := "fnPayPlan", fn := fun _ => fun
  | [d] => { results := [.lit (.bool false)], args := [d] }
  | _ => none }
def FnPayPlanWrongFalsely : Prop := fnPayPlanRow.holds Try.pinned (OpenSpec.ofChange fnPayPlanWrong)

/-- 'laws.FnAfterPays': WHATEVER THE INPUT: true; the input reads as it did. -/
def fnAfterPaysSpec : ChangeSpec := { name := "fnAfterPays", fn := fun _ => fun
  | [d] => { results := [.lit (.bool true)], args := [d] }
  | _ => none }
def fnAfterPaysRow : OpenClaim := { program := "ytbedjebnllimpaa", sum := "db1b4e9479c2cb0bbb33d41200ae6750d5f4059d7ef968998b2eb2667a69e7bd", func := "loop.example/sumsthatadd/laws.FnAfterPays", spec := "fnAfterPays", apart := false }
def FnAfterPaysSaid : Prop := fnAfterPaysRow.holds Try.pinned (OpenSpec.ofChange fnAfterPaysSpec)

/-- ITS FALSE NEIGHBOUR: 'it returns false'. Refute it at one input. -/
def fnAfterPaysWrong : ChangeSpec := { name := "fnAfterPays", fn := fun _ => fun
  | [d] => { results := [.lit (.bool false)], args := [d] }
  | _ => none }
def FnAfterPaysWrongFalsely : Prop := fnAfterPaysRow.holds Try.pinned (OpenSpec.ofChange fnAfterPaysWrong)

/-- 'laws.FnBillShares': WHATEVER THE INPUT: true; the input reads as it did. -/
def fnBillSharesSpec : ChangeSpec := { name := "fnBillShares", fn := fun _ => fun
  | [d] => { results := [.lit (.bool true)], args := [d] }
  | _ => none }
def fnBillSharesRow : OpenClaim := { program := "ytbedjebnllimpaa", sum := "db1b4e9479c2cb0bbb33d41200ae6750d5f4059d7ef968998b2eb2667a69e7bd", func := "loop.example/sumsthatadd/laws.FnBillShares", spec := "fnBillShares", apart := false }
def FnBillSharesSaid : Prop := fnBillSharesRow.holds Try.pinned (OpenSpec.ofChange fnBillSharesSpec)

/-- ITS FALSE NEIGHBOUR: 'it returns false'. Refute it at one input. -/
def fnBillSharesWrong : ChangeSpec := { name := "fnBillShares", fn := fun _ => fun
  | [d] => { results := [.lit (.bool false)], args := [d] }
  | _ => none }
def FnBillSharesWrongFalsely : Prop := fnBillSharesRow.holds Try.pinned (OpenSpec.ofChange fnBillSharesWrong)

/-- 'laws.FnExactValidDebts': WHATEVER THE INPUT: true; the input reads as it did. -/
def fnExactValidDebtsSpec : ChangeSpec := { name := "fnExactValidDebts", fn := fun _ => fun
  | [d] => { results := [.lit (.bool true)], args := [d] }
  | _ => none }
def fnExactValidDebtsRow : OpenClaim := { program := "ytbedjebnllimpaa", sum := "db1b4e9479c2cb0bbb33d41200ae6750d5f4059d7ef968998b2eb2667a69e7bd", func := "loop.example/sumsthatadd/laws.FnExactValidDebts", spec := "fnExactValidDebts", apart := false }
def FnExactValidDebtsSaid : Prop := fnExactValidDebtsRow.holds Try.pinned (OpenSpec.ofChange fnExactValidDebtsSpec)

/-- ITS FALSE NEIGHBOUR: 'it returns false'. Refute it at one input. -/
def fnExactValidDebtsWrong : ChangeSpec := { name := "fnExactValidDebts", fn := fun _ => fun
  | [d] => { results := [.lit (.bool false)], args := [d] }
  | _ => none }
def FnExactValidDebtsWrongFalsely : Prop := fnExactValidDebtsRow.holds Try.pinned (OpenSpec.ofChange fnExactValidDebtsWrong)

/-- 'laws.FnExactBalancesOf': WHATEVER THE INPUT: true; the input reads as it did. -/
def fnExactBalancesOfSpec : ChangeSpec := { name := "fnExactBalancesOf", fn := fun _ => fun
  | [d] => { results := [.lit (.bool true)], args := [d] }
  | _ => none }
def fnExactBalancesOfRow : OpenClaim := { program := "ytbedjebnllimpaa", sum := "db1b4e9479c2cb0bbb33d41200ae6750d5f4059d7ef968998b2eb2667a69e7bd", func := "loop.example/sumsthatadd/laws.FnExactBalancesOf", spec := "fnExactBalancesOf", apart := false }
def FnExactBalancesOfSaid : Prop := fnExactBalancesOfRow.holds Try.pinned (OpenSpec.ofChange fnExactBalancesOfSpec)

/-- ITS FALSE NEIGHBOUR: 'it returns false'. Refute it at one input. -/
def fnExactBalancesOfWrong : ChangeSpec := { name := "fnExactBalancesOf", fn := fun _ => fun
  | [d] => { results := [.lit (.bool false)], args := [d] }
  | _ => none }
def FnExactBalancesOfWrongFalsely : Prop := fnExactBalancesOfRow.holds Try.pinned (OpenSpec.ofChange fnExactBalancesOfWrong)

/-- 'laws.FnExactNetDebts': WHATEVER THE INPUT: true; the input reads as it did. -/
def fnExactNetDebtsSpec : ChangeSpec := { name := "fnExactNetDebts", fn := fun _ => fun
  | [d] => { results := [.lit (.bool true)], args := [d] }
  | _ => none }
def fnExactNetDebtsRow : OpenClaim := { program := "ytbedjebnllimpaa", sum := "db1b4e9479c2cb0bbb33d41200ae6750d5f4059d7ef968998b2eb2667a69e7bd", func := "loop.example/sumsthatadd/laws.FnExactNetDebts", spec := "fnExactNetDebts", recurses := true, apart := false }
def FnExactNetDebtsSaid : Prop := fnExactNetDebtsRow.holds Try.pinned (OpenSpec.ofChange fnExactNetDebtsSpec)

/-- ITS FALSE NEIGHBOUR: 'it returns false'. Refute it at one input. -/
def fnExactNetDebtsWrong : ChangeSpec := { name := "fnExactNetDebts", fn := fun _ => fun
  | [d] => { results := [.lit (.bool false)], args := [d] }
  | _ => none }
def FnExactNetDebtsWrongFalsely : Prop := fnExactNetDebtsRow.holds Try.pinned (OpenSpec.ofChange fnExactNetDebtsWrong)

/-- 'laws.FnExactGroupsOf': WHATEVER THE INPUT: true; the input reads as it did. -/
def fnExactGroupsOfSpec : ChangeSpec := { name := "fnExactGroupsOf", fn := fun _ => fun
  | [d] => { results := [.lit (.bool true)], args := [d] }
  | _ => none }
def fnExactGroupsOfRow : OpenClaim := { program := "ytbedjebnllimpaa", sum := "db1b4e9479c2cb0bbb33d41200ae6750d5f4059d7ef968998b2eb2667a69e7bd", func := "loop.example/sumsthatadd/laws.FnExactGroupsOf", spec := "fnExactGroupsOf", apart := false }
def FnExactGroupsOfSaid : Prop := fnExactGroupsOfRow.holds Try.pinned (OpenSpec.ofChange fnExactGroupsOfSpec)

/-- ITS FALSE NEIGHBOUR: 'it returns false'. Refute it at one input. -/
def fnExactGroupsOfWrong : ChangeSpec := { name := "fnExactGroupsOf", fn := fun _ => fun
  | [d] => { results := [.lit (.bool false)], args := [d] }
  | _ => none }
def FnExactGroupsOfWrongFalsely : Prop := fnExactGroupsOfRow.holds Try.pinned (OpenSpec.ofChange fnExactGroupsOfWrong)

/-- 'laws.FnExactFewestPays': WHATEVER THE INPUT: true; the input reads as it did. -/
def fnExactFewestPaysSpec : ChangeSpec := { name := "fnExactFewestPays", fn := fun _ => fun
  | [d] => { results := [.lit (.bool true)], args := [d] }
  | _ => none }
def fnExactFewestPaysRow : OpenClaim := { program := "ytbedjebnllimpaa", sum := "db1b4e9479c2cb0bbb33d41200ae6750d5f4059d7ef968998b2eb2667a69e7bd", func := "loop.example/sumsthatadd/laws.FnExactFewestPays", spec := "fnExactFewestPays", apart := false }
def FnExactFewestPaysSaid : Prop := fnExactFewestPaysRow.holds Try.pinned (OpenSpec.ofChange fnExactFewestPaysSpec)

/-- ITS FALSE NEIGHBOUR: 'it returns false'. Refute it at one input. -/
def fnExactFewestPaysWrong : ChangeSpec := { name := "fnExactFewestPays", fn := fun _ => fun
  | [d] => { results := [.lit (.bool false)], args := [d] }
  | _ => none }
def FnExactFewestPaysWrongFalsely : Prop := fnExactFewestPaysRow.holds Try.pinned (OpenSpec.ofChange fnExactFewestPaysWrong)

/-- 'laws.FnExactPayPlan': WHATEVER THE INPUT: true; the input reads as it did. -/
def fnExactPayPlanSpec : ChangeSpec := { name := "fnExactPayPlan", fn := fun _ => fun
  | [d] => { results := [.lit (.bool true)], args := [d] }
  | _ => none }
def fnExactPayPlanRow : OpenClaim := { program := "ytbedjebnllimpaa", sum := "db1b4e9479c2cb0bbb33d41200ae6750d5f4059d7ef968998b2eb2667a69e7bd", func := "loop.example/sumsthatadd/laws.FnExactPayPlan", spec := "fnExactPayPlan", apart := false }
def FnExactPayPlanSaid : Prop := fnExactPayPlanRow.holds Try.pinned (OpenSpec.ofChange fnExactPayPlanSpec)

/-- ITS FALSE NEIGHBOUR: 'it returns false'. Refute it at one input. -/
def fnExactPayPlanWrong : ChangeSpec := { name := "fnExactPayPlan", fn := fun _ => fun
  | [d] => { results := [.lit (.bool false)], args := [d] }
  | _ => none }
def FnExactPayPlanWrongFalsely : Prop := fnExactPayPlanRow.holds Try.pinned (OpenSpec.ofChange fnExactPayPlanWrong)

/-- 'laws.FnExactAfterPays': WHATEVER THE INPUT: true; the input reads as it did. -/
def fnExactAfterPaysSpec : ChangeSpec := { name := "fnExactAfterPays", fn := fun _ => fun
  | [d1, d2] => { results := [.lit (.bool true)], args := [d1, d2] }
  | _ => none }
def fnExactAfterPaysRow : OpenClaim := { program := "ytbedjebnllimpaa", sum := "db1b4e9479c2cb0bbb33d41200ae6750d5f4059d7ef968998b2eb2667a69e7bd", func := "loop.example/sumsthatadd/laws.FnExactAfterPays", spec := "fnExactAfterPays", apart := false }
def FnExactAfterPaysSaid : Prop := fnExactAfterPaysRow.holds Try.pinned (OpenSpec.ofChange fnExactAfterPaysSpec)

/-- ITS FALSE NEIGHBOUR: 'it returns false'. Refute it at one input. -/
def fnExactAfterPaysWrong : ChangeSpec := { name := "fnExactAfterPays", fn := fun _ => fun
  | [d1, d2] => { results := [.lit (.bool false)], args := [d1, d2] }
  | _ => none }
def FnExactAfterPaysWrongFalsely : Prop := fnExactAfterPaysRow.holds Try.pinned (OpenSpec.ofChange fnExactAfterPaysWrong)

/-- 'laws.FnExactBillShares': WHATEVER THE INPUT: true; the input reads as it did. -/
def fnExactBillSharesSpec : ChangeSpec := { name := "fnExactBillShares", fn := fun _ => fun
  | [d] => { results := [.lit (.bool true)], args := [d] }
  | _ => none }
def fnExactBillSharesRow : OpenClaim := { program := "ytbedjebnllimpaa", sum := "db1b4e9479c2cb0bbb33d41200ae6750d5f4059d7ef968998b2eb2667a69e7bd", func := "loop.example/sumsthatadd/laws.FnExactBillShares", spec := "fnExactBillShares", apart := false }
def FnExactBillSharesSaid : Prop := fnExactBillSharesRow.holds Try.pinned (OpenSpec.ofChange fnExactBillSharesSpec)

/-- ITS FALSE NEIGHBOUR: 'it returns false'. Refute it at one input. -/
def fnExactBillSharesWrong : ChangeSpec := { name := "fnExactBillShares", fn := fun _ => fun
  | [d] => { results := [.lit (.bool false)], args := [d] }
  | _ => none }
def FnExactBillSharesWrongFalsely : Prop := fnExactBillSharesRow.holds Try.pinned (OpenSpec.ofChange fnExactBillSharesWrong)

/- THE SECOND FORM. 'bulk': how many values and letters a reading holds, each counted each time it is reached (what is shared counts as often as it is met; a slice's spare places count too). A statement '..UptoSaid' is the law's where the arguments, and the package variables that the reading takes, are together of bulk at most 1048576: NARROWER than '..Said'. Prove '..Said' where nothing that the law and all that it calls make is longer than what came in: it says more and counts as full. Else prove '..UptoSaid'. A law counts once. -/
mutual
def uptoBulk {H : Type} : DataW H → Nat
  | .lit (.string bytes) => bytes.length + 1
  | .lit _ => 1
  | .nil => 1
  | .ptr d => uptoBulk d + 1
  | .slice elems spare => uptoBulkAll elems + uptoBulkAll spare + 1
  | .agg parts => uptoBulkAll parts + 1
  | .iface _ d => uptoBulk d + 1
  | .map entries => uptoBulkEntries entries + 1
  | .held _ => 1
def uptoBulkAll {H : Type} : List (DataW H) → Nat
  | [] => 0
  | d :: r => uptoBulk d + uptoBulkAll r
def uptoBulkEntries {H : Type} : List (Lit × DataW H) → Nat
  | [] => 0
  | x :: r => uptoBulkEntry x + uptoBulkEntries r
def uptoBulkEntry {H : Type} : Lit × DataW H → Nat
  | (.string bytes, d) => bytes.length + uptoBulk d + 1
  | (_, d) => uptoBulk d + 1
 end
def uptoSmall : (H : Type) → List (DataW H) → Bool := fun _ ds => decide (uptoBulkAll ds ≤ 1048576)
def OpenSpec.upto (s : _root_.Go.ChangeSpec) : _root_.Go.OpenSpec := { _root_.Go.OpenSpec.ofChange s with cond := some uptoSmall }

/-- 'laws.FnValidDebts', WHERE WHAT IT READS IS OF BULK AT MOST 1048576: true; the input reads as it did. -/
def fnValidDebtsUptoRow : OpenClaim := { program := "ytbedjebnllimpaa", sum := "db1b4e9479c2cb0bbb33d41200ae6750d5f4059d7ef968998b2eb2667a69e7bd", func := "loop.example/sumsthatadd/laws.FnValidDebts", spec := "fnValidDebts", apart := false, narrowed := true }
def FnValidDebtsUptoSaid : Prop := fnValidDebtsUptoRow.holds Try.pinned (OpenSpec.upto fnValidDebtsSpec)

/-- 'laws.FnBalancesOf', WHERE WHAT IT READS IS OF BULK AT MOST 1048576: true; the input reads as it did. -/
def fnBalancesOfUptoRow : OpenClaim := { program := "ytbedjebnllimpaa", sum := "db1b4e9479c2cb0bbb33d41200ae6750d5f4059d7ef968998b2eb2667a69e7bd", func := "loop.example/sumsthatadd/laws.FnBalancesOf", spec := "fnBalancesOf", apart := false, narrowed := true }
def FnBalancesOfUptoSaid : Prop := fnBalancesOfUptoRow.holds Try.pinned (OpenSpec.upto fnBalancesOfSpec)

/-- 'laws.FnNetDebts', WHERE WHAT IT READS IS OF BULK AT MOST 1048576: true; the input reads as it did. -/
def fnNetDebtsUptoRow : OpenClaim := { program := "ytbedjebnllimpaa", sum := "db1b4e9479c2cb0bbb33d41200ae6750d5f4059d7ef968998b2eb2667a69e7bd", func := "loop.example/sumsthatadd/laws.FnNetDebts", spec := "fnNetDebts", recurses := true, apart := false, narrowed := true }
def FnNetDebtsUptoSaid : Prop := fnNetDebtsUptoRow.holds Try.pinned (OpenSpec.upto fnNetDebtsSpec)

/-- 'laws.FnGroupsOf', WHERE WHAT IT READS IS OF BULK AT MOST 1048576: true; the input reads as it did. -/
def fnGroupsOfUptoRow : OpenClaim := { program := "ytbedjebnllimpaa", sum := "db1b4e9479c2cb0bbb33d41200ae6750d5f4059d7ef968998b2eb2667a69e7bd", func := "loop.example/sumsthatadd/laws.FnGroupsOf", spec := "fnGroupsOf", apart := false, narrowed := true }
def FnGroupsOfUptoSaid : Prop := fnGroupsOfUptoRow.holds Try.pinned (OpenSpec.upto fnGroupsOfSpec)

/-- 'laws.FnFewestPays', WHERE WHAT IT READS IS OF BULK AT MOST 1048576: true; the input reads as it did. -/
def fnFewestPaysUptoRow : OpenClaim := { program := "ytbedjebnllimpaa", sum := "db1b4e9479c2cb0bbb33d41200ae6750d5f4059d7ef968998b2eb2667a69e7bd", func := "loop.example/sumsthatadd/laws.FnFewestPays", spec := "fnFewestPays", apart := false, narrowed := true }
def FnFewestPaysUptoSaid : Prop := fnFewestPaysUptoRow.holds Try.pinned (OpenSpec.upto fnFewestPaysSpec)

/-- 'laws.FnPayPlan', WHERE WHAT IT READS IS OF BULK AT MOST 1048576: true; the input reads as it did. -/
def fnPayPlanUptoRow : OpenClaim := { program := "ytbedjebnllimpaa", sum := "db1b4e9479c2cb0bbb33d41200ae6750d5f4059d7ef968998b2eb2667a69e7bd", func := "loop.example/sumsthatadd/laws.FnPayPlan", spec := "fnPayPlan", apart := false, narrowed := true }
def FnPayPlanUptoSaid : Prop := fnPayPlanUptoRow.holds Try.pinned (OpenSpec.upto fnPayPlanSpec)

/-- 'laws.FnAfterPays', WHERE WHAT IT READS IS OF BULK AT MOST 1048576: true; the input reads as it did. -/
def fnAfterPaysUptoRow : OpenClaim := { program := "ytbedjebnllimpaa", sum := "db1b4e9479c2cb0bbb33d41200ae6750d5f4059d7ef968998b2eb2667a69e7bd", func := "loop.example/sumsthatadd/laws.FnAfterPays", spec := "fnAfterPays", apart := false, narrowed := true }
def FnAfterPaysUptoSaid : Prop := fnAfterPaysUptoRow.holds Try.pinned (OpenSpec.upto fnAfterPaysSpec)

/-- 'laws.FnBillShares', WHERE WHAT IT READS IS OF BULK AT MOST 1048576: true; the input reads as it did. -/
def fnBillSharesUptoRow : OpenClaim := { program := "ytbedjebnllimpaa", sum := "db1b4e9479c2cb0bbb33d41200ae6750d5f4059d7ef968998b2eb2667a69e7bd", func := "loop.example/sumsthatadd/laws.FnBillShares", spec := "fnBillShares", apart := false, narrowed := true }
def FnBillSharesUptoSaid : Prop := fnBillSharesUptoRow.holds Try.pinned (OpenSpec.upto fnBillSharesSpec)

/-- 'laws.FnExactValidDebts', WHERE WHAT IT READS IS OF BULK AT MOST 1048576: true; the input reads as it did. -/
def fnExactValidDebtsUptoRow : OpenClaim := { program := "ytbedjebnllimpaa", sum := "db1b4e9479c2cb0bbb33d41200ae6750d5f4059d7ef968998b2eb2667a69e7bd", func := "loop.example/sumsthatadd/laws.FnExactValidDebts", spec := "fnExactValidDebts", apart := false, narrowed := true }
def FnExactValidDebtsUptoSaid : Prop := fnExactValidDebtsUptoRow.holds Try.pinned (OpenSpec.upto fnExactValidDebtsSpec)

/-- 'laws.FnExactBalancesOf', WHERE WHAT IT READS IS OF BULK AT MOST 1048576: true; the input reads as it did. -/
def fnExactBalancesOfUptoRow : OpenClaim := { program := "ytbedjebnllimpaa", sum := "db1b4e9479c2cb0bbb33d41200ae6750d5f4059d7ef968998b2eb2667a69e7bd", func := "loop.example/sumsthatadd/laws.FnExactBalancesOf", spec := "fnExactBalancesOf", apart := false, narrowed := true }
def FnExactBalancesOfUptoSaid : Prop := fnExactBalancesOfUptoRow.holds Try.pinned (OpenSpec.upto fnExactBalancesOfSpec)

/-- 'laws.FnExactNetDebts', WHERE WHAT IT READS IS OF BULK AT MOST 1048576: true; the input reads as it did. -/
def fnExactNetDebtsUptoRow : OpenClaim := { program := "ytbedjebnllimpaa", sum := "db1b4e9479c2cb0bbb33d41200ae6750d5f4059d7ef968998b2eb2667a69e7bd", func := "loop.example/sumsthatadd/laws.FnExactNetDebts", spec := "fnExactNetDebts", recurses := true, apart := false, narrowed := true }
def FnExactNetDebtsUptoSaid : Prop := fnExactNetDebtsUptoRow.holds Try.pinned (OpenSpec.upto fnExactNetDebtsSpec)

/-- 'laws.FnExactGroupsOf', WHERE WHAT IT READS IS OF BULK AT MOST 1048576: true; the input reads as it did. -/
def fnExactGroupsOfUptoRow : OpenClaim := { program := "ytbedjebnllimpaa", sum := "db1b4e9479c2cb0bbb33d41200ae6750d5f4059d7ef968998b2eb2667a69e7bd", func := "loop.example/sumsthatadd/laws.FnExactGroupsOf", spec := "fnExactGroupsOf", apart := false, narrowed := true }
def FnExactGroupsOfUptoSaid : Prop := fnExactGroupsOfUptoRow.holds Try.pinned (OpenSpec.upto fnExactGroupsOfSpec)

/-- 'laws.FnExactFewestPays', WHERE WHAT IT READS IS OF BULK AT MOST 1048576: true; the input reads as it did. -/
def fnExactFewestPaysUptoRow : OpenClaim := { program := "ytbedjebnllimpaa", sum := "db1b4e9479c2cb0bbb33d41200ae6750d5f4059d7ef968998b2eb2667a69e7bd", func := "loop.example/sumsthatadd/laws.FnExactFewestPays", spec := "fnExactFewestPays", apart := false, narrowed := true }
def FnExactFewestPaysUptoSaid : Prop := fnExactFewestPaysUptoRow.holds Try.pinned (OpenSpec.upto fnExactFewestPaysSpec)

/-- 'laws.FnExactPayPlan', WHERE WHAT IT READS IS OF BULK AT MOST 1048576: true; the input reads as it did. -/
def fnExactPayPlanUptoRow : OpenClaim := { program := "ytbedjebnllimpaa", sum := "db1b4e9479c2cb0bbb33d41200ae6750d5f4059d7ef968998b2eb2667a69e7bd", func := "loop.example/sumsthatadd/laws.FnExactPayPlan", spec := "fnExactPayPlan", apart := false, narrowed := true }
def FnExactPayPlanUptoSaid : Prop := fnExactPayPlanUptoRow.holds Try.pinned (OpenSpec.upto fnExactPayPlanSpec)

/-- 'laws.FnExactAfterPays', WHERE WHAT IT READS IS OF BULK AT MOST 1048576: true; the input reads as it did. -/
def fnExactAfterPaysUptoRow : OpenClaim := { program := "ytbedjebnllimpaa", sum := "db1b4e9479c2cb0bbb33d41200ae6750d5f4059d7ef968998b2eb2667a69e7bd", func := "loop.example/sumsthatadd/laws.FnExactAfterPays", spec := "fnExactAfterPays", apart := false, narrowed := true }
def FnExactAfterPaysUptoSaid : Prop := fnExactAfterPaysUptoRow.holds Try.pinned (OpenSpec.upto fnExactAfterPaysSpec)

/-- 'laws.FnExactBillShares', WHERE WHAT IT READS IS OF BULK AT MOST 1048576: true; the input reads as it did. -/
def fnExactBillSharesUptoRow : OpenClaim := { program := "ytbedjebnllimpaa", sum := "db1b4e9479c2cb0bbb33d41200ae6750d5f4059d7ef968998b2eb2667a69e7bd", func := "loop.example/sumsthatadd/laws.FnExactBillShares", spec := "fnExactBillShares", apart := false, narrowed := true }
def FnExactBillSharesUptoSaid : Prop := fnExactBillSharesUptoRow.holds Try.pinned (OpenSpec.upto fnExactBillSharesSpec)

end Rows
end Go.Proofs.Ytbedjebnllimpaa
