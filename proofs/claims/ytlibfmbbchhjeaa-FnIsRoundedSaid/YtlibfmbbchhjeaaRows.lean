/-
  No cell of these rows narrows 'for every input' (looked for: loops, veiled, ifaces, maps, wideKeys, modest, calm, conditions, laid).
  DERIVED. THE GIVEN ROWS OF THIS SEAT. 14 by the template 'for every input the law returns true; each argument reads behind the call as it read before'; 0 by the template 'total and deterministic' (their statements: YtlibfmbbchhjeaaTotals.lean).
  GIVEN WITH THE SEED: the statements are not yours to turn. If you find one false, say at which input.
  Laid BY PROGRAM, IN A SANDBOX (cutbox-rows.mjs): the forced cells as the released guide's own fill.sh prints them over the translation 15b9af1dcfdf612d… (all of the seat's roots in one cut). By AI agents, Wed Nov 11 2026. No macro, syntax, notation, axiom, sorry.
-/
import Derived.Test.YtlibfmbbchhjeaaChecked
import GoSem.Claim
import GoSem.ClaimJoined
import GoSem.ClaimMapViews
import Derived.JoinedTies
import Derived.KernelRfl
namespace Go.Proofs.Ytlibfmbbchhjeaa
/- THE CELL 'sum', in the pinned program and in every row, IS THE sha256 OF THE DUMP (.gsa) THAT YtlibfmbbchhjeaaProg.lean LOADS. Nothing in Lean hashes anything: it is a label: what it is worth is what the hold of that sum in a sandbox is worth. -/
noncomputable def Try.pinned : Pinned := { name := "ytlibfmbbchhjeaa", sum := "15b9af1dcfdf612d368d9cf50d7c434f7cf6fed2e2e21c929b7bbbe22f276324", checked := Try.checked }
namespace Rows
def none {H : Type} : Left H := { results := [], args := [] }

/-- 'laws.FnValidParts': WHATEVER THE INPUT: true; the input reads as it did. -/
def fnValidPartsSpec : ChangeSpec := { name := "fnValidParts", fn := fun _ => fun
  | [d] => { results := [.lit (.bool true)], args := [d] }
  | _ => none }
def fnValidPartsRow : OpenClaim := { program := "ytlibfmbbchhjeaa", sum := "15b9af1dcfdf612d368d9cf50d7c434f7cf6fed2e2e21c929b7bbbe22f276324", func := "loop.example/sumsthatadd/laws.FnValidParts", spec := "fnValidParts", apart := false }
def FnValidPartsSaid : Prop := fnValidPartsRow.holds Try.pinned (OpenSpec.ofChange fnValidPartsSpec)

/-- ITS FALSE NEIGHBOUR: 'it returns false'. Refute it at one input. -/
def fnValidPartsWrong : ChangeSpec := { name := "fnValidParts", fn := fun _ => fun
  | [d] => { results := [.lit (.bool false)], args := [d] }
  | _ => none }
def FnValidPartsWrongFalsely : Prop := fnValidPartsRow.holds Try.pinned (OpenSpec.ofChange fnValidPartsWrong)

/-- 'laws.FnShareByRest': WHATEVER THE INPUT: true; the input reads as it did. -/
def fnShareByRestSpec : ChangeSpec := { name := "fnShareByRest", fn := fun _ => fun
  | [d] => { results := [.lit (.bool true)], args := [d] }
  | _ => none }
def fnShareByRestRow : OpenClaim := { program := "ytlibfmbbchhjeaa", sum := "15b9af1dcfdf612d368d9cf50d7c434f7cf6fed2e2e21c929b7bbbe22f276324", func := "loop.example/sumsthatadd/laws.FnShareByRest", spec := "fnShareByRest", unfollowed := true, recurses := true, apart := false }
def FnShareByRestSaid : Prop := fnShareByRestRow.holds Try.pinned (OpenSpec.ofChange fnShareByRestSpec)

/-- ITS FALSE NEIGHBOUR: 'it returns false'. Refute it at one input. -/
def fnShareByRestWrong : ChangeSpec := { name := "fnShareByRest", fn := fun _ => fun
  | [d] => { results := [.lit (.bool false)], args := [d] }
  | _ => none }
def FnShareByRestWrongFalsely : Prop := fnShareByRestRow.holds Try.pinned (OpenSpec.ofChange fnShareByRestWrong)

/-- 'laws.FnShareBySums': WHATEVER THE INPUT: true; the input reads as it did. -/
def fnShareBySumsSpec : ChangeSpec := { name := "fnShareBySums", fn := fun _ => fun
  | [d] => { results := [.lit (.bool true)], args := [d] }
  | _ => none }
def fnShareBySumsRow : OpenClaim := { program := "ytlibfmbbchhjeaa", sum := "15b9af1dcfdf612d368d9cf50d7c434f7cf6fed2e2e21c929b7bbbe22f276324", func := "loop.example/sumsthatadd/laws.FnShareBySums", spec := "fnShareBySums", apart := false }
def FnShareBySumsSaid : Prop := fnShareBySumsRow.holds Try.pinned (OpenSpec.ofChange fnShareBySumsSpec)

/-- ITS FALSE NEIGHBOUR: 'it returns false'. Refute it at one input. -/
def fnShareBySumsWrong : ChangeSpec := { name := "fnShareBySums", fn := fun _ => fun
  | [d] => { results := [.lit (.bool false)], args := [d] }
  | _ => none }
def FnShareBySumsWrongFalsely : Prop := fnShareBySumsRow.holds Try.pinned (OpenSpec.ofChange fnShareBySumsWrong)

/-- 'laws.FnSplitEven': WHATEVER THE INPUT: true; the input reads as it did. -/
def fnSplitEvenSpec : ChangeSpec := { name := "fnSplitEven", fn := fun _ => fun
  | [d] => { results := [.lit (.bool true)], args := [d] }
  | _ => none }
def fnSplitEvenRow : OpenClaim := { program := "ytlibfmbbchhjeaa", sum := "15b9af1dcfdf612d368d9cf50d7c434f7cf6fed2e2e21c929b7bbbe22f276324", func := "loop.example/sumsthatadd/laws.FnSplitEven", spec := "fnSplitEven", unfollowed := true, recurses := true, apart := false }
def FnSplitEvenSaid : Prop := fnSplitEvenRow.holds Try.pinned (OpenSpec.ofChange fnSplitEvenSpec)

/-- ITS FALSE NEIGHBOUR: 'it returns false'. Refute it at one input. -/
def fnSplitEvenWrong : ChangeSpec := { name := "fnSplitEven", fn := fun _ => fun
  | [d] => { results := [.lit (.bool false)], args := [d] }
  | _ => none }
def FnSplitEvenWrongFalsely : Prop := fnSplitEvenRow.holds Try.pinned (OpenSpec.ofChange fnSplitEvenWrong)

/-- 'laws.FnIsFair': WHATEVER THE INPUT: true; the input reads as it did. -/
def fnIsFairSpec : ChangeSpec := { name := "fnIsFair", fn := fun _ => fun
  | [d] => { results := [.lit (.bool true)], args := [d] }
  | _ => none }
def fnIsFairRow : OpenClaim := { program := "ytlibfmbbchhjeaa", sum := "15b9af1dcfdf612d368d9cf50d7c434f7cf6fed2e2e21c929b7bbbe22f276324", func := "loop.example/sumsthatadd/laws.FnIsFair", spec := "fnIsFair", apart := false }
def FnIsFairSaid : Prop := fnIsFairRow.holds Try.pinned (OpenSpec.ofChange fnIsFairSpec)

/-- ITS FALSE NEIGHBOUR: 'it returns false'. Refute it at one input. -/
def fnIsFairWrong : ChangeSpec := { name := "fnIsFair", fn := fun _ => fun
  | [d] => { results := [.lit (.bool false)], args := [d] }
  | _ => none }
def FnIsFairWrongFalsely : Prop := fnIsFairRow.holds Try.pinned (OpenSpec.ofChange fnIsFairWrong)

/-- 'laws.FnIsRounded': WHATEVER THE INPUT: true; the input reads as it did. -/
def fnIsRoundedSpec : ChangeSpec := { name := "fnIsRounded", fn := fun _ => fun
  | [d] => { results := [.lit (.bool true)], args := [d] }
  | _ => none }
def fnIsRoundedRow : OpenClaim := { program := "ytlibfmbbchhjeaa", sum := "15b9af1dcfdf612d368d9cf50d7c434f7cf6fed2e2e21c929b7bbbe22f276324", func := "loop.example/sumsthatadd/laws.FnIsRounded", spec := "fnIsRounded", recurses := true, apart := false }
def FnIsRoundedSaid : Prop := fnIsRoundedRow.holds Try.pinned (OpenSpec.ofChange fnIsRoundedSpec)

/-- ITS FALSE NEIGHBOUR: 'it returns false'. Refute it at one input. -/
def fnIsRoundedWrong : ChangeSpec := { name := "fnIsRounded", fn := fun _ => fun
  | [d] => { results := [.lit (.bool false)], args := [d] }
  | _ => none }
def FnIsRoundedWrongFalsely : Prop := fnIsRoundedRow.holds Try.pinned (OpenSpec.ofChange fnIsRoundedWrong)

/-- 'laws.FnRoundGrid': WHATEVER THE INPUT: true; the input reads as it did. -/
def fnRoundGridSpec : ChangeSpec := { name := "fnRoundGrid", fn := fun _ => fun
  | [d] => { results := [.lit (.bool true)], args := [d] }
  | _ => none }
def fnRoundGridRow : OpenClaim := { program := "ytlibfmbbchhjeaa", sum := "15b9af1dcfdf612d368d9cf50d7c434f7cf6fed2e2e21c929b7bbbe22f276324", func := "loop.example/sumsthatadd/laws.FnRoundGrid", spec := "fnRoundGrid", recurses := true, apart := false }
def FnRoundGridSaid : Prop := fnRoundGridRow.holds Try.pinned (OpenSpec.ofChange fnRoundGridSpec)

/-- ITS FALSE NEIGHBOUR: 'it returns false'. Refute it at one input. -/
def fnRoundGridWrong : ChangeSpec := { name := "fnRoundGrid", fn := fun _ => fun
  | [d] => { results := [.lit (.bool false)], args := [d] }
  | _ => none }
def FnRoundGridWrongFalsely : Prop := fnRoundGridRow.holds Try.pinned (OpenSpec.ofChange fnRoundGridWrong)

/-- 'laws.FnExactValidParts': WHATEVER THE INPUT: true; the input reads as it did. -/
def fnExactValidPartsSpec : ChangeSpec := { name := "fnExactValidParts", fn := fun _ => fun
  | [d] => { results := [.lit (.bool true)], args := [d] }
  | _ => none }
def fnExactValidPartsRow : OpenClaim := { program := "ytlibfmbbchhjeaa", sum := "15b9af1dcfdf612d368d9cf50d7c434f7cf6fed2e2e21c929b7bbbe22f276324", func := "loop.example/sumsthatadd/laws.FnExactValidParts", spec := "fnExactValidParts", apart := false }
def FnExactValidPartsSaid : Prop := fnExactValidPartsRow.holds Try.pinned (OpenSpec.ofChange fnExactValidPartsSpec)

/-- ITS FALSE NEIGHBOUR: 'it returns false'. Refute it at one input. -/
def fnExactValidPartsWrong : ChangeSpec := { name := "fnExactValidParts", fn := fun _ => fun
  | [d] => { results := [.lit (.bool false)], args := [d] }
  | _ => none }
def FnExactValidPartsWrongFalsely : Prop := fnExactValidPartsRow.holds Try.pinned (OpenSpec.ofChange fnExactValidPartsWrong)

/-- 'laws.FnExactShareByRest': WHATEVER THE INPUT: true; the input reads as it did. -/
def fnExactShareByRestSpec : ChangeSpec := { name := "fnExactShareByRest", fn := fun _ => fun
  | [d1, d2] => { results := [.lit (.bool true)], args := [d1, d2] }
  | _ => none }
def fnExactShareByRestRow : OpenClaim := { program := "ytlibfmbbchhjeaa", sum := "15b9af1dcfdf612d368d9cf50d7c434f7cf6fed2e2e21c929b7bbbe22f276324", func := "loop.example/sumsthatadd/laws.FnExactShareByRest", spec := "fnExactShareByRest", unfollowed := true, recurses := true, apart := false }
def FnExactShareByRestSaid : Prop := fnExactShareByRestRow.holds Try.pinned (OpenSpec.ofChange fnExactShareByRestSpec)

/-- ITS FALSE NEIGHBOUR: 'it returns false'. Refute it at one input. -/
def fnExactShareByRestWrong : ChangeSpec := { name := "fnExactShareByRest", fn := fun _ => fun
  | [d1, d2] => { results := [.lit (.bool false)], args := [d1, d2] }
  | _ => none }
def FnExactShareByRestWrongFalsely : Prop := fnExactShareByRestRow.holds Try.pinned (OpenSpec.ofChange fnExactShareByRestWrong)

/-- 'laws.FnExactShareBySums': WHATEVER THE INPUT: true; the input reads as it did. -/
def fnExactShareBySumsSpec : ChangeSpec := { name := "fnExactShareBySums", fn := fun _ => fun
  | [d1, d2] => { results := [.lit (.bool true)], args := [d1, d2] }
  | _ => none }
def fnExactShareBySumsRow : OpenClaim := { program := "ytlibfmbbchhjeaa", sum := "15b9af1dcfdf612d368d9cf50d7c434f7cf6fed2e2e21c929b7bbbe22f276324", func := "loop.example/sumsthatadd/laws.FnExactShareBySums", spec := "fnExactShareBySums", apart := false }
def FnExactShareBySumsSaid : Prop := fnExactShareBySumsRow.holds Try.pinned (OpenSpec.ofChange fnExactShareBySumsSpec)

/-- ITS FALSE NEIGHBOUR: 'it returns false'. Refute it at one input. -/
def fnExactShareBySumsWrong : ChangeSpec := { name := "fnExactShareBySums", fn := fun _ => fun
  | [d1, d2] => { results := [.lit (.bool false)], args := [d1, d2] }
  | _ => none }
def FnExactShareBySumsWrongFalsely : Prop := fnExactShareBySumsRow.holds Try.pinned (OpenSpec.ofChange fnExactShareBySumsWrong)

/-- 'laws.FnExactSplitEven': WHATEVER THE INPUT: true; the input reads as it did. -/
def fnExactSplitEvenSpec : ChangeSpec := { name := "fnExactSplitEven", fn := fun _ => fun
  | [d1, d2] => { results := [.lit (.bool true)], args := [d1, d2] }
  | _ => none }
def fnExactSplitEvenRow : OpenClaim := { program := "ytlibfmbbchhjeaa", sum := "15b9af1dcfdf612d368d9cf50d7c434f7cf6fed2e2e21c929b7bbbe22f276324", func := "loop.example/sumsthatadd/laws.FnExactSplitEven", spec := "fnExactSplitEven", apart := false }
def FnExactSplitEvenSaid : Prop := fnExactSplitEvenRow.holds Try.pinned (OpenSpec.ofChange fnExactSplitEvenSpec)

/-- ITS FALSE NEIGHBOUR: 'it returns false'. Refute it at one input. -/
def fnExactSplitEvenWrong : ChangeSpec := { name := "fnExactSplitEven", fn := fun _ => fun
  | [d1, d2] => { results := [.lit (.bool false)], args := [d1, d2] }
  | _ => none }
def FnExactSplitEvenWrongFalsely : Prop := fnExactSplitEvenRow.holds Try.pinned (OpenSpec.ofChange fnExactSplitEvenWrong)

/-- 'laws.FnExactIsFair': WHATEVER THE INPUT: true; the input reads as it did. -/
def fnExactIsFairSpec : ChangeSpec := { name := "fnExactIsFair", fn := fun _ => fun
  | [d1, d2, d3] => { results := [.lit (.bool true)], args := [d1, d2, d3] }
  | _ => none }
def fnExactIsFairRow : OpenClaim := { program := "ytlibfmbbchhjeaa", sum := "15b9af1dcfdf612d368d9cf50d7c434f7cf6fed2e2e21c929b7bbbe22f276324", func := "loop.example/sumsthatadd/laws.FnExactIsFair", spec := "fnExactIsFair", apart := false }
def FnExactIsFairSaid : Prop := fnExactIsFairRow.holds Try.pinned (OpenSpec.ofChange fnExactIsFairSpec)

/-- ITS FALSE NEIGHBOUR: 'it returns false'. Refute it at one input. -/
def fnExactIsFairWrong : ChangeSpec := { name := "fnExactIsFair", fn := fun _ => fun
  | [d1, d2, d3] => { results := [.lit (.bool false)], args := [d1, d2, d3] }
  | _ => none }
def FnExactIsFairWrongFalsely : Prop := fnExactIsFairRow.holds Try.pinned (OpenSpec.ofChange fnExactIsFairWrong)

/-- 'laws.FnExactIsRounded': WHATEVER THE INPUT: true; the input reads as it did. -/
def fnExactIsRoundedSpec : ChangeSpec := { name := "fnExactIsRounded", fn := fun _ => fun
  | [d1, d2, d3] => { results := [.lit (.bool true)], args := [d1, d2, d3] }
  | _ => none }
def fnExactIsRoundedRow : OpenClaim := { program := "ytlibfmbbchhjeaa", sum := "15b9af1dcfdf612d368d9cf50d7c434f7cf6fed2e2e21c929b7bbbe22f276324", func := "loop.example/sumsthatadd/laws.FnExactIsRounded", spec := "fnExactIsRounded", apart := false }
def FnExactIsRoundedSaid : Prop := fnExactIsRoundedRow.holds Try.pinned (OpenSpec.ofChange fnExactIsRoundedSpec)

/-- ITS FALSE NEIGHBOUR: 'it returns false'. Refute it at one input. -/
def fnExactIsRoundedWrong : ChangeSpec := { name := "fnExactIsRounded", fn := fun _ => fun
  | [d1, d2, d3] => { results := [.lit (.bool false)], args := [d1, d2, d3] }
  | _ => none }
def FnExactIsRoundedWrongFalsely : Prop := fnExactIsRoundedRow.holds Try.pinned (OpenSpec.ofChange fnExactIsRoundedWrong)

/-- 'laws.FnExactRoundGrid': WHATEVER THE INPUT: true; the input reads as it did. -/
def fnExactRoundGridSpec : ChangeSpec := { name := "fnExactRoundGrid", fn := fun _ => fun
  | [d1, d2] => { results := [.lit (.bool true)], args := [d1, d2] }
  | _ => none }
def fnExactRoundGridRow : OpenClaim := { program := "ytlibfmbbchhjeaa", sum := "15b9af1dcfdf612d368d9cf50d7c434f7cf6fed2e2e21c929b7bbbe22f276324", func := "loop.example/sumsthatadd/laws.FnExactRoundGrid", spec := "fnExactRoundGrid", recurses := true, apart := false }
def FnExactRoundGridSaid : Prop := fnExactRoundGridRow.holds Try.pinned (OpenSpec.ofChange fnExactRoundGridSpec)

/-- ITS FALSE NEIGHBOUR: 'it returns false'. Refute it at one input. -/
def fnExactRoundGridWrong : ChangeSpec := { name := "fnExactRoundGrid", fn := fun _ => fun
  | [d1, d2] => { results := [.lit (.bool false)], args := [d1, d2] }
  | _ => none }
def FnExactRoundGridWrongFalsely : Prop := fnExactRoundGridRow.holds Try.pinned (OpenSpec.ofChange fnExactRoundGridWrong)

/- THE SECOND FORM. 'bulk': how many values and letters a reading holds, each counted each time it is reached (what is shared counts as often as it is met; a slice's spare places count too). A statement '..UptoSaid' is the law's where the arguments, and the package variables that the reading takes, are together of bulk at most 1048576: NARROWER than '..Said'. Prove '..Said' where nothing that the law and all that it calls make is longer than what came in: it says more and counts as full. Else prove '..UptoSaid'. A law counts once. -/
mutual
def uptoBulk {H : Type} : DataW H → Nat
  | .lit (.string bytes) => bytes.length + 1
  | .lit _ => 1
  | .nil => 1
  | .ptr d => uptoBulk d + 1
  | .slice elems spare => uptoBulkAll elems + uptoBulkAll spare + 1
  | .agg parts => uptoBulkAll parts + 1
  | .iface _ d => uptoBulk d + 1
  | .map entries => uptoBulkEntries entries + 1
  | .held _ => 1
def uptoBulkAll {H : Type} : List (DataW H) → Nat
  | [] => 0
  | d :: r => uptoBulk d + uptoBulkAll r
def uptoBulkEntries {H : Type} : List (Lit × DataW H) → Nat
  | [] => 0
  | x :: r => uptoBulkEntry x + uptoBulkEntries r
def uptoBulkEntry {H : Type} : Lit × DataW H → Nat
  | (.string bytes, d) => bytes.length + uptoBulk d + 1
  | (_, d) => uptoBulk d + 1
 end
def uptoSmall : (H : Type) → List (DataW H) → Bool := fun _ ds => decide (uptoBulkAll ds ≤ 1048576)
def OpenSpec.upto (s : _root_.Go.ChangeSpec) : _root_.Go.OpenSpec := { _root_.Go.OpenSpec.ofChange s with cond := some uptoSmall }

/-- 'laws.FnValidParts', WHERE WHAT IT READS IS OF BULK AT MOST 1048576: true; the input reads as it did. -/
def fnValidPartsUptoRow : OpenClaim := { program := "ytlibfmbbchhjeaa", sum := "15b9af1dcfdf612d368d9cf50d7c434f7cf6fed2e2e21c929b7bbbe22f276324", func := "loop.example/sumsthatadd/laws.FnValidParts", spec := "fnValidParts", apart := false, narrowed := true }
def FnValidPartsUptoSaid : Prop := fnValidPartsUptoRow.holds Try.pinned (OpenSpec.upto fnValidPartsSpec)

/-- 'laws.FnShareByRest', WHERE WHAT IT READS IS OF BULK AT MOST 1048576: true; the input reads as it did. -/
def fnShareByRestUptoRow : OpenClaim := { program := "ytlibfmbbchhjeaa", sum := "15b9af1dcfdf612d368d9cf50d7c434f7cf6fed2e2e21c929b7bbbe22f276324", func := "loop.example/sumsthatadd/laws.FnShareByRest", spec := "fnShareByRest", unfollowed := true, recurses := true, apart := false, narrowed := true }
def FnShareByRestUptoSaid : Prop := fnShareByRestUptoRow.holds Try.pinned (OpenSpec.upto fnShareByRestSpec)

/-- 'laws.FnShareBySums', WHERE WHAT IT READS IS OF BULK AT MOST 1048576: true; the input reads as it did. -/
def fnShareBySumsUptoRow : OpenClaim := { program := "ytlibfmbbchhjeaa", sum := "15b9af1dcfdf612d368d9cf50d7c434f7cf6fed2e2e21c929b7bbbe22f276324", func := "loop.example/sumsthatadd/laws.FnShareBySums", spec := "fnShareBySums", apart := false, narrowed := true }
def FnShareBySumsUptoSaid : Prop := fnShareBySumsUptoRow.holds Try.pinned (OpenSpec.upto fnShareBySumsSpec)

/-- 'laws.FnSplitEven', WHERE WHAT IT READS IS OF BULK AT MOST 1048576: true; the input reads as it did. -/
def fnSplitEvenUptoRow : OpenClaim := { program := "ytlibfmbbchhjeaa", sum := "15b9af1dcfdf612d368d9cf50d7c434f7cf6fed2e2e21c929b7bbbe22f276324", func := "loop.example/sumsthatadd/laws.FnSplitEven", spec := "fnSplitEven", unfollowed := true, recurses := true, apart := false, narrowed := true }
def FnSplitEvenUptoSaid : Prop := fnSplitEvenUptoRow.holds Try.pinned (OpenSpec.upto fnSplitEvenSpec)

/-- 'laws.FnIsFair', WHERE WHAT IT READS IS OF BULK AT MOST 1048576: true; the input reads as it did. -/
def fnIsFairUptoRow : OpenClaim := { program := "ytlibfmbbchhjeaa", sum := "15b9af1dcfdf612d368d9cf50d7c434f7cf6fed2e2e21c929b7bbbe22f276324", func := "loop.example/sumsthatadd/laws.FnIsFair", spec := "fnIsFair", apart := false, narrowed := true }
def FnIsFairUptoSaid : Prop := fnIsFairUptoRow.holds Try.pinned (OpenSpec.upto fnIsFairSpec)

/-- 'laws.FnIsRounded', WHERE WHAT IT READS IS OF BULK AT MOST 1048576: true; the input reads as it did. -/
def fnIsRoundedUptoRow : OpenClaim := { program := "ytlibfmbbchhjeaa", sum := "15b9af1dcfdf612d368d9cf50d7c434f7cf6fed2e2e21c929b7bbbe22f276324", func := "loop.example/sumsthatadd/laws.FnIsRounded", spec := "fnIsRounded", recurses := true, apart := false, narrowed := true }
def FnIsRoundedUptoSaid : Prop := fnIsRoundedUptoRow.holds Try.pinned (OpenSpec.upto fnIsRoundedSpec)

/-- 'laws.FnRoundGrid', WHERE WHAT IT READS IS OF BULK AT MOST 1048576: true; the input reads as it did. -/
def fnRoundGridUptoRow : OpenClaim := { program := "ytlibfmbbchhjeaa", sum := "15b9af1dcfdf612d368d9cf50d7c434f7cf6fed2e2e21c929b7bbbe22f276324", func := "loop.example/sumsthatadd/laws.FnRoundGrid", spec := "fnRoundGrid", recurses := true, apart := false, narrowed := true }
def FnRoundGridUptoSaid : Prop := fnRoundGridUptoRow.holds Try.pinned (OpenSpec.upto fnRoundGridSpec)

/-- 'laws.FnExactValidParts', WHERE WHAT IT READS IS OF BULK AT MOST 1048576: true; the input reads as it did. -/
def fnExactValidPartsUptoRow : OpenClaim := { program := "ytlibfmbbchhjeaa", sum := "15b9af1dcfdf612d368d9cf50d7c434f7cf6fed2e2e21c929b7bbbe22f276324", func := "loop.example/sumsthatadd/laws.FnExactValidParts", spec := "fnExactValidParts", apart := false, narrowed := true }
def FnExactValidPartsUptoSaid : Prop := fnExactValidPartsUptoRow.holds Try.pinned (OpenSpec.upto fnExactValidPartsSpec)

/-- 'laws.FnExactShareByRest', WHERE WHAT IT READS IS OF BULK AT MOST 1048576: true; the input reads as it did. -/
def fnExactShareByRestUptoRow : OpenClaim := { program := "ytlibfmbbchhjeaa", sum := "15b9af1dcfdf612d368d9cf50d7c434f7cf6fed2e2e21c929b7bbbe22f276324", func := "loop.example/sumsthatadd/laws.FnExactShareByRest", spec := "fnExactShareByRest", unfollowed := true, recurses := true, apart := false, narrowed := true }
def FnExactShareByRestUptoSaid : Prop := fnExactShareByRestUptoRow.holds Try.pinned (OpenSpec.upto fnExactShareByRestSpec)

/-- 'laws.FnExactShareBySums', WHERE WHAT IT READS IS OF BULK AT MOST 1048576: true; the input reads as it did. -/
def fnExactShareBySumsUptoRow : OpenClaim := { program := "ytlibfmbbchhjeaa", sum := "15b9af1dcfdf612d368d9cf50d7c434f7cf6fed2e2e21c929b7bbbe22f276324", func := "loop.example/sumsthatadd/laws.FnExactShareBySums", spec := "fnExactShareBySums", apart := false, narrowed := true }
def FnExactShareBySumsUptoSaid : Prop := fnExactShareBySumsUptoRow.holds Try.pinned (OpenSpec.upto fnExactShareBySumsSpec)

/-- 'laws.FnExactSplitEven', WHERE WHAT IT READS IS OF BULK AT MOST 1048576: true; the input reads as it did. -/
def fnExactSplitEvenUptoRow : OpenClaim := { program := "ytlibfmbbchhjeaa", sum := "15b9af1dcfdf612d368d9cf50d7c434f7cf6fed2e2e21c929b7bbbe22f276324", func := "loop.example/sumsthatadd/laws.FnExactSplitEven", spec := "fnExactSplitEven", apart := false, narrowed := true }
def FnExactSplitEvenUptoSaid : Prop := fnExactSplitEvenUptoRow.holds Try.pinned (OpenSpec.upto fnExactSplitEvenSpec)

/-- 'laws.FnExactIsFair', WHERE WHAT IT READS IS OF BULK AT MOST 1048576: true; the input reads as it did. -/
def fnExactIsFairUptoRow : OpenClaim := { program := "ytlibfmbbchhjeaa", sum := "15b9af1dcfdf612d368d9cf50d7c434f7cf6fed2e2e21c929b7bbbe22f276324", func := "loop.example/sumsthatadd/laws.FnExactIsFair", spec := "fnExactIsFair", apart := false, narrowed := true }
def FnExactIsFairUptoSaid : Prop := fnExactIsFairUptoRow.holds Try.pinned (OpenSpec.upto fnExactIsFairSpec)

/-- 'laws.FnExactIsRounded', WHERE WHAT IT READS IS OF BULK AT MOST 1048576: true; the input reads as it did. -/
def fnExactIsRoundedUptoRow : OpenClaim := { program := "ytlibfmbbchhjeaa", sum := "15b9af1dcfdf612d368d9cf50d7c434f7cf6fed2e2e21c929b7bbbe22f276324", func := "loop.example/sumsthatadd/laws.FnExactIsRounded", spec := "fnExactIsRounded", apart := false, narrowed := true }
def FnExactIsRoundedUptoSaid : Prop := fnExactIsRoundedUptoRow.holds Try.pinned (OpenSpec.upto fnExactIsRoundedSpec)

/-- 'laws.FnExactRoundGrid', WHERE WHAT IT READS IS OF BULK AT MOST 1048576: true; the input reads as it did. -/
def fnExactRoundGridUptoRow : OpenClaim := { program := "ytlibfmbbchhjeaa", sum := "15b9af1dcfdf612d368d9cf50d7c434f7cf6fed2e2e21c929b7bbbe22f276324", func := "loop.example/sumsthatadd/laws.FnExactRoundGrid", spec := "fnExactRoundGrid", recurses := true, apart := false, narrowed := true }
def FnExactRoundGridUptoSaid : Prop := fnExactRoundGridUptoRow.holds Try.pinned (OpenSpec.upto fnExactRoundGridSpec)

end Rows
end Go.Proofs.Ytlibfmbbchhjeaa
