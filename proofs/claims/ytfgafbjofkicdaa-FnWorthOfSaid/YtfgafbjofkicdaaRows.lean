/-
  No cell of these rows narrows 'for every input' (looked for: loops, veiled, ifaces, maps, wideKeys, modest, calm, conditions, laid).
  DERIVED. THE GIVEN ROWS OF THIS SEAT. 16 by the template 'for every input the law returns true; each argument reads behind the call as it read before'; 0 by the template 'total and deterministic' (their statements: YtfgafbjofkicdaaTotals.lean).
  GIVEN WITH THE SEED: the statements are not yours to turn. If you find one false, say at which input.
  Laid BY PROGRAM, IN A SANDBOX (cutbox-rows.mjs): the forced cells as the released guide's own fill.sh prints them over the translation 91f6fc65bc6babb1… (all of the seat's roots in one cut). By AI agents, Wed Nov 11 2026. No macro, syntax, notation, axiom, sorry.
-/
import Derived.Test.YtfgafbjofkicdaaChecked
import GoSem.Claim
import GoSem.ClaimJoined
import GoSem.ClaimMapViews
import Derived.JoinedTies
import Derived.KernelRfl
namespace Go.Proofs.Ytfgafbjofkicdaa
/- THE CELL 'sum', in the pinned program and in every row, IS THE sha256 OF THE DUMP (.gsa) THAT YtfgafbjofkicdaaProg.lean LOADS. Nothing in Lean hashes anything: it is a label: what it is worth is what the hold of that sum in a sandbox is worth. -/
noncomputable def Try.pinned : Pinned := { name := "ytfgafbjofkicdaa", sum := "91f6fc65bc6babb15afe11467eac29911ba8f9c7b1bc168f055c11d0c620e89f", checked := Try.checked }
namespace Rows
def none {H : Type} : Left H := { results := [], args := [] }

/-- 'laws.FnValidLoan': WHATEVER THE INPUT: true; the input reads as it did. -/
def fnValidLoanSpec : ChangeSpec := { name := "fnValidLoan", fn := fun _ => fun
  | [d] => { results := [.lit (.bool true)], args := [d] }
  | _ => none }
def fnValidLoanRow : OpenClaim := { program := "ytfgafbjofkicdaa", sum := "91f6fc65bc6babb15afe11467eac29911ba8f9c7b1bc168f055c11d0c620e89f", func := "loop.example/sumsthatadd/laws.FnValidLoan", spec := "fnValidLoan", apart := false }
def FnValidLoanSaid : Prop := fnValidLoanRow.holds Try.pinned (OpenSpec.ofChange fnValidLoanSpec)

/-- ITS FALSE NEIGHBOUR: 'it returns false'. Refute it at one input. -/
def fnValidLoanWrong : ChangeSpec := { name := "fnValidLoan", fn := fun _ => fun
  | [d] => { results := [.lit (.bool false)], args := [d] }
  | _ => none }
def FnValidLoanWrongFalsely : Prop := fnValidLoanRow.holds Try.pinned (OpenSpec.ofChange fnValidLoanWrong)

/-- 'laws.FnInterestOf': WHATEVER THE INPUT: true; the input reads as it did. -/
def fnInterestOfSpec : ChangeSpec := { name := "fnInterestOf", fn := fun _ => fun
  | [d] => { results := [.lit (.bool true)], args := [d] }
  | _ => none }
def fnInterestOfRow : OpenClaim := { program := "ytfgafbjofkicdaa", sum := "91f6fc65bc6babb15afe11467eac29911ba8f9c7b1bc168f055c11d0c620e89f", func := "loop.example/sumsthatadd/laws.FnInterestOf", spec := "fnInterestOf", apart := false }
def FnInterestOfSaid : Prop := fnInterestOfRow.holds Try.pinned (OpenSpec.ofChange fnInterestOfSpec)

/-- ITS FALSE NEIGHBOUR: 'it returns false'. Refute it at one input. -/
def fnInterestOfWrong : ChangeSpec := { name := "fnInterestOf", fn := fun _ => fun
  | [d] => { results := [.lit (.bool false)], args := [d] }
  | _ => none }
def FnInterestOfWrongFalsely : Prop := fnInterestOfRow.holds Try.pinned (OpenSpec.ofChange fnInterestOfWrong)

/-- 'laws.FnLeftAfter': WHATEVER THE INPUT: true; the input reads as it did. -/
def fnLeftAfterSpec : ChangeSpec := { name := "fnLeftAfter", fn := fun _ => fun
  | [d] => { results := [.lit (.bool true)], args := [d] }
  | _ => none }
def fnLeftAfterRow : OpenClaim := { program := "ytfgafbjofkicdaa", sum := "91f6fc65bc6babb15afe11467eac29911ba8f9c7b1bc168f055c11d0c620e89f", func := "loop.example/sumsthatadd/laws.FnLeftAfter", spec := "fnLeftAfter", unfollowed := true, recurses := true, apart := false }
def FnLeftAfterSaid : Prop := fnLeftAfterRow.holds Try.pinned (OpenSpec.ofChange fnLeftAfterSpec)

/-- ITS FALSE NEIGHBOUR: 'it returns false'. Refute it at one input. -/
def fnLeftAfterWrong : ChangeSpec := { name := "fnLeftAfter", fn := fun _ => fun
  | [d] => { results := [.lit (.bool false)], args := [d] }
  | _ => none }
def FnLeftAfterWrongFalsely : Prop := fnLeftAfterRow.holds Try.pinned (OpenSpec.ofChange fnLeftAfterWrong)

/-- 'laws.FnLeastPay': WHATEVER THE INPUT: true; the input reads as it did. -/
def fnLeastPaySpec : ChangeSpec := { name := "fnLeastPay", fn := fun _ => fun
  | [d] => { results := [.lit (.bool true)], args := [d] }
  | _ => none }
def fnLeastPayRow : OpenClaim := { program := "ytfgafbjofkicdaa", sum := "91f6fc65bc6babb15afe11467eac29911ba8f9c7b1bc168f055c11d0c620e89f", func := "loop.example/sumsthatadd/laws.FnLeastPay", spec := "fnLeastPay", unfollowed := true, recurses := true, apart := false }
def FnLeastPaySaid : Prop := fnLeastPayRow.holds Try.pinned (OpenSpec.ofChange fnLeastPaySpec)

/-- ITS FALSE NEIGHBOUR: 'it returns false'. Refute it at one input. -/
def fnLeastPayWrong : ChangeSpec := { name := "fnLeastPay", fn := fun _ => fun
  | [d] => { results := [.lit (.bool false)], args := [d] }
  | _ => none }
def FnLeastPayWrongFalsely : Prop := fnLeastPayRow.holds Try.pinned (OpenSpec.ofChange fnLeastPayWrong)

/-- 'laws.FnPaidOf': WHATEVER THE INPUT: true; the input reads as it did. -/
def fnPaidOfSpec : ChangeSpec := { name := "fnPaidOf", fn := fun _ => fun
  | [d] => { results := [.lit (.bool true)], args := [d] }
  | _ => none }
def fnPaidOfRow : OpenClaim := { program := "ytfgafbjofkicdaa", sum := "91f6fc65bc6babb15afe11467eac29911ba8f9c7b1bc168f055c11d0c620e89f", func := "loop.example/sumsthatadd/laws.FnPaidOf", spec := "fnPaidOf", unfollowed := true, recurses := true, apart := false }
def FnPaidOfSaid : Prop := fnPaidOfRow.holds Try.pinned (OpenSpec.ofChange fnPaidOfSpec)

/-- ITS FALSE NEIGHBOUR: 'it returns false'. Refute it at one input. -/
def fnPaidOfWrong : ChangeSpec := { name := "fnPaidOf", fn := fun _ => fun
  | [d] => { results := [.lit (.bool false)], args := [d] }
  | _ => none }
def FnPaidOfWrongFalsely : Prop := fnPaidOfRow.holds Try.pinned (OpenSpec.ofChange fnPaidOfWrong)

/-- 'laws.FnLastPaid': WHATEVER THE INPUT: true; the input reads as it did. -/
def fnLastPaidSpec : ChangeSpec := { name := "fnLastPaid", fn := fun _ => fun
  | [d] => { results := [.lit (.bool true)], args := [d] }
  | _ => none }
def fnLastPaidRow : OpenClaim := { program := "ytfgafbjofkicdaa", sum := "91f6fc65bc6babb15afe11467eac29911ba8f9c7b1bc168f055c11d0c620e89f", func := "loop.example/sumsthatadd/laws.FnLastPaid", spec := "fnLastPaid", unfollowed := true, recurses := true, apart := false }
def FnLastPaidSaid : Prop := fnLastPaidRow.holds Try.pinned (OpenSpec.ofChange fnLastPaidSpec)

/-- ITS FALSE NEIGHBOUR: 'it returns false'. Refute it at one input. -/
def fnLastPaidWrong : ChangeSpec := { name := "fnLastPaid", fn := fun _ => fun
  | [d] => { results := [.lit (.bool false)], args := [d] }
  | _ => none }
def FnLastPaidWrongFalsely : Prop := fnLastPaidRow.holds Try.pinned (OpenSpec.ofChange fnLastPaidWrong)

/-- 'laws.FnWorthOf': WHATEVER THE INPUT: true; the input reads as it did. -/
def fnWorthOfSpec : ChangeSpec := { name := "fnWorthOf", fn := fun _ => fun
  | [d] => { results := [.lit (.bool true)], args := [d] }
  | _ => none }
def fnWorthOfRow : OpenClaim := { program := "ytfgafbjofkicdaa", sum := "91f6fc65bc6babb15afe11467eac29911ba8f9c7b1bc168f055c11d0c620e89f", func := "loop.example/sumsthatadd/laws.FnWorthOf", spec := "fnWorthOf", unfollowed := true, recurses := true, apart := false }
def FnWorthOfSaid : Prop := fnWorthOfRow.holds Try.pinned (OpenSpec.ofChange fnWorthOfSpec)

/-- ITS FALSE NEIGHBOUR: 'it returns false'. Refute it at one input. -/
def fnWorthOfWrong : ChangeSpec := { name := "fnWorthOf", fn := fun _ => fun
  | [d] => { results := [.lit (.bool false)], args := [d] }
  | _ => none }
def FnWorthOfWrongFalsely : Prop := fnWorthOfRow.holds Try.pinned (OpenSpec.ofChange fnWorthOfWrong)

/-- 'laws.FnDoublesAfter': WHATEVER THE INPUT: true; the input reads as it did. -/
def fnDoublesAfterSpec : ChangeSpec := { name := "fnDoublesAfter", fn := fun _ => fun
  | [d] => { results := [.lit (.bool true)], args := [d] }
  | _ => none }
def fnDoublesAfterRow : OpenClaim := { program := "ytfgafbjofkicdaa", sum := "91f6fc65bc6babb15afe11467eac29911ba8f9c7b1bc168f055c11d0c620e89f", func := "loop.example/sumsthatadd/laws.FnDoublesAfter", spec := "fnDoublesAfter", apart := false }
def FnDoublesAfterSaid : Prop := fnDoublesAfterRow.holds Try.pinned (OpenSpec.ofChange fnDoublesAfterSpec)

/-- ITS FALSE NEIGHBOUR: 'it returns false'. Refute it at one input. -/
def fnDoublesAfterWrong : ChangeSpec := { name := "fnDoublesAfter", fn := fun _ => fun
  | [d] => { results := [.lit (.bool false)], args := [d] }
  | _ => none }
def FnDoublesAfterWrongFalsely : Prop := fnDoublesAfterRow.holds Try.pinned (OpenSpec.ofChange fnDoublesAfterWrong)

/-- 'laws.FnExactValidLoan': WHATEVER THE INPUT: true; the input reads as it did. -/
def fnExactValidLoanSpec : ChangeSpec := { name := "fnExactValidLoan", fn := fun _ => fun
  | [d] => { results := [.lit (.bool true)], args := [d] }
  | _ => none }
def fnExactValidLoanRow : OpenClaim := { program := "ytfgafbjofkicdaa", sum := "91f6fc65bc6babb15afe11467eac29911ba8f9c7b1bc168f055c11d0c620e89f", func := "loop.example/sumsthatadd/laws.FnExactValidLoan", spec := "fnExactValidLoan", apart := false }
def FnExactValidLoanSaid : Prop := fnExactValidLoanRow.holds Try.pinned (OpenSpec.ofChange fnExactValidLoanSpec)

/-- ITS FALSE NEIGHBOUR: 'it returns false'. Refute it at one input. -/
def fnExactValidLoanWrong : ChangeSpec := { name := "fnExactValidLoan", fn := fun _ => fun
  | [d] => { results := [.lit (.bool false)], args := [d] }
  | _ => none }
def FnExactValidLoanWrongFalsely : Prop := fnExactValidLoanRow.holds Try.pinned (OpenSpec.ofChange fnExactValidLoanWrong)

/-- 'laws.FnExactInterestOf': WHATEVER THE INPUT: true; the input reads as it did. -/
def fnExactInterestOfSpec : ChangeSpec := { name := "fnExactInterestOf", fn := fun _ => fun
  | [d1, d2, d3] => { results := [.lit (.bool true)], args := [d1, d2, d3] }
  | _ => none }
def fnExactInterestOfRow : OpenClaim := { program := "ytfgafbjofkicdaa", sum := "91f6fc65bc6babb15afe11467eac29911ba8f9c7b1bc168f055c11d0c620e89f", func := "loop.example/sumsthatadd/laws.FnExactInterestOf", spec := "fnExactInterestOf", apart := false }
def FnExactInterestOfSaid : Prop := fnExactInterestOfRow.holds Try.pinned (OpenSpec.ofChange fnExactInterestOfSpec)

/-- ITS FALSE NEIGHBOUR: 'it returns false'. Refute it at one input. -/
def fnExactInterestOfWrong : ChangeSpec := { name := "fnExactInterestOf", fn := fun _ => fun
  | [d1, d2, d3] => { results := [.lit (.bool false)], args := [d1, d2, d3] }
  | _ => none }
def FnExactInterestOfWrongFalsely : Prop := fnExactInterestOfRow.holds Try.pinned (OpenSpec.ofChange fnExactInterestOfWrong)

/-- 'laws.FnExactLeftAfter': WHATEVER THE INPUT: true; the input reads as it did. -/
def fnExactLeftAfterSpec : ChangeSpec := { name := "fnExactLeftAfter", fn := fun _ => fun
  | [d1, d2] => { results := [.lit (.bool true)], args := [d1, d2] }
  | _ => none }
def fnExactLeftAfterRow : OpenClaim := { program := "ytfgafbjofkicdaa", sum := "91f6fc65bc6babb15afe11467eac29911ba8f9c7b1bc168f055c11d0c620e89f", func := "loop.example/sumsthatadd/laws.FnExactLeftAfter", spec := "fnExactLeftAfter", unfollowed := true, recurses := true, apart := false }
def FnExactLeftAfterSaid : Prop := fnExactLeftAfterRow.holds Try.pinned (OpenSpec.ofChange fnExactLeftAfterSpec)

/-- ITS FALSE NEIGHBOUR: 'it returns false'. Refute it at one input. -/
def fnExactLeftAfterWrong : ChangeSpec := { name := "fnExactLeftAfter", fn := fun _ => fun
  | [d1, d2] => { results := [.lit (.bool false)], args := [d1, d2] }
  | _ => none }
def FnExactLeftAfterWrongFalsely : Prop := fnExactLeftAfterRow.holds Try.pinned (OpenSpec.ofChange fnExactLeftAfterWrong)

/-- 'laws.FnExactLeastPay': WHATEVER THE INPUT: true; the input reads as it did. -/
def fnExactLeastPaySpec : ChangeSpec := { name := "fnExactLeastPay", fn := fun _ => fun
  | [d] => { results := [.lit (.bool true)], args := [d] }
  | _ => none }
def fnExactLeastPayRow : OpenClaim := { program := "ytfgafbjofkicdaa", sum := "91f6fc65bc6babb15afe11467eac29911ba8f9c7b1bc168f055c11d0c620e89f", func := "loop.example/sumsthatadd/laws.FnExactLeastPay", spec := "fnExactLeastPay", unfollowed := true, recurses := true, apart := false }
def FnExactLeastPaySaid : Prop := fnExactLeastPayRow.holds Try.pinned (OpenSpec.ofChange fnExactLeastPaySpec)

/-- ITS FALSE NEIGHBOUR: 'it returns false'. Refute it at one input. -/
def fnExactLeastPayWrong : ChangeSpec := { name := "fnExactLeastPay", fn := fun _ => fun
  | [d] => { results := [.lit (.bool false)], args := [d] }
  | _ => none }
def FnExactLeastPayWrongFalsely : Prop := fnExactLeastPayRow.holds Try.pinned (OpenSpec.ofChange fnExactLeastPayWrong)

/-- 'laws.FnExactPaidOf': WHATEVER THE INPUT: true; the input reads as it did. -/
def fnExactPaidOfSpec : ChangeSpec := { name := "fnExactPaidOf", fn := fun _ => fun
  | [d1, d2] => { results := [.lit (.bool true)], args := [d1, d2] }
  | _ => none }
def fnExactPaidOfRow : OpenClaim := { program := "ytfgafbjofkicdaa", sum := "91f6fc65bc6babb15afe11467eac29911ba8f9c7b1bc168f055c11d0c620e89f", func := "loop.example/sumsthatadd/laws.FnExactPaidOf", spec := "fnExactPaidOf", unfollowed := true, recurses := true, apart := false }
def FnExactPaidOfSaid : Prop := fnExactPaidOfRow.holds Try.pinned (OpenSpec.ofChange fnExactPaidOfSpec)

/-- ITS FALSE NEIGHBOUR: 'it returns false'. Refute it at one input. -/
def fnExactPaidOfWrong : ChangeSpec := { name := "fnExactPaidOf", fn := fun _ => fun
  | [d1, d2] => { results := [.lit (.bool false)], args := [d1, d2] }
  | _ => none }
def FnExactPaidOfWrongFalsely : Prop := fnExactPaidOfRow.holds Try.pinned (OpenSpec.ofChange fnExactPaidOfWrong)

/-- 'laws.FnExactLastPaid': WHATEVER THE INPUT: true; the input reads as it did. -/
def fnExactLastPaidSpec : ChangeSpec := { name := "fnExactLastPaid", fn := fun _ => fun
  | [d1, d2] => { results := [.lit (.bool true)], args := [d1, d2] }
  | _ => none }
def fnExactLastPaidRow : OpenClaim := { program := "ytfgafbjofkicdaa", sum := "91f6fc65bc6babb15afe11467eac29911ba8f9c7b1bc168f055c11d0c620e89f", func := "loop.example/sumsthatadd/laws.FnExactLastPaid", spec := "fnExactLastPaid", unfollowed := true, recurses := true, apart := false }
def FnExactLastPaidSaid : Prop := fnExactLastPaidRow.holds Try.pinned (OpenSpec.ofChange fnExactLastPaidSpec)

/-- ITS FALSE NEIGHBOUR: 'it returns false'. Refute it at one input. -/
def fnExactLastPaidWrong : ChangeSpec := { name := "fnExactLastPaid", fn := fun _ => fun
  | [d1, d2] => { results := [.lit (.bool false)], args := [d1, d2] }
  | _ => none }
def FnExactLastPaidWrongFalsely : Prop := fnExactLastPaidRow.holds Try.pinned (OpenSpec.ofChange fnExactLastPaidWrong)

/-- 'laws.FnExactWorthOf': WHATEVER THE INPUT: true; the input reads as it did. -/
def fnExactWorthOfSpec : ChangeSpec := { name := "fnExactWorthOf", fn := fun _ => fun
  | [d1, d2, d3] => { results := [.lit (.bool true)], args := [d1, d2, d3] }
  | _ => none }
def fnExactWorthOfRow : OpenClaim := { program := "ytfgafbjofkicdaa", sum := "91f6fc65bc6babb15afe11467eac29911ba8f9c7b1bc168f055c11d0c620e89f", func := "loop.example/sumsthatadd/laws.FnExactWorthOf", spec := "fnExactWorthOf", unfollowed := true, recurses := true, apart := false }
def FnExactWorthOfSaid : Prop := fnExactWorthOfRow.holds Try.pinned (OpenSpec.ofChange fnExactWorthOfSpec)

/-- ITS FALSE NEIGHBOUR: 'it returns false'. Refute it at one input. -/
def fnExactWorthOfWrong : ChangeSpec := { name := "fnExactWorthOf", fn := fun _ => fun
  | [d1, d2, d3] => { results := [.lit (.bool false)], args := [d1, d2, d3] }
  | _ => none }
def FnExactWorthOfWrongFalsely : Prop := fnExactWorthOfRow.holds Try.pinned (OpenSpec.ofChange fnExactWorthOfWrong)

/-- 'laws.FnExactDoublesAfter': WHATEVER THE INPUT: true; the input reads as it did. -/
def fnExactDoublesAfterSpec : ChangeSpec := { name := "fnExactDoublesAfter", fn := fun _ => fun
  | [d1, d2] => { results := [.lit (.bool true)], args := [d1, d2] }
  | _ => none }
def fnExactDoublesAfterRow : OpenClaim := { program := "ytfgafbjofkicdaa", sum := "91f6fc65bc6babb15afe11467eac29911ba8f9c7b1bc168f055c11d0c620e89f", func := "loop.example/sumsthatadd/laws.FnExactDoublesAfter", spec := "fnExactDoublesAfter", apart := false }
def FnExactDoublesAfterSaid : Prop := fnExactDoublesAfterRow.holds Try.pinned (OpenSpec.ofChange fnExactDoublesAfterSpec)

/-- ITS FALSE NEIGHBOUR: 'it returns false'. Refute it at one input. -/
def fnExactDoublesAfterWrong : ChangeSpec := { name := "fnExactDoublesAfter", fn := fun _ => fun
  | [d1, d2] => { results := [.lit (.bool false)], args := [d1, d2] }
  | _ => none }
def FnExactDoublesAfterWrongFalsely : Prop := fnExactDoublesAfterRow.holds Try.pinned (OpenSpec.ofChange fnExactDoublesAfterWrong)

/- THE SECOND FORM. 'bulk': how many values and letters a reading holds, each counted each time it is reached (what is shared counts as often as it is met; a slice's spare places count too). A statement '..UptoSaid' is the law's where the arguments, and the package variables that the reading takes, are together of bulk at most 1048576: NARROWER than '..Said'. Prove '..Said' where nothing that the law and all that it calls make is longer than what came in: it says more and counts as full. Else prove '..UptoSaid'. A law counts once. -/
mutual
def uptoBulk {H : Type} : DataW H → Nat
  | .lit (.string bytes) => bytes.length + 1
  | .lit _ => 1
  | .nil => 1
  | .ptr d => uptoBulk d + 1
  | .slice elems spare => uptoBulkAll elems + uptoBulkAll spare + 1
  | .agg parts => uptoBulkAll parts + 1
  | .iface _ d => uptoBulk d + 1
  | .map entries => uptoBulkEntries entries + 1
  | .held _ => 1
def uptoBulkAll {H : Type} : List (DataW H) → Nat
  | [] => 0
  | d :: r => uptoBulk d + uptoBulkAll r
def uptoBulkEntries {H : Type} : List (Lit × DataW H) → Nat
  | [] => 0
  | x :: r => uptoBulkEntry x + uptoBulkEntries r
def uptoBulkEntry {H : Type} : Lit × DataW H → Nat
  | (.string bytes, d) => bytes.length + uptoBulk d + 1
  | (_, d) => uptoBulk d + 1
 end
def uptoSmall : (H : Type) → List (DataW H) → Bool := fun _ ds => decide (uptoBulkAll ds ≤ 1048576)
def OpenSpec.upto (s : _root_.Go.ChangeSpec) : _root_.Go.OpenSpec := { _root_.Go.OpenSpec.ofChange s with cond := some uptoSmall }

/-- 'laws.FnValidLoan', WHERE WHAT IT READS IS OF BULK AT MOST 1048576: true; the input reads as it did. -/
def fnValidLoanUptoRow : OpenClaim := { program := "ytfgafbjofkicdaa", sum := "91f6fc65bc6babb15afe11467eac29911ba8f9c7b1bc168f055c11d0c620e89f", func := "loop.example/sumsthatadd/laws.FnValidLoan", spec := "fnValidLoan", apart := false, narrowed := true }
def FnValidLoanUptoSaid : Prop := fnValidLoanUptoRow.holds Try.pinned (OpenSpec.upto fnValidLoanSpec)

/-- 'laws.FnInterestOf', WHERE WHAT IT READS IS OF BULK AT MOST 1048576: true; the input reads as it did. -/
def fnInterestOfUptoRow : OpenClaim := { program := "ytfgafbjofkicdaa", sum := "91f6fc65bc6babb15afe11467eac29911ba8f9c7b1bc168f055c11d0c620e89f", func := "loop.example/sumsthatadd/laws.FnInterestOf", spec := "fnInterestOf", apart := false, narrowed := true }
def FnInterestOfUptoSaid : Prop := fnInterestOfUptoRow.holds Try.pinned (OpenSpec.upto fnInterestOfSpec)

/-- 'laws.FnLeftAfter', WHERE WHAT IT READS IS OF BULK AT MOST 1048576: true; the input reads as it did. -/
def fnLeftAfterUptoRow : OpenClaim := { program := "ytfgafbjofkicdaa", sum := "91f6fc65bc6babb15afe11467eac29911ba8f9c7b1bc168f055c11d0c620e89f", func := "loop.example/sumsthatadd/laws.FnLeftAfter", spec := "fnLeftAfter", unfollowed := true, recurses := true, apart := false, narrowed := true }
def FnLeftAfterUptoSaid : Prop := fnLeftAfterUptoRow.holds Try.pinned (OpenSpec.upto fnLeftAfterSpec)

/-- 'laws.FnLeastPay', WHERE WHAT IT READS IS OF BULK AT MOST 1048576: true; the input reads as it did. -/
def fnLeastPayUptoRow : OpenClaim := { program := "ytfgafbjofkicdaa", sum := "91f6fc65bc6babb15afe11467eac29911ba8f9c7b1bc168f055c11d0c620e89f", func := "loop.example/sumsthatadd/laws.FnLeastPay", spec := "fnLeastPay", unfollowed := true, recurses := true, apart := false, narrowed := true }
def FnLeastPayUptoSaid : Prop := fnLeastPayUptoRow.holds Try.pinned (OpenSpec.upto fnLeastPaySpec)

/-- 'laws.FnPaidOf', WHERE WHAT IT READS IS OF BULK AT MOST 1048576: true; the input reads as it did. -/
def fnPaidOfUptoRow : OpenClaim := { program := "ytfgafbjofkicdaa", sum := "91f6fc65bc6babb15afe11467eac29911ba8f9c7b1bc168f055c11d0c620e89f", func := "loop.example/sumsthatadd/laws.FnPaidOf", spec := "fnPaidOf", unfollowed := true, recurses := true, apart := false, narrowed := true }
def FnPaidOfUptoSaid : Prop := fnPaidOfUptoRow.holds Try.pinned (OpenSpec.upto fnPaidOfSpec)

/-- 'laws.FnLastPaid', WHERE WHAT IT READS IS OF BULK AT MOST 1048576: true; the input reads as it did. -/
def fnLastPaidUptoRow : OpenClaim := { program := "ytfgafbjofkicdaa", sum := "91f6fc65bc6babb15afe11467eac29911ba8f9c7b1bc168f055c11d0c620e89f", func := "loop.example/sumsthatadd/laws.FnLastPaid", spec := "fnLastPaid", unfollowed := true, recurses := true, apart := false, narrowed := true }
def FnLastPaidUptoSaid : Prop := fnLastPaidUptoRow.holds Try.pinned (OpenSpec.upto fnLastPaidSpec)

/-- 'laws.FnWorthOf', WHERE WHAT IT READS IS OF BULK AT MOST 1048576: true; the input reads as it did. -/
def fnWorthOfUptoRow : OpenClaim := { program := "ytfgafbjofkicdaa", sum := "91f6fc65bc6babb15afe11467eac29911ba8f9c7b1bc168f055c11d0c620e89f", func := "loop.example/sumsthatadd/laws.FnWorthOf", spec := "fnWorthOf", unfollowed := true, recurses := true, apart := false, narrowed := true }
def FnWorthOfUptoSaid : Prop := fnWorthOfUptoRow.holds Try.pinned (OpenSpec.upto fnWorthOfSpec)

/-- 'laws.FnDoublesAfter', WHERE WHAT IT READS IS OF BULK AT MOST 1048576: true; the input reads as it did. -/
def fnDoublesAfterUptoRow : OpenClaim := { program := "ytfgafbjofkicdaa", sum := "91f6fc65bc6babb15afe11467eac29911ba8f9c7b1bc168f055c11d0c620e89f", func := "loop.example/sumsthatadd/laws.FnDoublesAfter", spec := "fnDoublesAfter", apart := false, narrowed := true }
def FnDoublesAfterUptoSaid : Prop := fnDoublesAfterUptoRow.holds Try.pinned (OpenSpec.upto fnDoublesAfterSpec)

/-- 'laws.FnExactValidLoan', WHERE WHAT IT READS IS OF BULK AT MOST 1048576: true; the input reads as it did. -/
def fnExactValidLoanUptoRow : OpenClaim := { program := "ytfgafbjofkicdaa", sum := "91f6fc65bc6babb15afe11467eac29911ba8f9c7b1bc168f055c11d0c620e89f", func := "loop.example/sumsthatadd/laws.FnExactValidLoan", spec := "fnExactValidLoan", apart := false, narrowed := true }
def FnExactValidLoanUptoSaid : Prop := fnExactValidLoanUptoRow.holds Try.pinned (OpenSpec.upto fnExactValidLoanSpec)

/-- 'laws.FnExactInterestOf', WHERE WHAT IT READS IS OF BULK AT MOST 1048576: true; the input reads as it did. -/
def fnExactInterestOfUptoRow : OpenClaim := { program := "ytfgafbjofkicdaa", sum := "91f6fc65bc6babb15afe11467eac29911ba8f9c7b1bc168f055c11d0c620e89f", func := "loop.example/sumsthatadd/laws.FnExactInterestOf", spec := "fnExactInterestOf", apart := false, narrowed := true }
def FnExactInterestOfUptoSaid : Prop := fnExactInterestOfUptoRow.holds Try.pinned (OpenSpec.upto fnExactInterestOfSpec)

/-- 'laws.FnExactLeftAfter', WHERE WHAT IT READS IS OF BULK AT MOST 1048576: true; the input reads as it did. -/
def fnExactLeftAfterUptoRow : OpenClaim := { program := "ytfgafbjofkicdaa", sum := "91f6fc65bc6babb15afe11467eac29911ba8f9c7b1bc168f055c11d0c620e89f", func := "loop.example/sumsthatadd/laws.FnExactLeftAfter", spec := "fnExactLeftAfter", unfollowed := true, recurses := true, apart := false, narrowed := true }
def FnExactLeftAfterUptoSaid : Prop := fnExactLeftAfterUptoRow.holds Try.pinned (OpenSpec.upto fnExactLeftAfterSpec)

/-- 'laws.FnExactLeastPay', WHERE WHAT IT READS IS OF BULK AT MOST 1048576: true; the input reads as it did. -/
def fnExactLeastPayUptoRow : OpenClaim := { program := "ytfgafbjofkicdaa", sum := "91f6fc65bc6babb15afe11467eac29911ba8f9c7b1bc168f055c11d0c620e89f", func := "loop.example/sumsthatadd/laws.FnExactLeastPay", spec := "fnExactLeastPay", unfollowed := true, recurses := true, apart := false, narrowed := true }
def FnExactLeastPayUptoSaid : Prop := fnExactLeastPayUptoRow.holds Try.pinned (OpenSpec.upto fnExactLeastPaySpec)

/-- 'laws.FnExactPaidOf', WHERE WHAT IT READS IS OF BULK AT MOST 1048576: true; the input reads as it did. -/
def fnExactPaidOfUptoRow : OpenClaim := { program := "ytfgafbjofkicdaa", sum := "91f6fc65bc6babb15afe11467eac29911ba8f9c7b1bc168f055c11d0c620e89f", func := "loop.example/sumsthatadd/laws.FnExactPaidOf", spec := "fnExactPaidOf", unfollowed := true, recurses := true, apart := false, narrowed := true }
def FnExactPaidOfUptoSaid : Prop := fnExactPaidOfUptoRow.holds Try.pinned (OpenSpec.upto fnExactPaidOfSpec)

/-- 'laws.FnExactLastPaid', WHERE WHAT IT READS IS OF BULK AT MOST 1048576: true; the input reads as it did. -/
def fnExactLastPaidUptoRow : OpenClaim := { program := "ytfgafbjofkicdaa", sum := "91f6fc65bc6babb15afe11467eac29911ba8f9c7b1bc168f055c11d0c620e89f", func := "loop.example/sumsthatadd/laws.FnExactLastPaid", spec := "fnExactLastPaid", unfollowed := true, recurses := true, apart := false, narrowed := true }
def FnExactLastPaidUptoSaid : Prop := fnExactLastPaidUptoRow.holds Try.pinned (OpenSpec.upto fnExactLastPaidSpec)

/-- 'laws.FnExactWorthOf', WHERE WHAT IT READS IS OF BULK AT MOST 1048576: true; the input reads as it did. -/
def fnExactWorthOfUptoRow : OpenClaim := { program := "ytfgafbjofkicdaa", sum := "91f6fc65bc6babb15afe11467eac29911ba8f9c7b1bc168f055c11d0c620e89f", func := "loop.example/sumsthatadd/laws.FnExactWorthOf", spec := "fnExactWorthOf", unfollowed := true, recurses := true, apart := false, narrowed := true }
def FnExactWorthOfUptoSaid : Prop := fnExactWorthOfUptoRow.holds Try.pinned (OpenSpec.upto fnExactWorthOfSpec)

/-- 'laws.FnExactDoublesAfter', WHERE WHAT IT READS IS OF BULK AT MOST 1048576: true; the input reads as it did. -/
def fnExactDoublesAfterUptoRow : OpenClaim := { program := "ytfgafbjofkicdaa", sum := "91f6fc65bc6babb15afe11467eac29911ba8f9c7b1bc168f055c11d0c620e89f", func := "loop.example/sumsthatadd/laws.FnExactDoublesAfter", spec := "fnExactDoublesAfter", apart := false, narrowed := true }
def FnExactDoublesAfterUptoSaid : Prop := fnExactDoublesAfterUptoRow.holds Try.pinned (OpenSpec.upto fnExactDoublesAfterSpec)

end Rows
end Go.Proofs.Ytfgafbjofkicdaa
