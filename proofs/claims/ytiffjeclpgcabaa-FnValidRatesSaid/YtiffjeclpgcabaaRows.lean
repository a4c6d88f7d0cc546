/-
  No cell of these rows narrows 'for every input' (looked for: loops, veiled, ifaces, maps, wideKeys, modest, calm, conditions, laid).
  DERIVED. THE GIVEN ROWS OF THIS SEAT. 16 by the template 'for every input the law returns true; each argument reads behind the call as it read before'; 0 by the template 'total and deterministic' (their statements: YtiffjeclpgcabaaTotals.lean).
  GIVEN WITH THE SEED: the statements are not yours to turn. If you find one false, say at which input.
  Laid BY PROGRAM, IN A SANDBOX (cutbox-rows.mjs): the forced cells as the released guide's own fill.sh prints them over the translation 8450881d0ff6b848… (all of the seat's roots in one cut). By AI agents, Wed Nov 11 2026. No macro, syntax, notation, axiom, sorry.
-/
import Derived.Test.YtiffjeclpgcabaaChecked
import GoSem.Claim
import GoSem.ClaimJoined
import GoSem.ClaimMapViews
import Derived.JoinedTies
import Derived.KernelRfl
namespace Go.Proofs.Ytiffjeclpgcabaa
/- THE CELL 'sum', in the pinned program and in every row, IS THE sha256 OF THE DUMP (.gsa) THAT YtiffjeclpgcabaaProg.lean LOADS. Nothing in Lean hashes anything: it is a label: what it is worth is what the hold of that sum in a sandbox is worth. -/
noncomputable def Try.pinned : Pinned := { name := "ytiffjeclpgcabaa", sum := "8450881d0ff6b84836f63918d4d4b95009fd3e1f522c248733d39dae0aabd731", checked := Try.checked }
namespace Rows
def none {H : Type} : Left H := { results := [], args := [] }

/-- 'laws.FnValidRates': WHATEVER THE INPUT: true; the input reads as it did. -/
def fnValidRatesSpec : ChangeSpec := { name := "fnValidRates", fn := fun _ => fun
  | [d] => { results := [.lit (.bool true)], args := [d] }
  | _ => none }
def fnValidRatesRow : OpenClaim := { program := "ytiffjeclpgcabaa", sum := "8450881d0ff6b84836f63918d4d4b95009fd3e1f522c248733d39dae0aabd731", func := "loop.example/sumsthatadd/laws.FnValidRates", spec := "fnValidRates", apart := false }
def FnValidRatesSaid : Prop := fnValidRatesRow.holds Try.pinned (OpenSpec.ofChange fnValidRatesSpec)

/-- ITS FALSE NEIGHBOUR: 'it returns false'. Refute it at one input. -/
def fnValidRatesWrong : ChangeSpec := { name := "fnValidRates", fn := fun _ => fun
  | [d] => { results := [.lit (.bool false)], args := [d] }
  | _ => none }
def FnValidRatesWrongFalsely : Prop := fnValidRatesRow.holds Try.pinned (OpenSpec.ofChange fnValidRatesWrong)

/-- 'laws.FnBestRate': WHATEVER THE INPUT: true; the input reads as it did. -/
def fnBestRateSpec : ChangeSpec := { name := "fnBestRate", fn := fun _ => fun
  | [d] => { results := [.lit (.bool true)], args := [d] }
  | _ => none }
def fnBestRateRow : OpenClaim := { program := "ytiffjeclpgcabaa", sum := "8450881d0ff6b84836f63918d4d4b95009fd3e1f522c248733d39dae0aabd731", func := "loop.example/sumsthatadd/laws.FnBestRate", spec := "fnBestRate", recurses := true, apart := false }
def FnBestRateSaid : Prop := fnBestRateRow.holds Try.pinned (OpenSpec.ofChange fnBestRateSpec)

/-- ITS FALSE NEIGHBOUR: 'it returns false'. Refute it at one input. -/
def fnBestRateWrong : ChangeSpec := { name := "fnBestRate", fn := fun _ => fun
  | [d] => { results := [.lit (.bool false)], args := [d] }
  | _ => none }
def FnBestRateWrongFalsely : Prop := fnBestRateRow.holds Try.pinned (OpenSpec.ofChange fnBestRateWrong)

/-- 'laws.FnGainOf': WHATEVER THE INPUT: true; the input reads as it did. -/
def fnGainOfSpec : ChangeSpec := { name := "fnGainOf", fn := fun _ => fun
  | [d] => { results := [.lit (.bool true)], args := [d] }
  | _ => none }
def fnGainOfRow : OpenClaim := { program := "ytiffjeclpgcabaa", sum := "8450881d0ff6b84836f63918d4d4b95009fd3e1f522c248733d39dae0aabd731", func := "loop.example/sumsthatadd/laws.FnGainOf", spec := "fnGainOf", recurses := true, apart := false }
def FnGainOfSaid : Prop := fnGainOfRow.holds Try.pinned (OpenSpec.ofChange fnGainOfSpec)

/-- ITS FALSE NEIGHBOUR: 'it returns false'. Refute it at one input. -/
def fnGainOfWrong : ChangeSpec := { name := "fnGainOf", fn := fun _ => fun
  | [d] => { results := [.lit (.bool false)], args := [d] }
  | _ => none }
def FnGainOfWrongFalsely : Prop := fnGainOfRow.holds Try.pinned (OpenSpec.ofChange fnGainOfWrong)

/-- 'laws.FnIsClosed': WHATEVER THE INPUT: true; the input reads as it did. -/
def fnIsClosedSpec : ChangeSpec := { name := "fnIsClosed", fn := fun _ => fun
  | [d] => { results := [.lit (.bool true)], args := [d] }
  | _ => none }
def fnIsClosedRow : OpenClaim := { program := "ytiffjeclpgcabaa", sum := "8450881d0ff6b84836f63918d4d4b95009fd3e1f522c248733d39dae0aabd731", func := "loop.example/sumsthatadd/laws.FnIsClosed", spec := "fnIsClosed", recurses := true, apart := false }
def FnIsClosedSaid : Prop := fnIsClosedRow.holds Try.pinned (OpenSpec.ofChange fnIsClosedSpec)

/-- ITS FALSE NEIGHBOUR: 'it returns false'. Refute it at one input. -/
def fnIsClosedWrong : ChangeSpec := { name := "fnIsClosed", fn := fun _ => fun
  | [d] => { results := [.lit (.bool false)], args := [d] }
  | _ => none }
def FnIsClosedWrongFalsely : Prop := fnIsClosedRow.holds Try.pinned (OpenSpec.ofChange fnIsClosedWrong)

/-- 'laws.FnExchange': WHATEVER THE INPUT: true; the input reads as it did. -/
def fnExchangeSpec : ChangeSpec := { name := "fnExchange", fn := fun _ => fun
  | [d] => { results := [.lit (.bool true)], args := [d] }
  | _ => none }
def fnExchangeRow : OpenClaim := { program := "ytiffjeclpgcabaa", sum := "8450881d0ff6b84836f63918d4d4b95009fd3e1f522c248733d39dae0aabd731", func := "loop.example/sumsthatadd/laws.FnExchange", spec := "fnExchange", apart := false }
def FnExchangeSaid : Prop := fnExchangeRow.holds Try.pinned (OpenSpec.ofChange fnExchangeSpec)

/-- ITS FALSE NEIGHBOUR: 'it returns false'. Refute it at one input. -/
def fnExchangeWrong : ChangeSpec := { name := "fnExchange", fn := fun _ => fun
  | [d] => { results := [.lit (.bool false)], args := [d] }
  | _ => none }
def FnExchangeWrongFalsely : Prop := fnExchangeRow.holds Try.pinned (OpenSpec.ofChange fnExchangeWrong)

/-- 'laws.FnPriceAfter': WHATEVER THE INPUT: true; the input reads as it did. -/
def fnPriceAfterSpec : ChangeSpec := { name := "fnPriceAfter", fn := fun _ => fun
  | [d] => { results := [.lit (.bool true)], args := [d] }
  | _ => none }
def fnPriceAfterRow : OpenClaim := { program := "ytiffjeclpgcabaa", sum := "8450881d0ff6b84836f63918d4d4b95009fd3e1f522c248733d39dae0aabd731", func := "loop.example/sumsthatadd/laws.FnPriceAfter", spec := "fnPriceAfter", apart := false }
def FnPriceAfterSaid : Prop := fnPriceAfterRow.holds Try.pinned (OpenSpec.ofChange fnPriceAfterSpec)

/-- ITS FALSE NEIGHBOUR: 'it returns false'. Refute it at one input. -/
def fnPriceAfterWrong : ChangeSpec := { name := "fnPriceAfter", fn := fun _ => fun
  | [d] => { results := [.lit (.bool false)], args := [d] }
  | _ => none }
def FnPriceAfterWrongFalsely : Prop := fnPriceAfterRow.holds Try.pinned (OpenSpec.ofChange fnPriceAfterWrong)

/-- 'laws.FnUseVouchers': WHATEVER THE INPUT: true; the input reads as it did. -/
def fnUseVouchersSpec : ChangeSpec := { name := "fnUseVouchers", fn := fun _ => fun
  | [d] => { results := [.lit (.bool true)], args := [d] }
  | _ => none }
def fnUseVouchersRow : OpenClaim := { program := "ytiffjeclpgcabaa", sum := "8450881d0ff6b84836f63918d4d4b95009fd3e1f522c248733d39dae0aabd731", func := "loop.example/sumsthatadd/laws.FnUseVouchers", spec := "fnUseVouchers", apart := false }
def FnUseVouchersSaid : Prop := fnUseVouchersRow.holds Try.pinned (OpenSpec.ofChange fnUseVouchersSpec)

/-- ITS FALSE NEIGHBOUR: 'it returns false'. Refute it at one input. -/
def fnUseVouchersWrong : ChangeSpec := { name := "fnUseVouchers", fn := fun _ => fun
  | [d] => { results := [.lit (.bool false)], args := [d] }
  | _ => none }
def FnUseVouchersWrongFalsely : Prop := fnUseVouchersRow.holds Try.pinned (OpenSpec.ofChange fnUseVouchersWrong)

/-- 'laws.FnCarryOf': WHATEVER THE INPUT: true; the input reads as it did. -/
def fnCarryOfSpec : ChangeSpec := { name := "fnCarryOf", fn := fun _ => fun
  | [d] => { results := [.lit (.bool true)], args := [d] }
  | _ => none }
def fnCarryOfRow : OpenClaim := { program := "ytiffjeclpgcabaa", sum := "8450881d0ff6b84836f63918d4d4b95009fd3e1f522c248733d39dae0aabd731", func := "loop.example/sumsthatadd/laws.FnCarryOf", spec := "fnCarryOf", apart := false }
def FnCarryOfSaid : Prop := fnCarryOfRow.holds Try.pinned (OpenSpec.ofChange fnCarryOfSpec)

/-- ITS FALSE NEIGHBOUR: 'it returns false'. Refute it at one input. -/
def fnCarryOfWrong : ChangeSpec := { name := "fnCarryOf", fn := fun _ => fun
  | [d] => { results := [.lit (.bool false)], args := [d] }
  | _ => none }
def FnCarryOfWrongFalsely : Prop := fnCarryOfRow.holds Try.pinned (OpenSpec.ofChange fnCarryOfWrong)

/-- 'laws.FnExactValidRates': WHATEVER THE INPUT: true; the input reads as it did. -/
def fnExactValidRatesSpec : ChangeSpec := { name := "fnExactValidRates", fn := fun _ => fun
  | [d] => { results := [.lit (.bool true)], args := [d] }
  | _ => none }
def fnExactValidRatesRow : OpenClaim := { program := "ytiffjeclpgcabaa", sum := "8450881d0ff6b84836f63918d4d4b95009fd3e1f522c248733d39dae0aabd731", func := "loop.example/sumsthatadd/laws.FnExactValidRates", spec := "fnExactValidRates", apart := false }
def FnExactValidRatesSaid : Prop := fnExactValidRatesRow.holds Try.pinned (OpenSpec.ofChange fnExactValidRatesSpec)

/-- ITS FALSE NEIGHBOUR: 'it returns false'. Refute it at one input. -/
def fnExactValidRatesWrong : ChangeSpec := { name := "fnExactValidRates", fn := fun _ => fun
  | [d] => { results := [.lit (.bool false)], args := [d] }
  | _ => none }
def FnExactValidRatesWrongFalsely : Prop := fnExactValidRatesRow.holds Try.pinned (OpenSpec.ofChange fnExactValidRatesWrong)

/-- 'laws.FnExactBestRate': WHATEVER THE INPUT: true; the input reads as it did. -/
def fnExactBestRateSpec : ChangeSpec := { name := "fnExactBestRate", fn := fun _ => fun
  | [d1, d2, d3] => { results := [.lit (.bool true)], args := [d1, d2, d3] }
  | _ => none }
def fnExactBestRateRow : OpenClaim := { program := "ytiffjeclpgcabaa", sum := "8450881d0ff6b84836f63918d4d4b95009fd3e1f522c248733d39dae0aabd731", func := "loop.example/sumsthatadd/laws.FnExactBestRate", spec := "fnExactBestRate", recurses := true, apart := false }
def FnExactBestRateSaid : Prop := fnExactBestRateRow.holds Try.pinned (OpenSpec.ofChange fnExactBestRateSpec)

/-- ITS FALSE NEIGHBOUR: 'it returns false'. Refute it at one input. -/
def fnExactBestRateWrong : ChangeSpec := { name := "fnExactBestRate", fn := fun _ => fun
  | [d1, d2, d3] => { results := [.lit (.bool false)], args := [d1, d2, d3] }
  | _ => none }
def FnExactBestRateWrongFalsely : Prop := fnExactBestRateRow.holds Try.pinned (OpenSpec.ofChange fnExactBestRateWrong)

/-- 'laws.FnExactGainOf': WHATEVER THE INPUT: true; the input reads as it did. -/
def fnExactGainOfSpec : ChangeSpec := { name := "fnExactGainOf", fn := fun _ => fun
  | [d] => { results := [.lit (.bool true)], args := [d] }
  | _ => none }
def fnExactGainOfRow : OpenClaim := { program := "ytiffjeclpgcabaa", sum := "8450881d0ff6b84836f63918d4d4b95009fd3e1f522c248733d39dae0aabd731", func := "loop.example/sumsthatadd/laws.FnExactGainOf", spec := "fnExactGainOf", recurses := true, apart := false }
def FnExactGainOfSaid : Prop := fnExactGainOfRow.holds Try.pinned (OpenSpec.ofChange fnExactGainOfSpec)

/-- ITS FALSE NEIGHBOUR: 'it returns false'. Refute it at one input. -/
def fnExactGainOfWrong : ChangeSpec := { name := "fnExactGainOf", fn := fun _ => fun
  | [d] => { results := [.lit (.bool false)], args := [d] }
  | _ => none }
def FnExactGainOfWrongFalsely : Prop := fnExactGainOfRow.holds Try.pinned (OpenSpec.ofChange fnExactGainOfWrong)

/-- 'laws.FnExactIsClosed': WHATEVER THE INPUT: true; the input reads as it did. -/
def fnExactIsClosedSpec : ChangeSpec := { name := "fnExactIsClosed", fn := fun _ => fun
  | [d] => { results := [.lit (.bool true)], args := [d] }
  | _ => none }
def fnExactIsClosedRow : OpenClaim := { program := "ytiffjeclpgcabaa", sum := "8450881d0ff6b84836f63918d4d4b95009fd3e1f522c248733d39dae0aabd731", func := "loop.example/sumsthatadd/laws.FnExactIsClosed", spec := "fnExactIsClosed", recurses := true, apart := false }
def FnExactIsClosedSaid : Prop := fnExactIsClosedRow.holds Try.pinned (OpenSpec.ofChange fnExactIsClosedSpec)

/-- ITS FALSE NEIGHBOUR: 'it returns false'. Refute it at one input. -/
def fnExactIsClosedWrong : ChangeSpec := { name := "fnExactIsClosed", fn := fun _ => fun
  | [d] => { results := [.lit (.bool false)], args := [d] }
  | _ => none }
def FnExactIsClosedWrongFalsely : Prop := fnExactIsClosedRow.holds Try.pinned (OpenSpec.ofChange fnExactIsClosedWrong)

/-- 'laws.FnExactExchange': WHATEVER THE INPUT: true; the input reads as it did. -/
def fnExactExchangeSpec : ChangeSpec := { name := "fnExactExchange", fn := fun _ => fun
  | [d1, d2] => { results := [.lit (.bool true)], args := [d1, d2] }
  | _ => none }
def fnExactExchangeRow : OpenClaim := { program := "ytiffjeclpgcabaa", sum := "8450881d0ff6b84836f63918d4d4b95009fd3e1f522c248733d39dae0aabd731", func := "loop.example/sumsthatadd/laws.FnExactExchange", spec := "fnExactExchange", apart := false }
def FnExactExchangeSaid : Prop := fnExactExchangeRow.holds Try.pinned (OpenSpec.ofChange fnExactExchangeSpec)

/-- ITS FALSE NEIGHBOUR: 'it returns false'. Refute it at one input. -/
def fnExactExchangeWrong : ChangeSpec := { name := "fnExactExchange", fn := fun _ => fun
  | [d1, d2] => { results := [.lit (.bool false)], args := [d1, d2] }
  | _ => none }
def FnExactExchangeWrongFalsely : Prop := fnExactExchangeRow.holds Try.pinned (OpenSpec.ofChange fnExactExchangeWrong)

/-- 'laws.FnExactPriceAfter': WHATEVER THE INPUT: true; the input reads as it did. -/
def fnExactPriceAfterSpec : ChangeSpec := { name := "fnExactPriceAfter", fn := fun _ => fun
  | [d1, d2] => { results := [.lit (.bool true)], args := [d1, d2] }
  | _ => none }
def fnExactPriceAfterRow : OpenClaim := { program := "ytiffjeclpgcabaa", sum := "8450881d0ff6b84836f63918d4d4b95009fd3e1f522c248733d39dae0aabd731", func := "loop.example/sumsthatadd/laws.FnExactPriceAfter", spec := "fnExactPriceAfter", apart := false }
def FnExactPriceAfterSaid : Prop := fnExactPriceAfterRow.holds Try.pinned (OpenSpec.ofChange fnExactPriceAfterSpec)

/-- ITS FALSE NEIGHBOUR: 'it returns false'. Refute it at one input. -/
def fnExactPriceAfterWrong : ChangeSpec := { name := "fnExactPriceAfter", fn := fun _ => fun
  | [d1, d2] => { results := [.lit (.bool false)], args := [d1, d2] }
  | _ => none }
def FnExactPriceAfterWrongFalsely : Prop := fnExactPriceAfterRow.holds Try.pinned (OpenSpec.ofChange fnExactPriceAfterWrong)

/-- 'laws.FnExactUseVouchers': WHATEVER THE INPUT: true; the input reads as it did. -/
def fnExactUseVouchersSpec : ChangeSpec := { name := "fnExactUseVouchers", fn := fun _ => fun
  | [d1, d2] => { results := [.lit (.bool true)], args := [d1, d2] }
  | _ => none }
def fnExactUseVouchersRow : OpenClaim := { program := "ytiffjeclpgcabaa", sum := "8450881d0ff6b84836f63918d4d4b95009fd3e1f522c248733d39dae0aabd731", func := "loop.example/sumsthatadd/laws.FnExactUseVouchers", spec := "fnExactUseVouchers", apart := false }
def FnExactUseVouchersSaid : Prop := fnExactUseVouchersRow.holds Try.pinned (OpenSpec.ofChange fnExactUseVouchersSpec)

/-- ITS FALSE NEIGHBOUR: 'it returns false'. Refute it at one input. -/
def fnExactUseVouchersWrong : ChangeSpec := { name := "fnExactUseVouchers", fn := fun _ => fun
  | [d1, d2] => { results := [.lit (.bool false)], args := [d1, d2] }
  | _ => none }
def FnExactUseVouchersWrongFalsely : Prop := fnExactUseVouchersRow.holds Try.pinned (OpenSpec.ofChange fnExactUseVouchersWrong)

/-- 'laws.FnExactCarryOf': WHATEVER THE INPUT: true; the input reads as it did. -/
def fnExactCarryOfSpec : ChangeSpec := { name := "fnExactCarryOf", fn := fun _ => fun
  | [d1, d2, d3] => { results := [.lit (.bool true)], args := [d1, d2, d3] }
  | _ => none }
def fnExactCarryOfRow : OpenClaim := { program := "ytiffjeclpgcabaa", sum := "8450881d0ff6b84836f63918d4d4b95009fd3e1f522c248733d39dae0aabd731", func := "loop.example/sumsthatadd/laws.FnExactCarryOf", spec := "fnExactCarryOf", apart := false }
def FnExactCarryOfSaid : Prop := fnExactCarryOfRow.holds Try.pinned (OpenSpec.ofChange fnExactCarryOfSpec)

/-- ITS FALSE NEIGHBOUR: 'it returns false'. Refute it at one input. -/
def fnExactCarryOfWrong : ChangeSpec := { name := "fnExactCarryOf", fn := fun _ => fun
  | [d1, d2, d3] => { results := [.lit (.bool false)], args := [d1, d2, d3] }
  | _ => none }
def FnExactCarryOfWrongFalsely : Prop := fnExactCarryOfRow.holds Try.pinned (OpenSpec.ofChange fnExactCarryOfWrong)

/- THE SECOND FORM. 'bulk': how many values and letters a reading holds, each counted each time it is reached (what is shared counts as often as it is met; a slice's spare places count too). A statement '..UptoSaid' is the law's where the arguments, and the package variables that the reading takes, are together of bulk at most 1048576: NARROWER than '..Said'. Prove '..Said' where nothing that the law and all that it calls make is longer than what came in: it says more and counts as full. Else prove '..UptoSaid'. A law counts once. -/
mutual
def uptoBulk {H : Type} : DataW H → Nat
  | .lit (.string bytes) => bytes.length + 1
  | .lit _ => 1
  | .nil => 1
  | .ptr d => uptoBulk d + 1
  | .slice elems spare => uptoBulkAll elems + uptoBulkAll spare + 1
  | .agg parts => uptoBulkAll parts + 1
  | .iface _ d => uptoBulk d + 1
  | .map entries => uptoBulkEntries entries + 1
  | .held _ => 1
def uptoBulkAll {H : Type} : List (DataW H) → Nat
  | [] => 0
  | d :: r => uptoBulk d + uptoBulkAll r
def uptoBulkEntries {H : Type} : List (Lit × DataW H) → Nat
  | [] => 0
  | x :: r => uptoBulkEntry x + uptoBulkEntries r
def uptoBulkEntry {H : Type} : Lit × DataW H → Nat
  | (.string bytes, d) => bytes.length + uptoBulk d + 1
  | (_, d) => uptoBulk d + 1
 end
def uptoSmall : (H : Type) → List (DataW H) → Bool := fun _ ds => decide (uptoBulkAll ds ≤ 1048576)
def OpenSpec.upto (s : _root_.Go.ChangeSpec) : _root_.Go.OpenSpec := { _root_.Go.OpenSpec.ofChange s with cond := some uptoSmall }

/-- 'laws.FnValidRates', WHERE WHAT IT READS IS OF BULK AT MOST 1048576: true; the input reads as it did. -/
def fnValidRatesUptoRow : OpenClaim := { program := "ytiffjeclpgcabaa", sum := "8450881d0ff6b84836f63918d4d4b95009fd3e1f522c248733d39dae0aabd731", func := "loop.example/sumsthatadd/laws.FnValidRates", spec := "fnValidRates", apart := false, narrowed := true }
def FnValidRatesUptoSaid : Prop := fnValidRatesUptoRow.holds Try.pinned (OpenSpec.upto fnValidRatesSpec)

/-- 'laws.FnBestRate', WHERE WHAT IT READS IS OF BULK AT MOST 1048576: true; the input reads as it did. -/
def fnBestRateUptoRow : OpenClaim := { program := "ytiffjeclpgcabaa", sum := "8450881d0ff6b84836f63918d4d4b95009fd3e1f522c248733d39dae0aabd731", func := "loop.example/sumsthatadd/laws.FnBestRate", spec := "fnBestRate", recurses := true, apart := false, narrowed := true }
def FnBestRateUptoSaid : Prop := fnBestRateUptoRow.holds Try.pinned (OpenSpec.upto fnBestRateSpec)

/-- 'laws.FnGainOf', WHERE WHAT IT READS IS OF BULK AT MOST 1048576: true; the input reads as it did. -/
def fnGainOfUptoRow : OpenClaim := { program := "ytiffjeclpgcabaa", sum := "8450881d0ff6b84836f63918d4d4b95009fd3e1f522c248733d39dae0aabd731", func := "loop.example/sumsthatadd/laws.FnGainOf", spec := "fnGainOf", recurses := true, apart := false, narrowed := true }
def FnGainOfUptoSaid : Prop := fnGainOfUptoRow.holds Try.pinned (OpenSpec.upto fnGainOfSpec)

/-- 'laws.FnIsClosed', WHERE WHAT IT READS IS OF BULK AT MOST 1048576: true; the input reads as it did. -/
def fnIsClosedUptoRow : OpenClaim := { program := "ytiffjeclpgcabaa", sum := "8450881d0ff6b84836f63918d4d4b95009fd3e1f522c248733d39dae0aabd731", func := "loop.example/sumsthatadd/laws.FnIsClosed", spec := "fnIsClosed", recurses := true, apart := false, narrowed := true }
def FnIsClosedUptoSaid : Prop := fnIsClosedUptoRow.holds Try.pinned (OpenSpec.upto fnIsClosedSpec)

/-- 'laws.FnExchange', WHERE WHAT IT READS IS OF BULK AT MOST 1048576: true; the input reads as it did. -/
def fnExchangeUptoRow : OpenClaim := { program := "ytiffjeclpgcabaa", sum := "8450881d0ff6b84836f63918d4d4b95009fd3e1f522c248733d39dae0aabd731", func := "loop.example/sumsthatadd/laws.FnExchange", spec := "fnExchange", apart := false, narrowed := true }
def FnExchangeUptoSaid : Prop := fnExchangeUptoRow.holds Try.pinned (OpenSpec.upto fnExchangeSpec)

/-- 'laws.FnPriceAfter', WHERE WHAT IT READS IS OF BULK AT MOST 1048576: true; the input reads as it did. -/
def fnPriceAfterUptoRow : OpenClaim := { program := "ytiffjeclpgcabaa", sum := "8450881d0ff6b84836f63918d4d4b95009fd3e1f522c248733d39dae0aabd731", func := "loop.example/sumsthatadd/laws.FnPriceAfter", spec := "fnPriceAfter", apart := false, narrowed := true }
def FnPriceAfterUptoSaid : Prop := fnPriceAfterUptoRow.holds Try.pinned (OpenSpec.upto fnPriceAfterSpec)

/-- 'laws.FnUseVouchers', WHERE WHAT IT READS IS OF BULK AT MOST 1048576: true; the input reads as it did. -/
def fnUseVouchersUptoRow : OpenClaim := { program := "ytiffjeclpgcabaa", sum := "8450881d0ff6b84836f63918d4d4b95009fd3e1f522c248733d39dae0aabd731", func := "loop.example/sumsthatadd/laws.FnUseVouchers", spec := "fnUseVouchers", apart := false, narrowed := true }
def FnUseVouchersUptoSaid : Prop := fnUseVouchersUptoRow.holds Try.pinned (OpenSpec.upto fnUseVouchersSpec)

/-- 'laws.FnCarryOf', WHERE WHAT IT READS IS OF BULK AT MOST 1048576: true; the input reads as it did. -/
def fnCarryOfUptoRow : OpenClaim := { program := "ytiffjeclpgcabaa", sum := "8450881d0ff6b84836f63918d4d4b95009fd3e1f522c248733d39dae0aabd731", func := "loop.example/sumsthatadd/laws.FnCarryOf", spec := "fnCarryOf", apart := false, narrowed := true }
def FnCarryOfUptoSaid : Prop := fnCarryOfUptoRow.holds Try.pinned (OpenSpec.upto fnCarryOfSpec)

/-- 'laws.FnExactValidRates', WHERE WHAT IT READS IS OF BULK AT MOST 1048576: true; the input reads as it did. -/
def fnExactValidRatesUptoRow : OpenClaim := { program := "ytiffjeclpgcabaa", sum := "8450881d0ff6b84836f63918d4d4b95009fd3e1f522c248733d39dae0aabd731", func := "loop.example/sumsthatadd/laws.FnExactValidRates", spec := "fnExactValidRates", apart := false, narrowed := true }
def FnExactValidRatesUptoSaid : Prop := fnExactValidRatesUptoRow.holds Try.pinned (OpenSpec.upto fnExactValidRatesSpec)

/-- 'laws.FnExactBestRate', WHERE WHAT IT READS IS OF BULK AT MOST 1048576: true; the input reads as it did. -/
def fnExactBestRateUptoRow : OpenClaim := { program := "ytiffjeclpgcabaa", sum := "8450881d0ff6b84836f63918d4d4b95009fd3e1f522c248733d39dae0aabd731", func := "loop.example/sumsthatadd/laws.FnExactBestRate", spec := "fnExactBestRate", recurses := true, apart := false, narrowed := true }
def FnExactBestRateUptoSaid : Prop := fnExactBestRateUptoRow.holds Try.pinned (OpenSpec.upto fnExactBestRateSpec)

/-- 'laws.FnExactGainOf', WHERE WHAT IT READS IS OF BULK AT MOST 1048576: true; the input reads as it did. -/
def fnExactGainOfUptoRow : OpenClaim := { program := "ytiffjeclpgcabaa", sum := "8450881d0ff6b84836f63918d4d4b95009fd3e1f522c248733d39dae0aabd731", func := "loop.example/sumsthatadd/laws.FnExactGainOf", spec := "fnExactGainOf", recurses := true, apart := false, narrowed := true }
def FnExactGainOfUptoSaid : Prop := fnExactGainOfUptoRow.holds Try.pinned (OpenSpec.upto fnExactGainOfSpec)

/-- 'laws.FnExactIsClosed', WHERE WHAT IT READS IS OF BULK AT MOST 1048576: true; the input reads as it did. -/
def fnExactIsClosedUptoRow : OpenClaim := { program := "ytiffjeclpgcabaa", sum := "8450881d0ff6b84836f63918d4d4b95009fd3e1f522c248733d39dae0aabd731", func := "loop.example/sumsthatadd/laws.FnExactIsClosed", spec := "fnExactIsClosed", recurses := true, apart := false, narrowed := true }
def FnExactIsClosedUptoSaid : Prop := fnExactIsClosedUptoRow.holds Try.pinned (OpenSpec.upto fnExactIsClosedSpec)

/-- 'laws.FnExactExchange', WHERE WHAT IT READS IS OF BULK AT MOST 1048576: true; the input reads as it did. -/
def fnExactExchangeUptoRow : OpenClaim := { program := "ytiffjeclpgcabaa", sum := "8450881d0ff6b84836f63918d4d4b95009fd3e1f522c248733d39dae0aabd731", func := "loop.example/sumsthatadd/laws.FnExactExchange", spec := "fnExactExchange", apart := false, narrowed := true }
def FnExactExchangeUptoSaid : Prop := fnExactExchangeUptoRow.holds Try.pinned (OpenSpec.upto fnExactExchangeSpec)

/-- 'laws.FnExactPriceAfter', WHERE WHAT IT READS IS OF BULK AT MOST 1048576: true; the input reads as it did. -/
def fnExactPriceAfterUptoRow : OpenClaim := { program := "ytiffjeclpgcabaa", sum := "8450881d0ff6b84836f63918d4d4b95009fd3e1f522c248733d39dae0aabd731", func := "loop.example/sumsthatadd/laws.FnExactPriceAfter", spec := "fnExactPriceAfter", apart := false, narrowed := true }
def FnExactPriceAfterUptoSaid : Prop := fnExactPriceAfterUptoRow.holds Try.pinned (OpenSpec.upto fnExactPriceAfterSpec)

/-- 'laws.FnExactUseVouchers', WHERE WHAT IT READS IS OF BULK AT MOST 1048576: true; the input reads as it did. -/
def fnExactUseVouchersUptoRow : OpenClaim := { program := "ytiffjeclpgcabaa", sum := "8450881d0ff6b84836f63918d4d4b95009fd3e1f522c248733d39dae0aabd731", func := "loop.example/sumsthatadd/laws.FnExactUseVouchers", spec := "fnExactUseVouchers", apart := false, narrowed := true }
def FnExactUseVouchersUptoSaid : Prop := fnExactUseVouchersUptoRow.holds Try.pinned (OpenSpec.upto fnExactUseVouchersSpec)

/-- 'laws.FnExactCarryOf', WHERE WHAT IT READS IS OF BULK AT MOST 1048576: true; the input reads as it did. -/
def fnExactCarryOfUptoRow : OpenClaim := { program := "ytiffjeclpgcabaa", sum := "8450881d0ff6b84836f63918d4d4b95009fd3e1f522c248733d39dae0aabd731", func := "loop.example/sumsthatadd/laws.FnExactCarryOf", spec := "fnExactCarryOf", apart := false, narrowed := true }
def FnExactCarryOfUptoSaid : Prop := fnExactCarryOfUptoRow.holds Try.pinned (OpenSpec.upto fnExactCarryOfSpec)

end Rows
end Go.Proofs.Ytiffjeclpgcabaa
