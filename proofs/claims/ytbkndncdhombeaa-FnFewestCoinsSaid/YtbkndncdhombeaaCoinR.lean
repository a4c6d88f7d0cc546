/- What the laws of chapter 5 draw. -/
import Derived.Test.YtbkndncdhombeaaCoinD
namespace Go.Proofs.Ytbkndncdhombeaa
open Go.RowKit

theorem own_apart {w : World} {B2 : Nat} {v u : Value} {ys : List Int} (hk : ∀ k, v.ownBlock = some k → k < B2) (hu : Own w B2 u ys) : v.ownBlock = none ∨ v.ownBlock ≠ u.ownBlock := by
  cases hv : v.ownBlock with
  | none => exact .inl rfl
  | some k => exact .inr (fun e => by have h1 := (hu.lt k e.symm).1; have h2 := hk k hv; omega)

end Go.Proofs.Ytbkndncdhombeaa
