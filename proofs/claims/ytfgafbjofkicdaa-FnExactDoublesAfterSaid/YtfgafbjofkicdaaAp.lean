/- Rows made one behind the other lie apart. -/
import Derived.Test.YtfgafbjofkicdaaOwn
import Derived.Test.YtfgafbjofkicdaaPush
namespace Go.Proofs.Ytfgafbjofkicdaa
open Go.RowKit

theorem Own.apart_of_base {w w' : World} {B : Nat} {u v : Value} {us vs : List Int} (hu : Own w B u us) (hv : Own w' w.heap.size v vs) : Apart u v := by
  by_cases h : u.ownBlock = none
  · exact .inl h
  · refine .inr fun e => ?_
    cases hb : u.ownBlock with
    | none => exact h hb
    | some k =>
      have h1 := (hu.lt k hb).2
      have h2 := (hv.lt k (by rw [← e]; exact hb)).1
      omega

end Go.Proofs.Ytfgafbjofkicdaa
