/- Sums of first values, where no tables are. -/
import Derived.Test.YtfgafbjofkicdaaNum
namespace Go.Proofs.Ytfgafbjofkicdaa
open Go.RowKit

/-- The sum of the first numbers of a list. -/
def sumT (list : List Int) : Nat → Int
  | 0 => 0
  | t + 1 => sumT list t + list.getD t 0

theorem sumT_tot (list : List Int) : ∀ t, t ≤ list.length → tot (list.take t) = sumT list t
  | 0, _ => by simp [tot, sumT]
  | t + 1, h => by
    rw [tot_take_succ list t (by omega), sumT_tot list t (by omega), sumT]
    simp [List.getD, show t < list.length by omega]

/-- The sum of the first values of a function. -/
def sumF (f : Nat → Int) : Nat → Int
  | 0 => 0
  | n + 1 => sumF f n + f n

end Go.Proofs.Ytfgafbjofkicdaa
