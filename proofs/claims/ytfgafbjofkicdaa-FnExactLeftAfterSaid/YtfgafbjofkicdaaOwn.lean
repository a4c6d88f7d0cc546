/- Slices of ints that a call makes itself: contracts of copying, comparing, marking. -/
import Derived.Test.YtfgafbjofkicdaaNum
import Derived.Test.YtfgafbjofkicdaaOwnB
namespace Go.Proofs.Ytfgafbjofkicdaa
open Go.RowKit

theorem set_fill (xs : List Int) (k : Nat) (h : k < xs.length) :
    ((xs.take k).map (Value.int .i64) ++ List.replicate (xs.length - k) (Value.int .i64 0)).set k (.int .i64 xs[k]) = (xs.take (k + 1)).map (Value.int .i64) ++ List.replicate (xs.length - (k + 1)) (Value.int .i64 0) := by
  have e : xs.length - k = (xs.length - (k + 1)) + 1 := by omega
  rw [e, List.replicate_succ, List.take_succ_eq_append_getElem h, List.map_append, List.append_assoc]
  have hl : ((xs.take k).map (Value.int .i64)).length = k := by simp; omega
  rw [List.set_append_right _ _ (by omega), hl, Nat.sub_self]
  rfl

theorem take_eq_of (xs ys : List Int) (k : Nat) (h : k < xs.length) (h' : k < ys.length) (e : xs.take k = ys.take k) (he : xs[k] = ys[k]) : xs.take (k + 1) = ys.take (k + 1) := by
  rw [List.take_succ_eq_append_getElem h, List.take_succ_eq_append_getElem h', e, he]

end Go.Proofs.Ytfgafbjofkicdaa
