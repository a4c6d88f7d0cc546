/- The law FnDoublesAfter, walked. -/
import Derived.Test.YtfgafbjofkicdaaLDoubles
import Derived.Test.YtfgafbjofkicdaaBkD
namespace Go.Proofs.Ytfgafbjofkicdaa
open Go.RowKit

theorem FnDoublesAfter_walk (a : Option Addr) (n cap : Nat) (w : World) (h : IsBytes w a n) (hc : n ≤ cap) :
    Calls Try.prog 10 #[.slice a n cap] w fun e w' => e = .returned (.bool true) ∧ Below w.heap.size w w' :=
  FnDoublesAfter_of (fun p b wx => (DoublesAfter_impl p b wx).mono (by rintro e w' ⟨rfl, rfl⟩; exact ⟨rfl, Below.refl _ _⟩)) a n cap w h hc

end Go.Proofs.Ytfgafbjofkicdaa
