/- The laws FnValidLoan and FnInterestOf, walked. -/
import Derived.Test.YtfgafbjofkicdaaLValidLoan
import Derived.Test.YtfgafbjofkicdaaLInterest
import Derived.Test.YtfgafbjofkicdaaBkI
namespace Go.Proofs.Ytfgafbjofkicdaa
open Go.RowKit

theorem FnValidLoan_walk (a : Option Addr) (n cap : Nat) (w : World) (h : IsBytes w a n) (hc : n ≤ cap) :
    Calls Try.prog 3 #[.slice a n cap] w fun e w' => e = .returned (.bool true) ∧ Below w.heap.size w w' := FnValidLoan_of ValidLoan_impl a n cap w h hc

theorem FnInterestOf_walk (a : Option Addr) (n cap : Nat) (w : World) (h : IsBytes w a n) (hc : n ≤ cap) :
    Calls Try.prog 4 #[.slice a n cap] w fun e w' => e = .returned (.bool true) ∧ Below w.heap.size w w' :=
  FnInterestOf_of (fun x p b wx => (InterestOf_impl x p b wx).mono (by rintro e w' ⟨rfl, rfl⟩; exact ⟨rfl, Below.refl _ _⟩)) a n cap w h hc

end Go.Proofs.Ytfgafbjofkicdaa
