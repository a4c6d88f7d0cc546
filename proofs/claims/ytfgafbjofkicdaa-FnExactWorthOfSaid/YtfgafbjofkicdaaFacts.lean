/- Closed facts of the program's head, asked once for all rows. -/
import Derived.Test.YtfgafbjofkicdaaRows
import Derived.WalkKit
import Derived.ProofKit
import Derived.OpenShut
import Derived.JoinedOf
namespace Go.Proofs.Ytfgafbjofkicdaa

theorem factEnter : Try.prog.mayEnter = true := by kernel_rfl
theorem factLifts : Try.prog.liftsFinal = false := by kernel_rfl
theorem factMake : (Try.prog.make == some Make.cut) = true := by kernel_rfl

end Go.Proofs.Ytfgafbjofkicdaa
