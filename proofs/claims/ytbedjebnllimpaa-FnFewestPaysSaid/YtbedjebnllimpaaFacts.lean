/- Closed facts of the program's head, asked once for all rows. -/
import Derived.Test.YtbedjebnllimpaaRows
import Derived.WalkKit
import Derived.ProofKit
import Derived.OpenShut
import Derived.JoinedOf
namespace Go.Proofs.Ytbedjebnllimpaa

theorem factEnter : Try.prog.mayEnter = true := by kernel_rfl
theorem factLifts : Try.prog.liftsFinal = false := by kernel_rfl
theorem factMake : (Try.prog.make == some Make.cut) = true := by kernel_rfl

end Go.Proofs.Ytbedjebnllimpaa
