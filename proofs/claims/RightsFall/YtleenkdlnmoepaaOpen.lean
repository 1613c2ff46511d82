/- What every lifting here shares. -/
import Derived.Test.YtleenkdlnmoepaaRows
import Derived.Test.YtleenkdlnmoepaaWorks
import Derived.ProofKit
import Derived.OpenShut
import Derived.ShutString
import Derived.ChangeOld
import Derived.Below
import Derived.SizedLaws
import Derived.Lib.SmallJoins
namespace Go.Proofs.Ytleenkdlnmoepaa
open Go.ChangeShapes Go.WideShapes Go.ChangeAt Go.RowKit Go.Joins

theorem ownT : ownKnob Try.prog.godebug = none := by kernel_rfl
theorem laidOutT : laidOutB Try.prog = true := by kernel_rfl
end Go.Proofs.Ytleenkdlnmoepaa
