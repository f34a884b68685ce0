/- What every proof of this seat leans on: the program has the form that the machine knows. -/
import Derived.Test.YtfmoomkfefpcgadRows
import Derived.Test.YtfmoomkfefpcgadExtYD
import Derived.WalkKit
import Derived.ProofKit
import Derived.OpenShut
import Derived.ShutString
import Derived.ChangeOld
import Derived.Below
namespace Go.Proofs.Ytfmoomkfefpcgad
open Go.Abs Go.RowKit Go.ChangeShapes Go.WideShapes Go.ChangeAt
set_option maxRecDepth 100000
theorem own : ownKnob Try.prog.godebug = none := by kernel_rfl
theorem laidOut : laidOutB Try.prog = true := by kernel_rfl
theorem mixed : Try.prog.follows .mixedOrders = true := by decide +kernel
theorem progOk_ : progOk Try.prog = true := by decide +kernel
end Go.Proofs.Ytfmoomkfefpcgad
