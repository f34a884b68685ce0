/- What every proof of this seat leans on: the program has the form that the machine knows. -/
import Derived.Test.YtiaoojocpcldmaaGreatRows
import Derived.Test.YtiaoojocpcldmaaGreatExtYD
import Derived.WalkKit
import Derived.ProofKit
import Derived.OpenShut
import Derived.ShutString
import Derived.ChangeOld
import Derived.Below
namespace Go.Proofs.YtiaoojocpcldmaaGreat
open Go.Abs Go.RowKit Go.ChangeShapes Go.WideShapes Go.ChangeAt
set_option maxRecDepth 100000
theorem own : ownKnob Tryz.prog.godebug = none := by kernel_rfl
theorem laidOut : laidOutB Tryz.prog = true := by kernel_rfl
theorem mixed : Tryz.prog.follows .mixedOrders = true := by decide +kernel
theorem progOk_ : progOk Tryz.prog = true := by decide +kernel
end Go.Proofs.YtiaoojocpcldmaaGreat
