/- What every proof of this seat leans on: the program has the form that the machine knows. -/
import Derived.Test.YtpiljcflnkaphabRows
import Derived.Test.YtpiljcflnkaphabAbsY
import Derived.WalkKit
import Derived.ProofKit
import Derived.OpenShut
import Derived.ShutString
import Derived.ChangeOld
import Derived.Below
namespace Go.Proofs.Ytpiljcflnkaphab
open Go.Abs Go.RowKit Go.ChangeShapes Go.WideShapes Go.ChangeAt
set_option maxRecDepth 100000
theorem own : ownKnob Try.prog.godebug = none := by kernel_rfl
theorem laidOut : laidOutB Try.prog = true := by kernel_rfl
theorem mixed : Try.prog.follows .mixedOrders = true := by decide +kernel
theorem progOk_ : progOk Try.prog = true := by decide +kernel

def isT : Option (V × List OK × List OK) → Bool
  | some (.bool true, [], []) => true
  | _ => false
theorem isT_ {r : Option (V × List OK × List OK)} (h : isT r = true) : r = some (.bool true, [], []) := by
  unfold isT at h
  split at h
  · rfl
  · cases h
end Go.Proofs.Ytpiljcflnkaphab
