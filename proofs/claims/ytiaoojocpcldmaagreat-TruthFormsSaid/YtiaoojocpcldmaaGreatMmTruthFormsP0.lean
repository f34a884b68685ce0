/- TruthForms: what some calls come to, each run to its end by the machine; no condition. -/
import Derived.Test.YtiaoojocpcldmaaGreatMmTruthFormsD0
namespace Go.Proofs.YtiaoojocpcldmaaGreat
open Go.Abs
set_option linter.unusedVariables false
set_option maxRecDepth 100000
namespace truthFormsCl
noncomputable section
theorem e1 : (evOY nonJ X0 INL Tryz.prog 100000 60).1 24 ys1 [] = some rs1 := by kernel_rfl
end
end truthFormsCl
end Go.Proofs.YtiaoojocpcldmaaGreat
