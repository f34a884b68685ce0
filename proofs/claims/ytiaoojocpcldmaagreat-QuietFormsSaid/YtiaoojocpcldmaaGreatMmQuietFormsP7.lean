/- QuietForms: what some calls come to, each run to its end by the machine; no condition. -/
import Derived.Test.YtiaoojocpcldmaaGreatMmQuietFormsD7
namespace Go.Proofs.YtiaoojocpcldmaaGreat
open Go.Abs
set_option linter.unusedVariables false
set_option maxRecDepth 100000
namespace quietFormsCl
noncomputable section
theorem e50 : (evOY nonJ X49 [13,122,44,45,100,101,102,103,179,336,228,361] Tryz.prog 100000 60).1 89 ys50 [] = some rs50 := by kernel_rfl
theorem e51 : (evOY nonJ X50 [13,122,44,45,100,101,102,103,179,336,228,361] Tryz.prog 100000 60).1 39 ys51 [] = some rs51 := by kernel_rfl
end
end quietFormsCl
end Go.Proofs.YtiaoojocpcldmaaGreat
