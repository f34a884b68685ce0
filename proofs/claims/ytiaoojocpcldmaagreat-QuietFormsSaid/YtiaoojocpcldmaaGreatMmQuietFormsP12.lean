/- QuietForms: what some calls come to, each run to its end by the machine; no condition. -/
import Derived.Test.YtiaoojocpcldmaaGreatMmQuietFormsD12
namespace Go.Proofs.YtiaoojocpcldmaaGreat
open Go.Abs
set_option linter.unusedVariables false
set_option maxRecDepth 100000
namespace quietFormsCl
noncomputable section
theorem e78 : (evOY nonJ X77 [13,122,44,45,100,101,102,103,179,336,228,361] Tryz.prog 100000 60).1 19 ys78 [] = some rs78 := by kernel_rfl
theorem e79 : (evOY nonJ X78 [13,122,44,45,100,101,102,103,179,336,228,361] Tryz.prog 100000 60).1 20 ys79 [] = some rs79 := by kernel_rfl
end
end quietFormsCl
end Go.Proofs.YtiaoojocpcldmaaGreat
