/- QuietForms: what some calls come to, each run to its end by the machine; no condition. -/
import Derived.Test.YtiaoojocpcldmaaGreatMmQuietFormsD11
namespace Go.Proofs.YtiaoojocpcldmaaGreat
open Go.Abs
set_option linter.unusedVariables false
set_option maxRecDepth 100000
namespace quietFormsCl
noncomputable section
theorem e72 : (evOY nonJ X71 [13,122,44,45,100,101,102,103,179,336,228,361] Tryz.prog 100000 60).1 15 ys72 [] = some rs72 := by kernel_rfl
theorem e73 : (evOY nonJ X72 [13,122,44,45,100,101,102,103,179,336,228,361] Tryz.prog 100000 60).1 15 ys73 [] = some rs73 := by kernel_rfl
theorem e74 : (evOY nonJ X73 [13,122,44,45,100,101,102,103,179,336,228,361] Tryz.prog 100000 60).1 15 ys74 [] = some rs74 := by kernel_rfl
theorem e75 : (evOY nonJ X74 [13,122,44,45,100,101,102,103,179,336,228,361] Tryz.prog 100000 60).1 15 ys75 [] = some rs75 := by kernel_rfl
theorem e76 : (evOY nonJ X75 [13,122,44,45,100,101,102,103,179,336,228,361] Tryz.prog 100000 60).1 15 ys76 [] = some rs76 := by kernel_rfl
theorem e77 : (evOY nonJ X76 [13,122,44,45,100,101,102,103,179,336,228,361] Tryz.prog 100000 60).1 21 ys77 [] = some rs77 := by kernel_rfl
end
end quietFormsCl
end Go.Proofs.YtiaoojocpcldmaaGreat
