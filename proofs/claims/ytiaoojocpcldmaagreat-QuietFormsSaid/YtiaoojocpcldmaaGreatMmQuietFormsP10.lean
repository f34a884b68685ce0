/- QuietForms: what some calls come to, each run to its end by the machine; no condition. -/
import Derived.Test.YtiaoojocpcldmaaGreatMmQuietFormsD10
namespace Go.Proofs.YtiaoojocpcldmaaGreat
open Go.Abs
set_option linter.unusedVariables false
set_option maxRecDepth 100000
namespace quietFormsCl
noncomputable section
theorem e65 : (evOY nonJ X64 [13,122,44,45,100,101,102,103,179,336,228,361] Tryz.prog 100000 60).1 15 ys65 [] = some rs65 := by kernel_rfl
theorem e66 : (evOY nonJ X65 [13,122,44,45,100,101,102,103,179,336,228,361] Tryz.prog 100000 60).1 15 ys66 [] = some rs66 := by kernel_rfl
theorem e67 : (evOY nonJ X66 [13,122,44,45,100,101,102,103,179,336,228,361] Tryz.prog 100000 60).1 15 ys67 [] = some rs67 := by kernel_rfl
theorem e68 : (evOY nonJ X67 [13,122,44,45,100,101,102,103,179,336,228,361] Tryz.prog 100000 60).1 15 ys68 [] = some rs68 := by kernel_rfl
theorem e69 : (evOY nonJ X68 [13,122,44,45,100,101,102,103,179,336,228,361] Tryz.prog 100000 60).1 15 ys69 [] = some rs69 := by kernel_rfl
theorem e70 : (evOY nonJ X69 [13,122,44,45,100,101,102,103,179,336,228,361] Tryz.prog 100000 60).1 15 ys70 [] = some rs70 := by kernel_rfl
theorem e71 : (evOY nonJ X70 [13,122,44,45,100,101,102,103,179,336,228,361] Tryz.prog 100000 60).1 15 ys71 [] = some rs71 := by kernel_rfl
end
end quietFormsCl
end Go.Proofs.YtiaoojocpcldmaaGreat
