/- QuietForms: what some calls come to, each run to its end by the machine; no condition. -/
import Derived.Test.YtiaoojocpcldmaaGreatMmQuietFormsD3
namespace Go.Proofs.YtiaoojocpcldmaaGreat
open Go.Abs
set_option linter.unusedVariables false
set_option maxRecDepth 100000
namespace quietFormsCl
noncomputable section
theorem e21 : (evOY nonJ X20 [13,122,44,45,100,101,102,103,179,336,228,361] Tryz.prog 100000 60).1 20 ys21 [] = some rs21 := by kernel_rfl
theorem e22 : (evOY nonJ X21 [13,122,44,45,100,101,102,103,179,336,228,361] Tryz.prog 100000 60).1 19 ys22 [] = some rs22 := by kernel_rfl
theorem e23 : (evOY nonJ X22 [13,122,44,45,100,101,102,103,179,336,228,361] Tryz.prog 100000 60).1 20 ys23 [] = some rs23 := by kernel_rfl
theorem e24 : (evOY nonJ X23 [13,122,44,45,100,101,102,103,179,336,228,361] Tryz.prog 100000 60).1 19 ys24 [] = some rs24 := by kernel_rfl
theorem e25 : (evOY nonJ X24 [13,122,44,45,100,101,102,103,179,336,228,361] Tryz.prog 100000 60).1 20 ys25 [] = some rs25 := by kernel_rfl
theorem e26 : (evOY nonJ X25 [13,122,44,45,100,101,102,103,179,336,228,361] Tryz.prog 100000 60).1 19 ys26 [] = some rs26 := by kernel_rfl
theorem e27 : (evOY nonJ X26 [13,122,44,45,100,101,102,103,179,336,228,361] Tryz.prog 100000 60).1 20 ys27 [] = some rs27 := by kernel_rfl
end
end quietFormsCl
end Go.Proofs.YtiaoojocpcldmaaGreat
