/- QuietForms: what some calls come to, each run to its end by the machine; no condition. -/
import Derived.Test.YtiaoojocpcldmaaGreatMmQuietFormsD9
namespace Go.Proofs.YtiaoojocpcldmaaGreat
open Go.Abs
set_option linter.unusedVariables false
set_option maxRecDepth 100000
namespace quietFormsCl
noncomputable section
theorem e58 : (evOY nonJ X57 [13,122,44,45,100,101,102,103,179,336,228,361] Tryz.prog 100000 60).1 15 ys58 [] = some rs58 := by kernel_rfl
theorem e59 : (evOY nonJ X58 [13,122,44,45,100,101,102,103,179,336,228,361] Tryz.prog 100000 60).1 15 ys59 [] = some rs59 := by kernel_rfl
theorem e60 : (evOY nonJ X59 [13,122,44,45,100,101,102,103,179,336,228,361] Tryz.prog 100000 60).1 15 ys60 [] = some rs60 := by kernel_rfl
theorem e61 : (evOY nonJ X60 [13,122,44,45,100,101,102,103,179,336,228,361] Tryz.prog 100000 60).1 15 ys61 [] = some rs61 := by kernel_rfl
theorem e62 : (evOY nonJ X61 [13,122,44,45,100,101,102,103,179,336,228,361] Tryz.prog 100000 60).1 15 ys62 [] = some rs62 := by kernel_rfl
theorem e63 : (evOY nonJ X62 [13,122,44,45,100,101,102,103,179,336,228,361] Tryz.prog 100000 60).1 15 ys63 [] = some rs63 := by kernel_rfl
theorem e64 : (evOY nonJ X63 [13,122,44,45,100,101,102,103,179,336,228,361] Tryz.prog 100000 60).1 15 ys64 [] = some rs64 := by kernel_rfl
end
end quietFormsCl
end Go.Proofs.YtiaoojocpcldmaaGreat
