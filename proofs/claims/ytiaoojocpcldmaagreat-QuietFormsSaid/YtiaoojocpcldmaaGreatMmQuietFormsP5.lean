/- QuietForms: what some calls come to, each run to its end by the machine; no condition. -/
import Derived.Test.YtiaoojocpcldmaaGreatMmQuietFormsD5
namespace Go.Proofs.YtiaoojocpcldmaaGreat
open Go.Abs
set_option linter.unusedVariables false
set_option maxRecDepth 100000
namespace quietFormsCl
noncomputable section
theorem e29 : (evOY nonJ X28 [13,122,44,45,100,101,102,103,179,336,228,361] Tryz.prog 100000 60).1 165 ys29 [] = some rs29 := by kernel_rfl
theorem e30 : (evOY nonJ X29 [13,122,44,45,100,101,102,103,179,336,228,361] Tryz.prog 100000 60).1 165 ys30 [] = some rs30 := by kernel_rfl
theorem e31 : (evOY nonJ X30 [13,122,44,45,100,101,102,103,179,336,228,361] Tryz.prog 100000 60).1 165 ys31 [] = some rs31 := by kernel_rfl
theorem e32 : (evOY nonJ X31 [13,122,44,45,100,101,102,103,179,336,228,361] Tryz.prog 100000 60).1 165 ys32 [] = some rs32 := by kernel_rfl
theorem e33 : (evOY nonJ X32 [13,122,44,45,100,101,102,103,179,336,228,361] Tryz.prog 100000 60).1 165 ys33 [] = some rs33 := by kernel_rfl
theorem e34 : (evOY nonJ X33 [13,122,44,45,100,101,102,103,179,336,228,361] Tryz.prog 100000 60).1 161 ys34 [] = some rs34 := by kernel_rfl
theorem e35 : (evOY nonJ X34 [13,122,44,45,100,101,102,103,179,336,228,361] Tryz.prog 100000 60).1 165 ys35 [] = some rs35 := by kernel_rfl
theorem e36 : (evOY nonJ X35 [13,122,44,45,100,101,102,103,179,336,228,361] Tryz.prog 100000 60).1 165 ys36 [] = some rs36 := by kernel_rfl
theorem e37 : (evOY nonJ X36 [13,122,44,45,100,101,102,103,179,336,228,361] Tryz.prog 100000 60).1 165 ys37 [] = some rs37 := by kernel_rfl
theorem e38 : (evOY nonJ X37 [13,122,44,45,100,101,102,103,179,336,228,361] Tryz.prog 100000 60).1 165 ys38 [] = some rs38 := by kernel_rfl
end
end quietFormsCl
end Go.Proofs.YtiaoojocpcldmaaGreat
