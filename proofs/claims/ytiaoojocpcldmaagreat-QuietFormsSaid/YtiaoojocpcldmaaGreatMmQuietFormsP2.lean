/- QuietForms: what some calls come to, each run to its end by the machine; no condition. -/
import Derived.Test.YtiaoojocpcldmaaGreatMmQuietFormsD2
namespace Go.Proofs.YtiaoojocpcldmaaGreat
open Go.Abs
set_option linter.unusedVariables false
set_option maxRecDepth 100000
namespace quietFormsCl
noncomputable section
theorem e14 : (evOY nonJ X13 [13,122,44,45,100,101,102,103,179,336,228,361] Tryz.prog 100000 60).1 38 ys14 [] = some rs14 := by kernel_rfl
theorem e15 : (evOY nonJ X14 [13,122,44,45,100,101,102,103,179,336,228,361] Tryz.prog 100000 60).1 39 ys15 [] = some rs15 := by kernel_rfl
theorem e16 : (evOY nonJ X15 [13,122,44,45,100,101,102,103,179,336,228,361] Tryz.prog 100000 60).1 19 ys16 [] = some rs16 := by kernel_rfl
theorem e17 : (evOY nonJ X16 [13,122,44,45,100,101,102,103,179,336,228,361] Tryz.prog 100000 60).1 20 ys17 [] = some rs17 := by kernel_rfl
theorem e18 : (evOY nonJ X17 [13,122,44,45,100,101,102,103,179,336,228,361] Tryz.prog 100000 60).1 19 ys18 [] = some rs18 := by kernel_rfl
theorem e19 : (evOY nonJ X18 [13,122,44,45,100,101,102,103,179,336,228,361] Tryz.prog 100000 60).1 20 ys19 [] = some rs19 := by kernel_rfl
theorem e20 : (evOY nonJ X19 [13,122,44,45,100,101,102,103,179,336,228,361] Tryz.prog 100000 60).1 19 ys20 [] = some rs20 := by kernel_rfl
end
end quietFormsCl
end Go.Proofs.YtiaoojocpcldmaaGreat
