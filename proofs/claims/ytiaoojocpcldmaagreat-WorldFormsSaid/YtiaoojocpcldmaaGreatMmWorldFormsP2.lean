/- WorldForms: what some calls come to, each run to its end by the machine; no condition. -/
import Derived.Test.YtiaoojocpcldmaaGreatMmWorldFormsD1
namespace Go.Proofs.YtiaoojocpcldmaaGreat
open Go.Abs
set_option linter.unusedVariables false
set_option maxRecDepth 100000
namespace worldFormsCl
noncomputable section
theorem e3 : (evOY nonJ X2 [44,45,100,101,102,103,179] Tryz.prog 100000 60).1 15 ys3 [] = some rs3 := by kernel_rfl
theorem e7 : (evOY nonJ X6 [44,45,100,101,102,103,179] Tryz.prog 100000 60).1 15 ys7 [] = some rs7 := by kernel_rfl
theorem e11 : (evOY nonJ X10 [44,45,100,101,102,103,179] Tryz.prog 100000 60).1 15 ys11 [] = some rs11 := by kernel_rfl
theorem e15 : (evOY nonJ X14 [44,45,100,101,102,103,179] Tryz.prog 100000 60).1 15 ys15 [] = some rs15 := by kernel_rfl
theorem e19 : (evOY nonJ X18 [44,45,100,101,102,103,179] Tryz.prog 100000 60).1 15 ys19 [] = some rs19 := by kernel_rfl
theorem e23 : (evOY nonJ X22 [44,45,100,101,102,103,179] Tryz.prog 100000 60).1 15 ys23 [] = some rs23 := by kernel_rfl
theorem e27 : (evOY nonJ X26 [44,45,100,101,102,103,179] Tryz.prog 100000 60).1 15 ys27 [] = some rs27 := by kernel_rfl
theorem e31 : (evOY nonJ X30 [44,45,100,101,102,103,179] Tryz.prog 100000 60).1 15 ys31 [] = some rs31 := by kernel_rfl
end
end worldFormsCl
end Go.Proofs.YtiaoojocpcldmaaGreat
