/- WorldForms: what some calls come to, each run to its end by the machine; no condition. -/
import Derived.Test.YtiaoojocpcldmaaGreatMmWorldFormsD1
namespace Go.Proofs.YtiaoojocpcldmaaGreat
open Go.Abs
set_option linter.unusedVariables false
set_option maxRecDepth 100000
namespace worldFormsCl
noncomputable section
theorem e2 : (evOY nonJ X1 [44,45,100,101,102,103,179] Tryz.prog 100000 60).1 15 ys2 [] = some rs2 := by kernel_rfl
theorem e6 : (evOY nonJ X5 [44,45,100,101,102,103,179] Tryz.prog 100000 60).1 15 ys6 [] = some rs6 := by kernel_rfl
theorem e10 : (evOY nonJ X9 [44,45,100,101,102,103,179] Tryz.prog 100000 60).1 15 ys10 [] = some rs10 := by kernel_rfl
theorem e14 : (evOY nonJ X13 [44,45,100,101,102,103,179] Tryz.prog 100000 60).1 15 ys14 [] = some rs14 := by kernel_rfl
theorem e18 : (evOY nonJ X17 [44,45,100,101,102,103,179] Tryz.prog 100000 60).1 15 ys18 [] = some rs18 := by kernel_rfl
theorem e22 : (evOY nonJ X21 [44,45,100,101,102,103,179] Tryz.prog 100000 60).1 15 ys22 [] = some rs22 := by kernel_rfl
theorem e26 : (evOY nonJ X25 [44,45,100,101,102,103,179] Tryz.prog 100000 60).1 15 ys26 [] = some rs26 := by kernel_rfl
theorem e30 : (evOY nonJ X29 [44,45,100,101,102,103,179] Tryz.prog 100000 60).1 15 ys30 [] = some rs30 := by kernel_rfl
theorem e34 : (evOY nonJ X33 [44,45,100,101,102,103,179,336] Tryz.prog 100000 60).1 12 ys34 [] = some rs34 := by kernel_rfl
end
end worldFormsCl
end Go.Proofs.YtiaoojocpcldmaaGreat
