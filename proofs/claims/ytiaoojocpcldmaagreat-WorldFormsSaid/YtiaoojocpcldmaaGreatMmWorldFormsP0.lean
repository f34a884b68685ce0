/- WorldForms: what some calls come to, each run to its end by the machine; no condition. -/
import Derived.Test.YtiaoojocpcldmaaGreatMmWorldFormsD1
namespace Go.Proofs.YtiaoojocpcldmaaGreat
open Go.Abs
set_option linter.unusedVariables false
set_option maxRecDepth 100000
namespace worldFormsCl
noncomputable section
theorem e1 : (evOY nonJ X0 [44,45,100,101,102,103,179] Tryz.prog 100000 60).1 15 ys1 [] = some rs1 := by kernel_rfl
theorem e5 : (evOY nonJ X4 [44,45,100,101,102,103,179] Tryz.prog 100000 60).1 15 ys5 [] = some rs5 := by kernel_rfl
theorem e9 : (evOY nonJ X8 [44,45,100,101,102,103,179] Tryz.prog 100000 60).1 15 ys9 [] = some rs9 := by kernel_rfl
theorem e13 : (evOY nonJ X12 [44,45,100,101,102,103,179] Tryz.prog 100000 60).1 15 ys13 [] = some rs13 := by kernel_rfl
theorem e17 : (evOY nonJ X16 [44,45,100,101,102,103,179] Tryz.prog 100000 60).1 15 ys17 [] = some rs17 := by kernel_rfl
theorem e21 : (evOY nonJ X20 [44,45,100,101,102,103,179] Tryz.prog 100000 60).1 15 ys21 [] = some rs21 := by kernel_rfl
theorem e25 : (evOY nonJ X24 [44,45,100,101,102,103,179] Tryz.prog 100000 60).1 15 ys25 [] = some rs25 := by kernel_rfl
theorem e29 : (evOY nonJ X28 [44,45,100,101,102,103,179] Tryz.prog 100000 60).1 15 ys29 [] = some rs29 := by kernel_rfl
theorem e33 : (evOY nonJ X32 [44,45,100,101,102,103,179,336] Tryz.prog 100000 60).1 15 ys33 [] = some rs33 := by kernel_rfl
end
end worldFormsCl
end Go.Proofs.YtiaoojocpcldmaaGreat
