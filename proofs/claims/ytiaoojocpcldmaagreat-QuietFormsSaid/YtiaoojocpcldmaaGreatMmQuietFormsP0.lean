/- QuietForms: what some calls come to, each run to its end by the machine; no condition. -/
import Derived.Test.YtiaoojocpcldmaaGreatMmQuietFormsD0
namespace Go.Proofs.YtiaoojocpcldmaaGreat
open Go.Abs
set_option linter.unusedVariables false
set_option maxRecDepth 100000
namespace quietFormsCl
noncomputable section
theorem e1 : (evOY nonJ X0 [13,122,44,45,100,101,102,103,179] Tryz.prog 100000 60).1 18 ys1 [] = some rs1 := by kernel_rfl
theorem e2 : (evOY nonJ X1 [13,122,44,45,100,101,102,103,179] Tryz.prog 100000 60).1 15 ys2 [] = some rs2 := by kernel_rfl
theorem e3 : (evOY nonJ X2 [13,122,44,45,100,101,102,103,179] Tryz.prog 100000 60).1 15 ys3 [] = some rs3 := by kernel_rfl
theorem e4 : (evOY nonJ X3 [13,122,44,45,100,101,102,103,179] Tryz.prog 100000 60).1 15 ys4 [] = some rs4 := by kernel_rfl
theorem e5 : (evOY nonJ X4 [13,122,44,45,100,101,102,103,179] Tryz.prog 100000 60).1 15 ys5 [] = some rs5 := by kernel_rfl
theorem e6 : (evOY nonJ X5 [13,122,44,45,100,101,102,103,179] Tryz.prog 100000 60).1 21 ys6 [] = some rs6 := by kernel_rfl
theorem e7 : (evOY nonJ X6 [13,122,44,45,100,101,102,103,179] Tryz.prog 100000 60).1 17 ys7 [] = some rs7 := by kernel_rfl
theorem e8 : (evOY nonJ X7 [13,122,44,45,100,101,102,103,179] Tryz.prog 100000 60).1 18 ys8 [] = some rs8 := by kernel_rfl
theorem e9 : (evOY nonJ X8 [13,122,44,45,100,101,102,103,179] Tryz.prog 100000 60).1 18 ys9 [] = some rs9 := by kernel_rfl
theorem e10 : (evOY nonJ X9 [13,122,44,45,100,101,102,103,179] Tryz.prog 100000 60).1 18 ys10 [] = some rs10 := by kernel_rfl
theorem e11 : (evOY nonJ X10 [13,122,44,45,100,101,102,103,179] Tryz.prog 100000 60).1 18 ys11 [] = some rs11 := by kernel_rfl
theorem e12 : (evOY nonJ X11 [13,122,44,45,100,101,102,103,179] Tryz.prog 100000 60).1 18 ys12 [] = some rs12 := by kernel_rfl
end
end quietFormsCl
end Go.Proofs.YtiaoojocpcldmaaGreat
