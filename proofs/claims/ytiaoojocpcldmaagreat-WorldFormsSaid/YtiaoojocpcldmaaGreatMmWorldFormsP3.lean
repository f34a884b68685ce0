/- WorldForms: what some calls come to, each run to its end by the machine; no condition. -/
import Derived.Test.YtiaoojocpcldmaaGreatMmWorldFormsD1
namespace Go.Proofs.YtiaoojocpcldmaaGreat
open Go.Abs
set_option linter.unusedVariables false
set_option maxRecDepth 100000
namespace worldFormsCl
noncomputable section
theorem e4 : (evOY nonJ X3 [44,45,100,101,102,103,179] Tryz.prog 100000 60).1 9 ys4 [] = some rs4 := by kernel_rfl
theorem e8 : (evOY nonJ X7 [44,45,100,101,102,103,179] Tryz.prog 100000 60).1 15 ys8 [] = some rs8 := by kernel_rfl
theorem e12 : (evOY nonJ X11 [44,45,100,101,102,103,179] Tryz.prog 100000 60).1 15 ys12 [] = some rs12 := by kernel_rfl
theorem e16 : (evOY nonJ X15 [44,45,100,101,102,103,179] Tryz.prog 100000 60).1 15 ys16 [] = some rs16 := by kernel_rfl
theorem e20 : (evOY nonJ X19 [44,45,100,101,102,103,179] Tryz.prog 100000 60).1 15 ys20 [] = some rs20 := by kernel_rfl
theorem e24 : (evOY nonJ X23 [44,45,100,101,102,103,179] Tryz.prog 100000 60).1 15 ys24 [] = some rs24 := by kernel_rfl
theorem e28 : (evOY nonJ X27 [44,45,100,101,102,103,179] Tryz.prog 100000 60).1 15 ys28 [] = some rs28 := by kernel_rfl
theorem e32 : (evOY nonJ X31 [44,45,100,101,102,103,179] Tryz.prog 100000 60).1 15 ys32 [] = some rs32 := by kernel_rfl
end
end worldFormsCl
end Go.Proofs.YtiaoojocpcldmaaGreat
