/- QuietForms: what some calls come to, each run to its end by the machine; no condition. -/
import Derived.Test.YtiaoojocpcldmaaGreatMmQuietFormsD6
namespace Go.Proofs.YtiaoojocpcldmaaGreat
open Go.Abs
set_option linter.unusedVariables false
set_option maxRecDepth 100000
namespace quietFormsCl
noncomputable section
theorem e39 : (evOY nonJ X38 [13,122,44,45,100,101,102,103,179,336,228,361] Tryz.prog 100000 60).1 161 ys39 [] = some rs39 := by kernel_rfl
theorem e40 : (evOY nonJ X39 [13,122,44,45,100,101,102,103,179,336,228,361] Tryz.prog 100000 60).1 165 ys40 [] = some rs40 := by kernel_rfl
theorem e41 : (evOY nonJ X40 [13,122,44,45,100,101,102,103,179,336,228,361] Tryz.prog 100000 60).1 165 ys41 [] = some rs41 := by kernel_rfl
theorem e42 : (evOY nonJ X41 [13,122,44,45,100,101,102,103,179,336,228,361] Tryz.prog 100000 60).1 165 ys42 [] = some rs42 := by kernel_rfl
theorem e43 : (evOY nonJ X42 [13,122,44,45,100,101,102,103,179,336,228,361] Tryz.prog 100000 60).1 161 ys43 [] = some rs43 := by kernel_rfl
theorem e44 : (evOY nonJ X43 [13,122,44,45,100,101,102,103,179,336,228,361] Tryz.prog 100000 60).1 165 ys44 [] = some rs44 := by kernel_rfl
theorem e45 : (evOY nonJ X44 [13,122,44,45,100,101,102,103,179,336,228,361] Tryz.prog 100000 60).1 165 ys45 [] = some rs45 := by kernel_rfl
theorem e46 : (evOY nonJ X45 [13,122,44,45,100,101,102,103,179,336,228,361] Tryz.prog 100000 60).1 161 ys46 [] = some rs46 := by kernel_rfl
theorem e47 : (evOY nonJ X46 [13,122,44,45,100,101,102,103,179,336,228,361] Tryz.prog 100000 60).1 165 ys47 [] = some rs47 := by kernel_rfl
theorem e48 : (evOY nonJ X47 [13,122,44,45,100,101,102,103,179,336,228,361] Tryz.prog 100000 60).1 161 ys48 [] = some rs48 := by kernel_rfl
theorem e49 : (evOY nonJ X48 [13,122,44,45,100,101,102,103,179,336,228,361] Tryz.prog 100000 60).1 161 ys49 [] = some rs49 := by kernel_rfl
end
end quietFormsCl
end Go.Proofs.YtiaoojocpcldmaaGreat
