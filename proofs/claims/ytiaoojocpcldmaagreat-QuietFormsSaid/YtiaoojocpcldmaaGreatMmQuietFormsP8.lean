/- QuietForms: what some calls come to, each run to its end by the machine; no condition. -/
import Derived.Test.YtiaoojocpcldmaaGreatMmQuietFormsD8
namespace Go.Proofs.YtiaoojocpcldmaaGreat
open Go.Abs
set_option linter.unusedVariables false
set_option maxRecDepth 100000
namespace quietFormsCl
noncomputable section
theorem e52 : (evOY nonJ X51 [13,122,44,45,100,101,102,103,179,336,228,361] Tryz.prog 100000 60).1 18 ys52 [] = some rs52 := by kernel_rfl
theorem e53 : (evOY nonJ X52 [13,122,44,45,100,101,102,103,179,336,228,361] Tryz.prog 100000 60).1 19 ys53 [] = some rs53 := by kernel_rfl
theorem e54 : (evOY nonJ X53 [13,122,44,45,100,101,102,103,179,336,228,361] Tryz.prog 100000 60).1 20 ys54 [] = some rs54 := by kernel_rfl
theorem e55 : (evOY nonJ X54 [13,122,44,45,100,101,102,103,179,336,228,361] Tryz.prog 100000 60).1 15 ys55 [] = some rs55 := by kernel_rfl
theorem e56 : (evOY nonJ X55 [13,122,44,45,100,101,102,103,179,336,228,361] Tryz.prog 100000 60).1 15 ys56 [] = some rs56 := by kernel_rfl
theorem e57 : (evOY nonJ X56 [13,122,44,45,100,101,102,103,179,336,228,361] Tryz.prog 100000 60).1 15 ys57 [] = some rs57 := by kernel_rfl
end
end quietFormsCl
end Go.Proofs.YtiaoojocpcldmaaGreat
