/- NodeForms: what some calls come to, each run to its end by the machine; no condition. -/
import Derived.Test.YtkghjdndgcnebabGreatMmNodeFormsD0
namespace Go.Proofs.YtkghjdndgcnebabGreat
open Go.Abs
set_option linter.unusedVariables false
set_option maxRecDepth 100000
namespace nodeFormsCl
noncomputable section
theorem e2 : (evOY (insIn insT) X1 INL Tryz.prog 100000 60).1 34 ys2 [] = some rs2 := by kernel_rfl
theorem e5 : (evOY (insIn insT) X4 INL Tryz.prog 100000 60).1 10 ys5 [] = some rs5 := by kernel_rfl
theorem e8 : (evOY (insIn insT) X7 INL Tryz.prog 100000 60).1 8 ys8 [] = some rs8 := by kernel_rfl
theorem e11 : (evOY (insIn insT) X10 INL Tryz.prog 100000 60).1 11 ys11 [] = some rs11 := by kernel_rfl
theorem e14 : (evOY (insIn insT) X13 INL Tryz.prog 100000 60).1 11 ys14 [] = some rs14 := by kernel_rfl
theorem e17 : (evOY (insIn insT) X16 INL Tryz.prog 100000 60).1 11 ys17 [] = some rs17 := by kernel_rfl
theorem e20 : (evOY (insIn insT) X19 INL Tryz.prog 100000 60).1 11 ys20 [] = some rs20 := by kernel_rfl
theorem e23 : (evOY (insIn insT) X22 INL Tryz.prog 100000 60).1 12 ys23 [] = some rs23 := by kernel_rfl
theorem e26 : (evOY (insIn insT) X25 INL Tryz.prog 100000 60).1 11 ys26 [] = some rs26 := by kernel_rfl
theorem e29 : (evOY (insIn insT) X28 INL Tryz.prog 100000 60).1 11 ys29 [] = some rs29 := by kernel_rfl
theorem e32 : (evOY (insIn insT) X31 INL Tryz.prog 100000 60).1 9 ys32 [] = some rs32 := by kernel_rfl
end
end nodeFormsCl
end Go.Proofs.YtkghjdndgcnebabGreat
