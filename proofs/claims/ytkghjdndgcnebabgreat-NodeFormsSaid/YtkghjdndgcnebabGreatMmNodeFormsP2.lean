/- NodeForms: what some calls come to, each run to its end by the machine; no condition. -/
import Derived.Test.YtkghjdndgcnebabGreatMmNodeFormsD0
namespace Go.Proofs.YtkghjdndgcnebabGreat
open Go.Abs
set_option linter.unusedVariables false
set_option maxRecDepth 100000
namespace nodeFormsCl
noncomputable section
theorem e3 : (evOY (insIn insT) X2 INL Tryz.prog 100000 60).1 8 ys3 [] = some rs3 := by kernel_rfl
theorem e6 : (evOY (insIn insT) X5 INL Tryz.prog 100000 60).1 32 ys6 [] = some rs6 := by kernel_rfl
theorem e9 : (evOY (insIn insT) X8 INL Tryz.prog 100000 60).1 34 ys9 [] = some rs9 := by kernel_rfl
theorem e12 : (evOY (insIn insT) X11 INL Tryz.prog 100000 60).1 34 ys12 [] = some rs12 := by kernel_rfl
theorem e15 : (evOY (insIn insT) X14 INL Tryz.prog 100000 60).1 34 ys15 [] = some rs15 := by kernel_rfl
theorem e18 : (evOY (insIn insT) X17 INL Tryz.prog 100000 60).1 34 ys18 [] = some rs18 := by kernel_rfl
theorem e21 : (evOY (insIn insT) X20 INL Tryz.prog 100000 60).1 34 ys21 [] = some rs21 := by kernel_rfl
theorem e24 : (evOY (insIn insT) X23 INL Tryz.prog 100000 60).1 11 ys24 [] = some rs24 := by kernel_rfl
theorem e27 : (evOY (insIn insT) X26 INL Tryz.prog 100000 60).1 34 ys27 [] = some rs27 := by kernel_rfl
theorem e30 : (evOY (insIn insT) X29 INL Tryz.prog 100000 60).1 10 ys30 [] = some rs30 := by kernel_rfl
end
end nodeFormsCl
end Go.Proofs.YtkghjdndgcnebabGreat
