/- NodeForms: what some calls come to, each run to its end by the machine; no condition. -/
import Derived.Test.YtkghjdndgcnebabGreatMmNodeFormsD0
namespace Go.Proofs.YtkghjdndgcnebabGreat
open Go.Abs
set_option linter.unusedVariables false
set_option maxRecDepth 100000
namespace nodeFormsCl
noncomputable section
theorem e1 : (evOY (insIn insT) X0 INL Tryz.prog 100000 60).1 8 ys1 [] = some rs1 := by kernel_rfl
theorem e4 : (evOY (insIn insT) X3 INL Tryz.prog 100000 60).1 31 ys4 [] = some rs4 := by kernel_rfl
theorem e7 : (evOY (insIn insT) X6 INL Tryz.prog 100000 60).1 7 ys7 [] = some rs7 := by kernel_rfl
theorem e10 : (evOY (insIn insT) X9 INL Tryz.prog 100000 60).1 9 ys10 [] = some rs10 := by kernel_rfl
theorem e13 : (evOY (insIn insT) X12 INL Tryz.prog 100000 60).1 10 ys13 [] = some rs13 := by kernel_rfl
theorem e16 : (evOY (insIn insT) X15 INL Tryz.prog 100000 60).1 10 ys16 [] = some rs16 := by kernel_rfl
theorem e19 : (evOY (insIn insT) X18 INL Tryz.prog 100000 60).1 10 ys19 [] = some rs19 := by kernel_rfl
theorem e22 : (evOY (insIn insT) X21 INL Tryz.prog 100000 60).1 10 ys22 [] = some rs22 := by kernel_rfl
theorem e25 : (evOY (insIn insT) X24 INL Tryz.prog 100000 60).1 10 ys25 [] = some rs25 := by kernel_rfl
theorem e28 : (evOY (insIn insT) X27 INL Tryz.prog 100000 60).1 10 ys28 [] = some rs28 := by kernel_rfl
theorem e31 : (evOY (insIn insT) X30 INL Tryz.prog 100000 60).1 34 ys31 [] = some rs31 := by kernel_rfl
end
end nodeFormsCl
end Go.Proofs.YtkghjdndgcnebabGreat
