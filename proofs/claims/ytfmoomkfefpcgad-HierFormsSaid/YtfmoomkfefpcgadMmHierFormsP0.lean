/- HierForms: what some calls come to, each run to its end by the machine; no condition. -/
import Derived.Test.YtfmoomkfefpcgadMmHierFormsD0
namespace Go.Proofs.Ytfmoomkfefpcgad
open Go.Abs
set_option linter.unusedVariables false
set_option maxRecDepth 100000
namespace hierFormsCl
noncomputable section
theorem e1 : (evOY X0 INL Try.prog 100000 60).1 77 ys1 [] = some rs1 := by kernel_rfl
theorem e4 : (evOY X3 INL Try.prog 100000 60).1 15 ys4 [] = some rs4 := by kernel_rfl
theorem e7 : (evOY X6 INL Try.prog 100000 60).1 17 ys7 [] = some rs7 := by kernel_rfl
theorem e10 : (evOY X9 INL Try.prog 100000 60).1 31 ys10 [] = some rs10 := by kernel_rfl
theorem e13 : (evOY X12 INL Try.prog 100000 60).1 16 ys13 [] = some rs13 := by kernel_rfl
theorem e16 : (evOY X15 INL Try.prog 100000 60).1 17 ys16 [] = some rs16 := by kernel_rfl
theorem e19 : (evOY X18 INL Try.prog 100000 60).1 31 ys19 [] = some rs19 := by kernel_rfl
theorem e22 : (evOY X21 INL Try.prog 100000 60).1 16 ys22 [] = some rs22 := by kernel_rfl
theorem e25 : (evOY X24 INL Try.prog 100000 60).1 17 ys25 [] = some rs25 := by kernel_rfl
theorem e28 : (evOY X27 INL Try.prog 100000 60).1 12 ys28 [] = some rs28 := by kernel_rfl
theorem e31 : (evOY X30 INL Try.prog 100000 60).1 19 ys31 [] = some rs31 := by kernel_rfl
theorem e34 : (evOY X33 INL Try.prog 100000 60).1 17 ys34 [] = some rs34 := by kernel_rfl
theorem e37 : (evOY X36 INL Try.prog 100000 60).1 48 ys37 [] = some rs37 := by kernel_rfl
theorem e40 : (evOY X39 INL Try.prog 100000 60).1 49 ys40 [] = some rs40 := by kernel_rfl
theorem e43 : (evOY X42 INL Try.prog 100000 60).1 30 ys43 [] = some rs43 := by kernel_rfl
theorem e46 : (evOY X45 INL Try.prog 100000 60).1 48 ys46 [] = some rs46 := by kernel_rfl
theorem e49 : (evOY X48 INL Try.prog 100000 60).1 49 ys49 [] = some rs49 := by kernel_rfl
theorem e52 : (evOY X51 INL Try.prog 100000 60).1 30 ys52 [] = some rs52 := by kernel_rfl
theorem e55 : (evOY X54 INL Try.prog 100000 60).1 48 ys55 [] = some rs55 := by kernel_rfl
theorem e58 : (evOY X57 INL Try.prog 100000 60).1 49 ys58 [] = some rs58 := by kernel_rfl
theorem e61 : (evOY X60 INL Try.prog 100000 60).1 31 ys61 [] = some rs61 := by kernel_rfl
theorem e64 : (evOY X63 INL Try.prog 100000 60).1 31 ys64 [] = some rs64 := by kernel_rfl
theorem e67 : (evOY X66 INL Try.prog 100000 60).1 16 ys67 [] = some rs67 := by kernel_rfl
theorem e70 : (evOY X69 INL Try.prog 100000 60).1 17 ys70 [] = some rs70 := by kernel_rfl
theorem e73 : (evOY X72 INL Try.prog 100000 60).1 31 ys73 [] = some rs73 := by kernel_rfl
theorem e76 : (evOY X75 INL Try.prog 100000 60).1 16 ys76 [] = some rs76 := by kernel_rfl
theorem e79 : (evOY X78 INL Try.prog 100000 60).1 17 ys79 [] = some rs79 := by kernel_rfl
theorem e82 : (evOY X81 INL Try.prog 100000 60).1 43 ys82 [] = some rs82 := by kernel_rfl
theorem e85 : (evOY X84 INL Try.prog 100000 60).1 10 ys85 [] = some rs85 := by kernel_rfl
theorem e88 : (evOY X87 INL Try.prog 100000 60).1 43 ys88 [] = some rs88 := by kernel_rfl
theorem e91 : (evOY X90 INL Try.prog 100000 60).1 47 ys91 [] = some rs91 := by kernel_rfl
theorem e94 : (evOY X93 INL Try.prog 100000 60).1 47 ys94 [] = some rs94 := by kernel_rfl
theorem e97 : (evOY X96 INL Try.prog 100000 60).1 43 ys97 [] = some rs97 := by kernel_rfl
theorem e100 : (evOY X99 INL Try.prog 100000 60).1 47 ys100 [] = some rs100 := by kernel_rfl
theorem e103 : (evOY X102 INL Try.prog 100000 60).1 47 ys103 [] = some rs103 := by kernel_rfl
theorem e106 : (evOY X105 INL Try.prog 100000 60).1 10 ys106 [] = some rs106 := by kernel_rfl
theorem e109 : (evOY X108 INL Try.prog 100000 60).1 30 ys109 [] = some rs109 := by kernel_rfl
theorem e112 : (evOY X111 INL Try.prog 100000 60).1 31 ys112 [] = some rs112 := by kernel_rfl
theorem e115 : (evOY X114 INL Try.prog 100000 60).1 47 ys115 [] = some rs115 := by kernel_rfl
theorem e118 : (evOY X117 INL Try.prog 100000 60).1 47 ys118 [] = some rs118 := by kernel_rfl
theorem e121 : (evOY X120 INL Try.prog 100000 60).1 43 ys121 [] = some rs121 := by kernel_rfl
theorem e124 : (evOY X123 INL Try.prog 100000 60).1 47 ys124 [] = some rs124 := by kernel_rfl
theorem e127 : (evOY X126 INL Try.prog 100000 60).1 47 ys127 [] = some rs127 := by kernel_rfl
theorem e130 : (evOY X129 INL Try.prog 100000 60).1 31 ys130 [] = some rs130 := by kernel_rfl
theorem e133 : (evOY X132 INL Try.prog 100000 60).1 43 ys133 [] = some rs133 := by kernel_rfl
theorem e136 : (evOY X135 INL Try.prog 100000 60).1 11 ys136 [] = some rs136 := by kernel_rfl
theorem e139 : (evOY X138 INL Try.prog 100000 60).1 11 ys139 [] = some rs139 := by kernel_rfl
theorem e142 : (evOY X141 INL Try.prog 100000 60).1 49 ys142 [] = some rs142 := by kernel_rfl
theorem e145 : (evOY X144 INL Try.prog 100000 60).1 12 ys145 [] = some rs145 := by kernel_rfl
theorem e148 : (evOY X147 INL Try.prog 100000 60).1 19 ys148 [] = some rs148 := by kernel_rfl
theorem e151 : (evOY X150 INL Try.prog 100000 60).1 17 ys151 [] = some rs151 := by kernel_rfl
theorem e154 : (evOY X153 INL Try.prog 100000 60).1 19 ys154 [] = some rs154 := by kernel_rfl
end
end hierFormsCl
end Go.Proofs.Ytfmoomkfefpcgad
