/- HierForms: what some calls come to, each run to its end by the machine; no condition. -/
import Derived.Test.YtfmoomkfefpcgadMmHierFormsD0
namespace Go.Proofs.Ytfmoomkfefpcgad
open Go.Abs
set_option linter.unusedVariables false
set_option maxRecDepth 100000
namespace hierFormsCl
noncomputable section
theorem e2 : (evOY X1 INL Try.prog 100000 60).1 15 ys2 [] = some rs2 := by kernel_rfl
theorem e5 : (evOY X4 INL Try.prog 100000 60).1 48 ys5 [] = some rs5 := by kernel_rfl
theorem e8 : (evOY X7 INL Try.prog 100000 60).1 49 ys8 [] = some rs8 := by kernel_rfl
theorem e11 : (evOY X10 INL Try.prog 100000 60).1 30 ys11 [] = some rs11 := by kernel_rfl
theorem e14 : (evOY X13 INL Try.prog 100000 60).1 48 ys14 [] = some rs14 := by kernel_rfl
theorem e17 : (evOY X16 INL Try.prog 100000 60).1 49 ys17 [] = some rs17 := by kernel_rfl
theorem e20 : (evOY X19 INL Try.prog 100000 60).1 30 ys20 [] = some rs20 := by kernel_rfl
theorem e23 : (evOY X22 INL Try.prog 100000 60).1 48 ys23 [] = some rs23 := by kernel_rfl
theorem e26 : (evOY X25 INL Try.prog 100000 60).1 43 ys26 [] = some rs26 := by kernel_rfl
theorem e29 : (evOY X28 INL Try.prog 100000 60).1 47 ys29 [] = some rs29 := by kernel_rfl
theorem e32 : (evOY X31 INL Try.prog 100000 60).1 19 ys32 [] = some rs32 := by kernel_rfl
theorem e35 : (evOY X34 INL Try.prog 100000 60).1 77 ys35 [] = some rs35 := by kernel_rfl
theorem e38 : (evOY X37 INL Try.prog 100000 60).1 47 ys38 [] = some rs38 := by kernel_rfl
theorem e41 : (evOY X40 INL Try.prog 100000 60).1 43 ys41 [] = some rs41 := by kernel_rfl
theorem e44 : (evOY X43 INL Try.prog 100000 60).1 47 ys44 [] = some rs44 := by kernel_rfl
theorem e47 : (evOY X46 INL Try.prog 100000 60).1 47 ys47 [] = some rs47 := by kernel_rfl
theorem e50 : (evOY X49 INL Try.prog 100000 60).1 43 ys50 [] = some rs50 := by kernel_rfl
theorem e53 : (evOY X52 INL Try.prog 100000 60).1 47 ys53 [] = some rs53 := by kernel_rfl
theorem e56 : (evOY X55 INL Try.prog 100000 60).1 47 ys56 [] = some rs56 := by kernel_rfl
theorem e59 : (evOY X58 INL Try.prog 100000 60).1 10 ys59 [] = some rs59 := by kernel_rfl
theorem e62 : (evOY X61 INL Try.prog 100000 60).1 30 ys62 [] = some rs62 := by kernel_rfl
theorem e65 : (evOY X64 INL Try.prog 100000 60).1 11 ys65 [] = some rs65 := by kernel_rfl
theorem e68 : (evOY X67 INL Try.prog 100000 60).1 48 ys68 [] = some rs68 := by kernel_rfl
theorem e71 : (evOY X70 INL Try.prog 100000 60).1 49 ys71 [] = some rs71 := by kernel_rfl
theorem e74 : (evOY X73 INL Try.prog 100000 60).1 30 ys74 [] = some rs74 := by kernel_rfl
theorem e77 : (evOY X76 INL Try.prog 100000 60).1 48 ys77 [] = some rs77 := by kernel_rfl
theorem e80 : (evOY X79 INL Try.prog 100000 60).1 49 ys80 [] = some rs80 := by kernel_rfl
theorem e83 : (evOY X82 INL Try.prog 100000 60).1 31 ys83 [] = some rs83 := by kernel_rfl
theorem e86 : (evOY X85 INL Try.prog 100000 60).1 11 ys86 [] = some rs86 := by kernel_rfl
theorem e89 : (evOY X88 INL Try.prog 100000 60).1 31 ys89 [] = some rs89 := by kernel_rfl
theorem e92 : (evOY X91 INL Try.prog 100000 60).1 16 ys92 [] = some rs92 := by kernel_rfl
theorem e95 : (evOY X94 INL Try.prog 100000 60).1 17 ys95 [] = some rs95 := by kernel_rfl
theorem e98 : (evOY X97 INL Try.prog 100000 60).1 31 ys98 [] = some rs98 := by kernel_rfl
theorem e101 : (evOY X100 INL Try.prog 100000 60).1 16 ys101 [] = some rs101 := by kernel_rfl
theorem e104 : (evOY X103 INL Try.prog 100000 60).1 17 ys104 [] = some rs104 := by kernel_rfl
theorem e107 : (evOY X106 INL Try.prog 100000 60).1 43 ys107 [] = some rs107 := by kernel_rfl
theorem e110 : (evOY X109 INL Try.prog 100000 60).1 10 ys110 [] = some rs110 := by kernel_rfl
theorem e113 : (evOY X112 INL Try.prog 100000 60).1 11 ys113 [] = some rs113 := by kernel_rfl
theorem e116 : (evOY X115 INL Try.prog 100000 60).1 16 ys116 [] = some rs116 := by kernel_rfl
theorem e119 : (evOY X118 INL Try.prog 100000 60).1 17 ys119 [] = some rs119 := by kernel_rfl
theorem e122 : (evOY X121 INL Try.prog 100000 60).1 31 ys122 [] = some rs122 := by kernel_rfl
theorem e125 : (evOY X124 INL Try.prog 100000 60).1 16 ys125 [] = some rs125 := by kernel_rfl
theorem e128 : (evOY X127 INL Try.prog 100000 60).1 17 ys128 [] = some rs128 := by kernel_rfl
theorem e131 : (evOY X130 INL Try.prog 100000 60).1 12 ys131 [] = some rs131 := by kernel_rfl
theorem e134 : (evOY X133 INL Try.prog 100000 60).1 31 ys134 [] = some rs134 := by kernel_rfl
theorem e137 : (evOY X136 INL Try.prog 100000 60).1 43 ys137 [] = some rs137 := by kernel_rfl
theorem e140 : (evOY X139 INL Try.prog 100000 60).1 47 ys140 [] = some rs140 := by kernel_rfl
theorem e143 : (evOY X142 INL Try.prog 100000 60).1 30 ys143 [] = some rs143 := by kernel_rfl
theorem e146 : (evOY X145 INL Try.prog 100000 60).1 18 ys146 [] = some rs146 := by kernel_rfl
theorem e149 : (evOY X148 INL Try.prog 100000 60).1 48 ys149 [] = some rs149 := by kernel_rfl
theorem e152 : (evOY X151 INL Try.prog 100000 60).1 20 ys152 [] = some rs152 := by kernel_rfl
end
end hierFormsCl
end Go.Proofs.Ytfmoomkfefpcgad
