/- HierForms: what some calls come to, each run to its end by the machine; no condition. -/
import Derived.Test.YtfmoomkfefpcgadMmHierFormsD0
namespace Go.Proofs.Ytfmoomkfefpcgad
open Go.Abs
set_option linter.unusedVariables false
set_option maxRecDepth 100000
namespace hierFormsCl
noncomputable section
theorem e3 : (evOY X2 INL Try.prog 100000 60).1 77 ys3 [] = some rs3 := by kernel_rfl
theorem e6 : (evOY X5 INL Try.prog 100000 60).1 47 ys6 [] = some rs6 := by kernel_rfl
theorem e9 : (evOY X8 INL Try.prog 100000 60).1 43 ys9 [] = some rs9 := by kernel_rfl
theorem e12 : (evOY X11 INL Try.prog 100000 60).1 47 ys12 [] = some rs12 := by kernel_rfl
theorem e15 : (evOY X14 INL Try.prog 100000 60).1 47 ys15 [] = some rs15 := by kernel_rfl
theorem e18 : (evOY X17 INL Try.prog 100000 60).1 43 ys18 [] = some rs18 := by kernel_rfl
theorem e21 : (evOY X20 INL Try.prog 100000 60).1 47 ys21 [] = some rs21 := by kernel_rfl
theorem e24 : (evOY X23 INL Try.prog 100000 60).1 47 ys24 [] = some rs24 := by kernel_rfl
theorem e27 : (evOY X26 INL Try.prog 100000 60).1 31 ys27 [] = some rs27 := by kernel_rfl
theorem e30 : (evOY X29 INL Try.prog 100000 60).1 18 ys30 [] = some rs30 := by kernel_rfl
theorem e33 : (evOY X32 INL Try.prog 100000 60).1 19 ys33 [] = some rs33 := by kernel_rfl
theorem e36 : (evOY X35 INL Try.prog 100000 60).1 15 ys36 [] = some rs36 := by kernel_rfl
theorem e39 : (evOY X38 INL Try.prog 100000 60).1 17 ys39 [] = some rs39 := by kernel_rfl
theorem e42 : (evOY X41 INL Try.prog 100000 60).1 31 ys42 [] = some rs42 := by kernel_rfl
theorem e45 : (evOY X44 INL Try.prog 100000 60).1 16 ys45 [] = some rs45 := by kernel_rfl
theorem e48 : (evOY X47 INL Try.prog 100000 60).1 17 ys48 [] = some rs48 := by kernel_rfl
theorem e51 : (evOY X50 INL Try.prog 100000 60).1 31 ys51 [] = some rs51 := by kernel_rfl
theorem e54 : (evOY X53 INL Try.prog 100000 60).1 16 ys54 [] = some rs54 := by kernel_rfl
theorem e57 : (evOY X56 INL Try.prog 100000 60).1 17 ys57 [] = some rs57 := by kernel_rfl
theorem e60 : (evOY X59 INL Try.prog 100000 60).1 43 ys60 [] = some rs60 := by kernel_rfl
theorem e63 : (evOY X62 INL Try.prog 100000 60).1 43 ys63 [] = some rs63 := by kernel_rfl
theorem e66 : (evOY X65 INL Try.prog 100000 60).1 47 ys66 [] = some rs66 := by kernel_rfl
theorem e69 : (evOY X68 INL Try.prog 100000 60).1 47 ys69 [] = some rs69 := by kernel_rfl
theorem e72 : (evOY X71 INL Try.prog 100000 60).1 43 ys72 [] = some rs72 := by kernel_rfl
theorem e75 : (evOY X74 INL Try.prog 100000 60).1 47 ys75 [] = some rs75 := by kernel_rfl
theorem e78 : (evOY X77 INL Try.prog 100000 60).1 47 ys78 [] = some rs78 := by kernel_rfl
theorem e81 : (evOY X80 INL Try.prog 100000 60).1 10 ys81 [] = some rs81 := by kernel_rfl
theorem e84 : (evOY X83 INL Try.prog 100000 60).1 30 ys84 [] = some rs84 := by kernel_rfl
theorem e87 : (evOY X86 INL Try.prog 100000 60).1 11 ys87 [] = some rs87 := by kernel_rfl
theorem e90 : (evOY X89 INL Try.prog 100000 60).1 11 ys90 [] = some rs90 := by kernel_rfl
theorem e93 : (evOY X92 INL Try.prog 100000 60).1 48 ys93 [] = some rs93 := by kernel_rfl
theorem e96 : (evOY X95 INL Try.prog 100000 60).1 49 ys96 [] = some rs96 := by kernel_rfl
theorem e99 : (evOY X98 INL Try.prog 100000 60).1 30 ys99 [] = some rs99 := by kernel_rfl
theorem e102 : (evOY X101 INL Try.prog 100000 60).1 48 ys102 [] = some rs102 := by kernel_rfl
theorem e105 : (evOY X104 INL Try.prog 100000 60).1 49 ys105 [] = some rs105 := by kernel_rfl
theorem e108 : (evOY X107 INL Try.prog 100000 60).1 31 ys108 [] = some rs108 := by kernel_rfl
theorem e111 : (evOY X110 INL Try.prog 100000 60).1 43 ys111 [] = some rs111 := by kernel_rfl
theorem e114 : (evOY X113 INL Try.prog 100000 60).1 11 ys114 [] = some rs114 := by kernel_rfl
theorem e117 : (evOY X116 INL Try.prog 100000 60).1 48 ys117 [] = some rs117 := by kernel_rfl
theorem e120 : (evOY X119 INL Try.prog 100000 60).1 49 ys120 [] = some rs120 := by kernel_rfl
theorem e123 : (evOY X122 INL Try.prog 100000 60).1 30 ys123 [] = some rs123 := by kernel_rfl
theorem e126 : (evOY X125 INL Try.prog 100000 60).1 48 ys126 [] = some rs126 := by kernel_rfl
theorem e129 : (evOY X128 INL Try.prog 100000 60).1 43 ys129 [] = some rs129 := by kernel_rfl
theorem e132 : (evOY X131 INL Try.prog 100000 60).1 10 ys132 [] = some rs132 := by kernel_rfl
theorem e135 : (evOY X134 INL Try.prog 100000 60).1 11 ys135 [] = some rs135 := by kernel_rfl
theorem e138 : (evOY X137 INL Try.prog 100000 60).1 31 ys138 [] = some rs138 := by kernel_rfl
theorem e141 : (evOY X140 INL Try.prog 100000 60).1 18 ys141 [] = some rs141 := by kernel_rfl
theorem e144 : (evOY X143 INL Try.prog 100000 60).1 16 ys144 [] = some rs144 := by kernel_rfl
theorem e147 : (evOY X146 INL Try.prog 100000 60).1 19 ys147 [] = some rs147 := by kernel_rfl
theorem e150 : (evOY X149 INL Try.prog 100000 60).1 47 ys150 [] = some rs150 := by kernel_rfl
theorem e153 : (evOY X152 INL Try.prog 100000 60).1 19 ys153 [] = some rs153 := by kernel_rfl
end
end hierFormsCl
end Go.Proofs.Ytfmoomkfefpcgad
