/- QuietForms: what some calls come to, each run to its end by the machine; no condition. -/
import Derived.Test.YtiaoojocpcldmaaGreatMmQuietFormsD3
namespace Go.Proofs.YtiaoojocpcldmaaGreat
open Go.Abs
set_option linter.unusedVariables false
set_option maxRecDepth 100000
namespace quietFormsCl
noncomputable section
def ys28 : List V := [(.sl 8 [(.sl 8 [(.int .i64 0), (.int .i64 1), (.int .i64 1), (.int .i64 1), (.int .i64 1), (.int .i64 1), (.int .i64 1), (.int .i64 1)]), (.sl 8 [(.int .i64 1), (.int .i64 0), (.int .i64 1), (.int .i64 1), (.int .i64 1), (.int .i64 1), (.int .i64 1), (.int .i64 1)]), (.sl 8 [(.int .i64 1), (.int .i64 1), (.int .i64 0), (.int .i64 1), (.int .i64 1), (.int .i64 1), (.int .i64 1), (.int .i64 1)]), (.sl 8 [(.int .i64 1), (.int .i64 1), (.int .i64 1), (.int .i64 0), (.int .i64 1), (.int .i64 1), (.int .i64 1), (.int .i64 1)]), (.sl 8 [(.int .i64 1), (.int .i64 1), (.int .i64 1), (.int .i64 1), (.int .i64 0), (.int .i64 1), (.int .i64 1), (.int .i64 1)]), (.sl 8 [(.int .i64 1), (.int .i64 1), (.int .i64 1), (.int .i64 1), (.int .i64 1), (.int .i64 0), (.int .i64 1), (.int .i64 1)]), (.sl 8 [(.int .i64 1), (.int .i64 1), (.int .i64 1), (.int .i64 1), (.int .i64 1), (.int .i64 1), (.int .i64 0), (.int .i64 1)]), (.sl 8 [(.int .i64 1), (.int .i64 1), (.int .i64 1), (.int .i64 1), (.int .i64 1), (.int .i64 1), (.int .i64 1), (.int .i64 0)])]), (.sl 6 [(.sl 2 [(.int .i64 1), (.int .i64 7)]), (.int .i64 1), (.sl 1 [(.int .i64 6)]), (.int .i64 6), (.sl 1 [(.int .i64 5)]), (.int .i64 5), (.sl 1 [(.int .i64 4)]), (.int .i64 4), (.sl 1 [(.int .i64 3)]), (.int .i64 3), (.sl 1 [(.int .i64 2)]), (.int .i64 2)]), (.int .i64 0), (.int .i64 8), (.int .i64 1)]
def rs28 : V × List OK × List OK := ((.own 2000000 0 0 7), ([], [(.row 137 2 false [(.sl 2 [(.int .i64 1), (.int .i64 8)]), (.int .i64 1), (.sl 1 [(.int .i64 7)]), (.int .i64 7), (.sl 1 [(.int .i64 6)]), (.int .i64 6), (.sl 1 [(.int .i64 5)]), (.int .i64 5), (.sl 1 [(.int .i64 4)]), (.int .i64 4), (.sl 1 [(.int .i64 3)]), (.int .i64 3), (.sl 1 [(.int .i64 2)]), (.int .i64 2)])]))
def X28 : Orc := addM 90 ys28 rs28 X27
end
end quietFormsCl
end Go.Proofs.YtiaoojocpcldmaaGreat
