/- TruthForms: what some calls come to, each run to its end by the machine; no condition. -/
import Derived.Test.YtiaoojocpcldmaaGreatBaseY
import Derived.Test.YtiaoojocpcldmaaGreatExtYM
namespace Go.Proofs.YtiaoojocpcldmaaGreat
open Go.Abs
set_option linter.unusedVariables false
set_option maxRecDepth 100000
namespace truthFormsCl
noncomputable section
def INL : List Nat := [13]
def X0 : Orc := noneΞ
def ys1 : List V := []
def rs1 : V × List OK × List OK := ((.bool true), ([], []))
def X1 : Orc := addM 24 ys1 rs1 X0
end
end truthFormsCl
end Go.Proofs.YtiaoojocpcldmaaGreat
