/- MsgForms: what some calls come to, each run to its end by the machine; no condition. -/
import Derived.Test.YtfmoomkfefpcgadBaseY
import Derived.Test.YtfmoomkfefpcgadExtYM
namespace Go.Proofs.Ytfmoomkfefpcgad
open Go.Abs
set_option linter.unusedVariables false
set_option maxRecDepth 100000
namespace msgFormsCl
noncomputable section
def INL : List Nat := []
def X0 : Orc := noneΞ
theorem ok0 : GammaOk2 Try.prog X0 := noneΞ_ok2 _
def ys1 : List V := [(.agg [(.int .i64 7), (.int .i64 1), (.int .i64 2), (.int .i64 3), (.int .i64 0), (.int .i64 0), .snil, (.int .i64 4), (.int .i64 0), (.str [120])]), (.agg [(.int .i64 7), (.int .i64 1), (.int .i64 2), (.int .i64 3), (.int .i64 0), (.int .i64 0), .snil, (.int .i64 4), (.int .i64 0), (.str [120])])]
def rs1 : V × List OK × List OK := ((.bool true), ([], []))
def X1 : Orc := addM 58 ys1 rs1 X0
theorem ok1 : GammaOk2 Try.prog X1 := addM_ok ok0 mixed progOk_ (inl := INL) (breath := 100000) (n := 60) (by kernel_rfl)
def ys2 : List V := [(.sl 11 [(.int .u8 7), (.int .u8 1), (.int .u8 2), (.int .u8 3), (.int .u8 0), (.int .u8 0), (.int .u8 0), (.int .u8 4), (.int .u8 0), (.int .u8 1), (.int .u8 120)])]
def rs2 : V × List OK × List OK := ((.int .u32 3315646252), ([], []))
def X2 : Orc := addM 91 ys2 rs2 X1
theorem ok2 : GammaOk2 Try.prog X2 := addM_ok ok1 mixed progOk_ (inl := INL) (breath := 100000) (n := 60) (by kernel_rfl)
def ys3 : List V := [(.sl 11 [(.int .u8 7), (.int .u8 1), (.int .u8 2), (.int .u8 3), (.int .u8 0), (.int .u8 0), (.int .u8 0), (.int .u8 4), (.int .u8 0), (.int .u8 1), (.int .u8 120)])]
def rs3 : V × List OK × List OK := ((.own 2000000 0 0 4), ([], [(.row 5 1 false [(.int .u8 197), (.int .u8 160), (.int .u8 191), (.int .u8 44)])]))
def X3 : Orc := addM 63 ys3 rs3 X2
theorem ok3 : GammaOk2 Try.prog X3 := addM_ok ok2 mixed progOk_ (inl := INL) (breath := 100000) (n := 60) (by kernel_rfl)
def ys4 : List V := [(.agg [(.int .i64 7), (.int .i64 1), (.int .i64 2), (.int .i64 3), (.int .i64 0), (.int .i64 0), .snil, (.int .i64 4), (.int .i64 0), (.str [120])])]
def rs4 : V × List OK × List OK := ((.own 2000000 0 0 15), ([], [(.row 5 1 false [(.int .u8 7), (.int .u8 1), (.int .u8 2), (.int .u8 3), (.int .u8 0), (.int .u8 0), (.int .u8 0), (.int .u8 4), (.int .u8 0), (.int .u8 1), (.int .u8 120), (.int .u8 197), (.int .u8 160), (.int .u8 191), (.int .u8 44)])]))
def X4 : Orc := addM 27 ys4 rs4 X3
theorem ok4 : GammaOk2 Try.prog X4 := addM_ok ok3 mixed progOk_ (inl := INL) (breath := 100000) (n := 60) (by kernel_rfl)
def ys5 : List V := [(.sl 15 [(.int .u8 7), (.int .u8 1), (.int .u8 2), (.int .u8 3), (.int .u8 0), (.int .u8 0), (.int .u8 0), (.int .u8 4), (.int .u8 0), (.int .u8 1), (.int .u8 120), (.int .u8 197), (.int .u8 160), (.int .u8 191), (.int .u8 44)])]
def rs5 : V × List OK × List OK := ((.tup [(.agg [(.int .i64 7), (.int .i64 1), (.int .i64 2), (.int .i64 3), (.int .i64 0), (.int .i64 0), .snil, (.int .i64 4), (.int .i64 0), (.str [120])]), (.bool true)]), ([], []))
def X5 : Orc := addM 26 ys5 rs5 X4
theorem ok5 : GammaOk2 Try.prog X5 := addM_ok ok4 mixed progOk_ (inl := INL) (breath := 100000) (n := 60) (by kernel_rfl)
def ys6 : List V := [.snil]
def rs6 : V × List OK × List OK := ((.tup [(.agg [(.int .i64 0), (.int .i64 0), (.int .i64 0), (.int .i64 0), (.int .i64 0), (.int .i64 0), .snil, (.int .i64 0), (.int .i64 0), (.str [])]), (.bool false)]), ([], []))
def X6 : Orc := addM 26 ys6 rs6 X5
theorem ok6 : GammaOk2 Try.prog X6 := addM_ok ok5 mixed progOk_ (inl := INL) (breath := 100000) (n := 60) (by kernel_rfl)
def ys7 : List V := [(.agg [(.int .i64 1), (.int .i64 3), (.int .i64 1), (.int .i64 1), (.int .i64 0), (.int .i64 0), .snil, (.int .i64 0), (.int .i64 0), (.str [])]), (.agg [(.int .i64 1), (.int .i64 3), (.int .i64 1), (.int .i64 1), (.int .i64 0), (.int .i64 0), .snil, (.int .i64 0), (.int .i64 0), (.str [])])]
def rs7 : V × List OK × List OK := ((.bool true), ([], []))
def X7 : Orc := addM 58 ys7 rs7 X6
theorem ok7 : GammaOk2 Try.prog X7 := addM_ok ok6 mixed progOk_ (inl := INL) (breath := 100000) (n := 60) (by kernel_rfl)
def ys8 : List V := [(.sl 10 [(.int .u8 1), (.int .u8 3), (.int .u8 1), (.int .u8 1), (.int .u8 0), (.int .u8 0), (.int .u8 0), (.int .u8 0), (.int .u8 0), (.int .u8 0)])]
def rs8 : V × List OK × List OK := ((.int .u32 1595421863), ([], []))
def X8 : Orc := addM 91 ys8 rs8 X7
theorem ok8 : GammaOk2 Try.prog X8 := addM_ok ok7 mixed progOk_ (inl := INL) (breath := 100000) (n := 60) (by kernel_rfl)
def ys9 : List V := [(.sl 10 [(.int .u8 1), (.int .u8 3), (.int .u8 1), (.int .u8 1), (.int .u8 0), (.int .u8 0), (.int .u8 0), (.int .u8 0), (.int .u8 0), (.int .u8 0)])]
def rs9 : V × List OK × List OK := ((.own 2000000 0 0 4), ([], [(.row 5 1 false [(.int .u8 95), (.int .u8 24), (.int .u8 52), (.int .u8 167)])]))
def X9 : Orc := addM 63 ys9 rs9 X8
theorem ok9 : GammaOk2 Try.prog X9 := addM_ok ok8 mixed progOk_ (inl := INL) (breath := 100000) (n := 60) (by kernel_rfl)
def ys10 : List V := [(.agg [(.int .i64 1), (.int .i64 3), (.int .i64 1), (.int .i64 1), (.int .i64 0), (.int .i64 0), .snil, (.int .i64 0), (.int .i64 0), (.str [])])]
def rs10 : V × List OK × List OK := ((.own 2000000 0 0 14), ([], [(.row 5 1 false [(.int .u8 1), (.int .u8 3), (.int .u8 1), (.int .u8 1), (.int .u8 0), (.int .u8 0), (.int .u8 0), (.int .u8 0), (.int .u8 0), (.int .u8 0), (.int .u8 95), (.int .u8 24), (.int .u8 52), (.int .u8 167)])]))
def X10 : Orc := addM 27 ys10 rs10 X9
theorem ok10 : GammaOk2 Try.prog X10 := addM_ok ok9 mixed progOk_ (inl := INL) (breath := 100000) (n := 60) (by kernel_rfl)
def ys11 : List V := [(.sl 14 [(.int .u8 1), (.int .u8 3), (.int .u8 1), (.int .u8 1), (.int .u8 0), (.int .u8 0), (.int .u8 0), (.int .u8 0), (.int .u8 0), (.int .u8 0), (.int .u8 95), (.int .u8 24), (.int .u8 52), (.int .u8 167)])]
def rs11 : V × List OK × List OK := ((.tup [(.agg [(.int .i64 1), (.int .i64 3), (.int .i64 1), (.int .i64 1), (.int .i64 0), (.int .i64 0), .snil, (.int .i64 0), (.int .i64 0), (.str [])]), (.bool true)]), ([], []))
def X11 : Orc := addM 26 ys11 rs11 X10
theorem ok11 : GammaOk2 Try.prog X11 := addM_ok ok10 mixed progOk_ (inl := INL) (breath := 100000) (n := 60) (by kernel_rfl)
def ys12 : List V := [(.agg [(.int .i64 1), (.int .i64 3), (.int .i64 1), (.int .i64 1), (.int .i64 0), (.int .i64 0), .snil, (.int .i64 0), (.int .i64 0), (.str [])]), (.agg [(.int .i64 1), (.int .i64 3), (.int .i64 1), (.int .i64 1), (.int .i64 0), (.int .i64 0), .snil, (.int .i64 0), (.int .i64 0), (.str [])])]
def rs12 : V × List OK × List OK := ((.bool true), ([], []))
def X12 : Orc := addM 29 ys12 rs12 X11
theorem ok12 : GammaOk2 Try.prog X12 := addM_ok ok11 mixed progOk_ (inl := INL) (breath := 100000) (n := 60) (by kernel_rfl)
def ys13 : List V := [(.agg [(.int .i64 2), (.int .i64 2), (.int .i64 3), (.int .i64 1), (.int .i64 5), (.int .i64 2), (.sl 2 [(.int .i64 1), (.int .i64 2)]), (.int .i64 1000000), (.int .i64 0), (.str [])]), (.agg [(.int .i64 2), (.int .i64 2), (.int .i64 3), (.int .i64 1), (.int .i64 5), (.int .i64 2), (.sl 2 [(.int .i64 1), (.int .i64 2)]), (.int .i64 1000000), (.int .i64 0), (.str [])])]
def rs13 : V × List OK × List OK := ((.bool true), ([], []))
def X13 : Orc := addM 58 ys13 rs13 X12
theorem ok13 : GammaOk2 Try.prog X13 := addM_ok ok12 mixed progOk_ (inl := INL) (breath := 100000) (n := 60) (by kernel_rfl)
def ys14 : List V := [(.sl 14 [(.int .u8 2), (.int .u8 2), (.int .u8 3), (.int .u8 1), (.int .u8 5), (.int .u8 2), (.int .u8 2), (.int .u8 1), (.int .u8 2), (.int .u8 192), (.int .u8 132), (.int .u8 61), (.int .u8 0), (.int .u8 0)])]
def rs14 : V × List OK × List OK := ((.int .u32 541193317), ([], []))
def X14 : Orc := addM 91 ys14 rs14 X13
theorem ok14 : GammaOk2 Try.prog X14 := addM_ok ok13 mixed progOk_ (inl := INL) (breath := 100000) (n := 60) (by kernel_rfl)
def ys15 : List V := [(.sl 14 [(.int .u8 2), (.int .u8 2), (.int .u8 3), (.int .u8 1), (.int .u8 5), (.int .u8 2), (.int .u8 2), (.int .u8 1), (.int .u8 2), (.int .u8 192), (.int .u8 132), (.int .u8 61), (.int .u8 0), (.int .u8 0)])]
def rs15 : V × List OK × List OK := ((.own 2000000 0 0 4), ([], [(.row 5 1 false [(.int .u8 32), (.int .u8 65), (.int .u8 244), (.int .u8 101)])]))
def X15 : Orc := addM 63 ys15 rs15 X14
theorem ok15 : GammaOk2 Try.prog X15 := addM_ok ok14 mixed progOk_ (inl := INL) (breath := 100000) (n := 60) (by kernel_rfl)
def ys16 : List V := [(.agg [(.int .i64 2), (.int .i64 2), (.int .i64 3), (.int .i64 1), (.int .i64 5), (.int .i64 2), (.sl 2 [(.int .i64 1), (.int .i64 2)]), (.int .i64 1000000), (.int .i64 0), (.str [])])]
def rs16 : V × List OK × List OK := ((.own 2000000 0 0 18), ([], [(.row 5 1 false [(.int .u8 2), (.int .u8 2), (.int .u8 3), (.int .u8 1), (.int .u8 5), (.int .u8 2), (.int .u8 2), (.int .u8 1), (.int .u8 2), (.int .u8 192), (.int .u8 132), (.int .u8 61), (.int .u8 0), (.int .u8 0), (.int .u8 32), (.int .u8 65), (.int .u8 244), (.int .u8 101)])]))
def X16 : Orc := addM 27 ys16 rs16 X15
theorem ok16 : GammaOk2 Try.prog X16 := addM_ok ok15 mixed progOk_ (inl := INL) (breath := 100000) (n := 60) (by kernel_rfl)
def ys17 : List V := [(.sl 18 [(.int .u8 2), (.int .u8 2), (.int .u8 3), (.int .u8 1), (.int .u8 5), (.int .u8 2), (.int .u8 2), (.int .u8 1), (.int .u8 2), (.int .u8 192), (.int .u8 132), (.int .u8 61), (.int .u8 0), (.int .u8 0), (.int .u8 32), (.int .u8 65), (.int .u8 244), (.int .u8 101)])]
def rs17 : V × List OK × List OK := ((.tup [(.agg [(.int .i64 2), (.int .i64 2), (.int .i64 3), (.int .i64 1), (.int .i64 5), (.int .i64 2), (.sl 2 [(.int .i64 1), (.int .i64 2)]), (.int .i64 1000000), (.int .i64 0), (.str [])]), (.bool true)]), ([], []))
def X17 : Orc := addM 26 ys17 rs17 X16
theorem ok17 : GammaOk2 Try.prog X17 := addM_ok ok16 mixed progOk_ (inl := INL) (breath := 100000) (n := 60) (by kernel_rfl)
def ys18 : List V := [(.agg [(.int .i64 2), (.int .i64 2), (.int .i64 3), (.int .i64 1), (.int .i64 5), (.int .i64 2), (.sl 2 [(.int .i64 1), (.int .i64 2)]), (.int .i64 1000000), (.int .i64 0), (.str [])]), (.agg [(.int .i64 2), (.int .i64 2), (.int .i64 3), (.int .i64 1), (.int .i64 5), (.int .i64 2), (.sl 2 [(.int .i64 1), (.int .i64 2)]), (.int .i64 1000000), (.int .i64 0), (.str [])])]
def rs18 : V × List OK × List OK := ((.bool true), ([], []))
def X18 : Orc := addM 29 ys18 rs18 X17
theorem ok18 : GammaOk2 Try.prog X18 := addM_ok ok17 mixed progOk_ (inl := INL) (breath := 100000) (n := 60) (by kernel_rfl)
def ys19 : List V := [(.agg [(.int .i64 3), (.int .i64 2), (.int .i64 3), (.int .i64 1073741824), (.int .i64 0), (.int .i64 0), .snil, (.int .i64 0), (.int .i64 0), (.str [])]), (.agg [(.int .i64 3), (.int .i64 2), (.int .i64 3), (.int .i64 1073741824), (.int .i64 0), (.int .i64 0), .snil, (.int .i64 0), (.int .i64 0), (.str [])])]
def rs19 : V × List OK × List OK := ((.bool true), ([], []))
def X19 : Orc := addM 58 ys19 rs19 X18
theorem ok19 : GammaOk2 Try.prog X19 := addM_ok ok18 mixed progOk_ (inl := INL) (breath := 100000) (n := 60) (by kernel_rfl)
def ys20 : List V := [(.sl 14 [(.int .u8 3), (.int .u8 2), (.int .u8 3), (.int .u8 128), (.int .u8 128), (.int .u8 128), (.int .u8 128), (.int .u8 4), (.int .u8 0), (.int .u8 0), (.int .u8 0), (.int .u8 0), (.int .u8 0), (.int .u8 0)])]
def rs20 : V × List OK × List OK := ((.int .u32 3940394687), ([], []))
def X20 : Orc := addM 91 ys20 rs20 X19
theorem ok20 : GammaOk2 Try.prog X20 := addM_ok ok19 mixed progOk_ (inl := INL) (breath := 100000) (n := 60) (by kernel_rfl)
def ys21 : List V := [(.sl 14 [(.int .u8 3), (.int .u8 2), (.int .u8 3), (.int .u8 128), (.int .u8 128), (.int .u8 128), (.int .u8 128), (.int .u8 4), (.int .u8 0), (.int .u8 0), (.int .u8 0), (.int .u8 0), (.int .u8 0), (.int .u8 0)])]
def rs21 : V × List OK × List OK := ((.own 2000000 0 0 4), ([], [(.row 5 1 false [(.int .u8 234), (.int .u8 221), (.int .u8 166), (.int .u8 191)])]))
def X21 : Orc := addM 63 ys21 rs21 X20
theorem ok21 : GammaOk2 Try.prog X21 := addM_ok ok20 mixed progOk_ (inl := INL) (breath := 100000) (n := 60) (by kernel_rfl)
def ys22 : List V := [(.agg [(.int .i64 3), (.int .i64 2), (.int .i64 3), (.int .i64 1073741824), (.int .i64 0), (.int .i64 0), .snil, (.int .i64 0), (.int .i64 0), (.str [])])]
def rs22 : V × List OK × List OK := ((.own 2000000 0 0 18), ([], [(.row 5 1 false [(.int .u8 3), (.int .u8 2), (.int .u8 3), (.int .u8 128), (.int .u8 128), (.int .u8 128), (.int .u8 128), (.int .u8 4), (.int .u8 0), (.int .u8 0), (.int .u8 0), (.int .u8 0), (.int .u8 0), (.int .u8 0), (.int .u8 234), (.int .u8 221), (.int .u8 166), (.int .u8 191)])]))
def X22 : Orc := addM 27 ys22 rs22 X21
theorem ok22 : GammaOk2 Try.prog X22 := addM_ok ok21 mixed progOk_ (inl := INL) (breath := 100000) (n := 60) (by kernel_rfl)
def ys23 : List V := [(.sl 18 [(.int .u8 3), (.int .u8 2), (.int .u8 3), (.int .u8 128), (.int .u8 128), (.int .u8 128), (.int .u8 128), (.int .u8 4), (.int .u8 0), (.int .u8 0), (.int .u8 0), (.int .u8 0), (.int .u8 0), (.int .u8 0), (.int .u8 234), (.int .u8 221), (.int .u8 166), (.int .u8 191)])]
def rs23 : V × List OK × List OK := ((.tup [(.agg [(.int .i64 3), (.int .i64 2), (.int .i64 3), (.int .i64 1073741824), (.int .i64 0), (.int .i64 0), .snil, (.int .i64 0), (.int .i64 0), (.str [])]), (.bool true)]), ([], []))
def X23 : Orc := addM 26 ys23 rs23 X22
theorem ok23 : GammaOk2 Try.prog X23 := addM_ok ok22 mixed progOk_ (inl := INL) (breath := 100000) (n := 60) (by kernel_rfl)
def ys24 : List V := [(.agg [(.int .i64 3), (.int .i64 2), (.int .i64 3), (.int .i64 1073741824), (.int .i64 0), (.int .i64 0), .snil, (.int .i64 0), (.int .i64 0), (.str [])]), (.agg [(.int .i64 3), (.int .i64 2), (.int .i64 3), (.int .i64 1073741824), (.int .i64 0), (.int .i64 0), .snil, (.int .i64 0), (.int .i64 0), (.str [])])]
def rs24 : V × List OK × List OK := ((.bool true), ([], []))
def X24 : Orc := addM 29 ys24 rs24 X23
theorem ok24 : GammaOk2 Try.prog X24 := addM_ok ok23 mixed progOk_ (inl := INL) (breath := 100000) (n := 60) (by kernel_rfl)
def ys25 : List V := [(.agg [(.int .i64 4), (.int .i64 8), (.int .i64 7), (.int .i64 1), (.int .i64 0), (.int .i64 0), .snil, (.int .i64 0), (.int .i64 0), (.str [])]), (.agg [(.int .i64 4), (.int .i64 8), (.int .i64 7), (.int .i64 1), (.int .i64 0), (.int .i64 0), .snil, (.int .i64 0), (.int .i64 0), (.str [])])]
def rs25 : V × List OK × List OK := ((.bool true), ([], []))
def X25 : Orc := addM 58 ys25 rs25 X24
theorem ok25 : GammaOk2 Try.prog X25 := addM_ok ok24 mixed progOk_ (inl := INL) (breath := 100000) (n := 60) (by kernel_rfl)
def ys26 : List V := [(.sl 10 [(.int .u8 4), (.int .u8 8), (.int .u8 7), (.int .u8 1), (.int .u8 0), (.int .u8 0), (.int .u8 0), (.int .u8 0), (.int .u8 0), (.int .u8 0)])]
def rs26 : V × List OK × List OK := ((.int .u32 4245383353), ([], []))
def X26 : Orc := addM 91 ys26 rs26 X25
theorem ok26 : GammaOk2 Try.prog X26 := addM_ok ok25 mixed progOk_ (inl := INL) (breath := 100000) (n := 60) (by kernel_rfl)
def ys27 : List V := [(.sl 10 [(.int .u8 4), (.int .u8 8), (.int .u8 7), (.int .u8 1), (.int .u8 0), (.int .u8 0), (.int .u8 0), (.int .u8 0), (.int .u8 0), (.int .u8 0)])]
def rs27 : V × List OK × List OK := ((.own 2000000 0 0 4), ([], [(.row 5 1 false [(.int .u8 253), (.int .u8 11), (.int .u8 104), (.int .u8 185)])]))
def X27 : Orc := addM 63 ys27 rs27 X26
theorem ok27 : GammaOk2 Try.prog X27 := addM_ok ok26 mixed progOk_ (inl := INL) (breath := 100000) (n := 60) (by kernel_rfl)
def ys28 : List V := [(.agg [(.int .i64 4), (.int .i64 8), (.int .i64 7), (.int .i64 1), (.int .i64 0), (.int .i64 0), .snil, (.int .i64 0), (.int .i64 0), (.str [])])]
def rs28 : V × List OK × List OK := ((.own 2000000 0 0 14), ([], [(.row 5 1 false [(.int .u8 4), (.int .u8 8), (.int .u8 7), (.int .u8 1), (.int .u8 0), (.int .u8 0), (.int .u8 0), (.int .u8 0), (.int .u8 0), (.int .u8 0), (.int .u8 253), (.int .u8 11), (.int .u8 104), (.int .u8 185)])]))
def X28 : Orc := addM 27 ys28 rs28 X27
theorem ok28 : GammaOk2 Try.prog X28 := addM_ok ok27 mixed progOk_ (inl := INL) (breath := 100000) (n := 60) (by kernel_rfl)
def ys29 : List V := [(.sl 14 [(.int .u8 4), (.int .u8 8), (.int .u8 7), (.int .u8 1), (.int .u8 0), (.int .u8 0), (.int .u8 0), (.int .u8 0), (.int .u8 0), (.int .u8 0), (.int .u8 253), (.int .u8 11), (.int .u8 104), (.int .u8 185)])]
def rs29 : V × List OK × List OK := ((.tup [(.agg [(.int .i64 4), (.int .i64 8), (.int .i64 7), (.int .i64 1), (.int .i64 0), (.int .i64 0), .snil, (.int .i64 0), (.int .i64 0), (.str [])]), (.bool true)]), ([], []))
def X29 : Orc := addM 26 ys29 rs29 X28
theorem ok29 : GammaOk2 Try.prog X29 := addM_ok ok28 mixed progOk_ (inl := INL) (breath := 100000) (n := 60) (by kernel_rfl)
def ys30 : List V := [(.agg [(.int .i64 4), (.int .i64 8), (.int .i64 7), (.int .i64 1), (.int .i64 0), (.int .i64 0), .snil, (.int .i64 0), (.int .i64 0), (.str [])]), (.agg [(.int .i64 4), (.int .i64 8), (.int .i64 7), (.int .i64 1), (.int .i64 0), (.int .i64 0), .snil, (.int .i64 0), (.int .i64 0), (.str [])])]
def rs30 : V × List OK × List OK := ((.bool true), ([], []))
def X30 : Orc := addM 29 ys30 rs30 X29
theorem ok30 : GammaOk2 Try.prog X30 := addM_ok ok29 mixed progOk_ (inl := INL) (breath := 100000) (n := 60) (by kernel_rfl)
def ys31 : List V := [(.agg [(.int .i64 5), (.int .i64 2), (.int .i64 3), (.int .i64 1), (.int .i64 0), (.int .i64 0), (.sl 2 [(.int .i64 1), (.int .i64 2)]), (.int .i64 0), (.int .i64 7), (.str [])]), (.agg [(.int .i64 5), (.int .i64 2), (.int .i64 3), (.int .i64 1), (.int .i64 0), (.int .i64 0), (.sl 2 [(.int .i64 1), (.int .i64 2)]), (.int .i64 0), (.int .i64 7), (.str [])])]
def rs31 : V × List OK × List OK := ((.bool true), ([], []))
def X31 : Orc := addM 58 ys31 rs31 X30
theorem ok31 : GammaOk2 Try.prog X31 := addM_ok ok30 mixed progOk_ (inl := INL) (breath := 100000) (n := 60) (by kernel_rfl)
def ys32 : List V := [(.sl 12 [(.int .u8 5), (.int .u8 2), (.int .u8 3), (.int .u8 1), (.int .u8 0), (.int .u8 0), (.int .u8 2), (.int .u8 1), (.int .u8 2), (.int .u8 0), (.int .u8 7), (.int .u8 0)])]
def rs32 : V × List OK × List OK := ((.int .u32 3535171849), ([], []))
def X32 : Orc := addM 91 ys32 rs32 X31
theorem ok32 : GammaOk2 Try.prog X32 := addM_ok ok31 mixed progOk_ (inl := INL) (breath := 100000) (n := 60) (by kernel_rfl)
def ys33 : List V := [(.sl 12 [(.int .u8 5), (.int .u8 2), (.int .u8 3), (.int .u8 1), (.int .u8 0), (.int .u8 0), (.int .u8 2), (.int .u8 1), (.int .u8 2), (.int .u8 0), (.int .u8 7), (.int .u8 0)])]
def rs33 : V × List OK × List OK := ((.own 2000000 0 0 4), ([], [(.row 5 1 false [(.int .u8 210), (.int .u8 182), (.int .u8 113), (.int .u8 9)])]))
def X33 : Orc := addM 63 ys33 rs33 X32
theorem ok33 : GammaOk2 Try.prog X33 := addM_ok ok32 mixed progOk_ (inl := INL) (breath := 100000) (n := 60) (by kernel_rfl)
def ys34 : List V := [(.agg [(.int .i64 5), (.int .i64 2), (.int .i64 3), (.int .i64 1), (.int .i64 0), (.int .i64 0), (.sl 2 [(.int .i64 1), (.int .i64 2)]), (.int .i64 0), (.int .i64 7), (.str [])])]
def rs34 : V × List OK × List OK := ((.own 2000000 0 0 16), ([], [(.row 5 1 false [(.int .u8 5), (.int .u8 2), (.int .u8 3), (.int .u8 1), (.int .u8 0), (.int .u8 0), (.int .u8 2), (.int .u8 1), (.int .u8 2), (.int .u8 0), (.int .u8 7), (.int .u8 0), (.int .u8 210), (.int .u8 182), (.int .u8 113), (.int .u8 9)])]))
def X34 : Orc := addM 27 ys34 rs34 X33
theorem ok34 : GammaOk2 Try.prog X34 := addM_ok ok33 mixed progOk_ (inl := INL) (breath := 100000) (n := 60) (by kernel_rfl)
def ys35 : List V := [(.sl 16 [(.int .u8 5), (.int .u8 2), (.int .u8 3), (.int .u8 1), (.int .u8 0), (.int .u8 0), (.int .u8 2), (.int .u8 1), (.int .u8 2), (.int .u8 0), (.int .u8 7), (.int .u8 0), (.int .u8 210), (.int .u8 182), (.int .u8 113), (.int .u8 9)])]
def rs35 : V × List OK × List OK := ((.tup [(.agg [(.int .i64 5), (.int .i64 2), (.int .i64 3), (.int .i64 1), (.int .i64 0), (.int .i64 0), (.sl 2 [(.int .i64 1), (.int .i64 2)]), (.int .i64 0), (.int .i64 7), (.str [])]), (.bool true)]), ([], []))
def X35 : Orc := addM 26 ys35 rs35 X34
theorem ok35 : GammaOk2 Try.prog X35 := addM_ok ok34 mixed progOk_ (inl := INL) (breath := 100000) (n := 60) (by kernel_rfl)
def ys36 : List V := [(.agg [(.int .i64 5), (.int .i64 2), (.int .i64 3), (.int .i64 1), (.int .i64 0), (.int .i64 0), (.sl 2 [(.int .i64 1), (.int .i64 2)]), (.int .i64 0), (.int .i64 7), (.str [])]), (.agg [(.int .i64 5), (.int .i64 2), (.int .i64 3), (.int .i64 1), (.int .i64 0), (.int .i64 0), (.sl 2 [(.int .i64 1), (.int .i64 2)]), (.int .i64 0), (.int .i64 7), (.str [])])]
def rs36 : V × List OK × List OK := ((.bool true), ([], []))
def X36 : Orc := addM 29 ys36 rs36 X35
theorem ok36 : GammaOk2 Try.prog X36 := addM_ok ok35 mixed progOk_ (inl := INL) (breath := 100000) (n := 60) (by kernel_rfl)
def ys37 : List V := [(.agg [(.int .i64 6), (.int .i64 2), (.int .i64 3), (.int .i64 1), (.int .i64 0), (.int .i64 0), .snil, (.int .i64 0), (.int .i64 0), (.str [])]), (.agg [(.int .i64 6), (.int .i64 2), (.int .i64 3), (.int .i64 1), (.int .i64 0), (.int .i64 0), .snil, (.int .i64 0), (.int .i64 0), (.str [])])]
def rs37 : V × List OK × List OK := ((.bool true), ([], []))
def X37 : Orc := addM 58 ys37 rs37 X36
theorem ok37 : GammaOk2 Try.prog X37 := addM_ok ok36 mixed progOk_ (inl := INL) (breath := 100000) (n := 60) (by kernel_rfl)
def ys38 : List V := [(.sl 10 [(.int .u8 6), (.int .u8 2), (.int .u8 3), (.int .u8 1), (.int .u8 0), (.int .u8 0), (.int .u8 0), (.int .u8 0), (.int .u8 0), (.int .u8 0)])]
def rs38 : V × List OK × List OK := ((.int .u32 3902422240), ([], []))
def X38 : Orc := addM 91 ys38 rs38 X37
theorem ok38 : GammaOk2 Try.prog X38 := addM_ok ok37 mixed progOk_ (inl := INL) (breath := 100000) (n := 60) (by kernel_rfl)
def ys39 : List V := [(.sl 10 [(.int .u8 6), (.int .u8 2), (.int .u8 3), (.int .u8 1), (.int .u8 0), (.int .u8 0), (.int .u8 0), (.int .u8 0), (.int .u8 0), (.int .u8 0)])]
def rs39 : V × List OK × List OK := ((.own 2000000 0 0 4), ([], [(.row 5 1 false [(.int .u8 232), (.int .u8 154), (.int .u8 60), (.int .u8 224)])]))
def X39 : Orc := addM 63 ys39 rs39 X38
theorem ok39 : GammaOk2 Try.prog X39 := addM_ok ok38 mixed progOk_ (inl := INL) (breath := 100000) (n := 60) (by kernel_rfl)
def ys40 : List V := [(.agg [(.int .i64 6), (.int .i64 2), (.int .i64 3), (.int .i64 1), (.int .i64 0), (.int .i64 0), .snil, (.int .i64 0), (.int .i64 0), (.str [])])]
def rs40 : V × List OK × List OK := ((.own 2000000 0 0 14), ([], [(.row 5 1 false [(.int .u8 6), (.int .u8 2), (.int .u8 3), (.int .u8 1), (.int .u8 0), (.int .u8 0), (.int .u8 0), (.int .u8 0), (.int .u8 0), (.int .u8 0), (.int .u8 232), (.int .u8 154), (.int .u8 60), (.int .u8 224)])]))
def X40 : Orc := addM 27 ys40 rs40 X39
theorem ok40 : GammaOk2 Try.prog X40 := addM_ok ok39 mixed progOk_ (inl := INL) (breath := 100000) (n := 60) (by kernel_rfl)
def ys41 : List V := [(.sl 14 [(.int .u8 6), (.int .u8 2), (.int .u8 3), (.int .u8 1), (.int .u8 0), (.int .u8 0), (.int .u8 0), (.int .u8 0), (.int .u8 0), (.int .u8 0), (.int .u8 232), (.int .u8 154), (.int .u8 60), (.int .u8 224)])]
def rs41 : V × List OK × List OK := ((.tup [(.agg [(.int .i64 6), (.int .i64 2), (.int .i64 3), (.int .i64 1), (.int .i64 0), (.int .i64 0), .snil, (.int .i64 0), (.int .i64 0), (.str [])]), (.bool true)]), ([], []))
def X41 : Orc := addM 26 ys41 rs41 X40
theorem ok41 : GammaOk2 Try.prog X41 := addM_ok ok40 mixed progOk_ (inl := INL) (breath := 100000) (n := 60) (by kernel_rfl)
def ys42 : List V := [(.agg [(.int .i64 6), (.int .i64 2), (.int .i64 3), (.int .i64 1), (.int .i64 0), (.int .i64 0), .snil, (.int .i64 0), (.int .i64 0), (.str [])]), (.agg [(.int .i64 6), (.int .i64 2), (.int .i64 3), (.int .i64 1), (.int .i64 0), (.int .i64 0), .snil, (.int .i64 0), (.int .i64 0), (.str [])])]
def rs42 : V × List OK × List OK := ((.bool true), ([], []))
def X42 : Orc := addM 29 ys42 rs42 X41
theorem ok42 : GammaOk2 Try.prog X42 := addM_ok ok41 mixed progOk_ (inl := INL) (breath := 100000) (n := 60) (by kernel_rfl)
def ys43 : List V := [(.agg [(.int .i64 7), (.int .i64 2), (.int .i64 3), (.int .i64 1), (.int .i64 0), (.int .i64 0), .snil, (.int .i64 1), (.int .i64 0), (.str [116, 119, 101, 108, 118, 101, 32, 98, 121, 116, 101, 115])]), (.agg [(.int .i64 7), (.int .i64 2), (.int .i64 3), (.int .i64 1), (.int .i64 0), (.int .i64 0), .snil, (.int .i64 1), (.int .i64 0), (.str [116, 119, 101, 108, 118, 101, 32, 98, 121, 116, 101, 115])])]
def rs43 : V × List OK × List OK := ((.bool true), ([], []))
def X43 : Orc := addM 58 ys43 rs43 X42
theorem ok43 : GammaOk2 Try.prog X43 := addM_ok ok42 mixed progOk_ (inl := INL) (breath := 100000) (n := 60) (by kernel_rfl)
def ys44 : List V := [(.sl 22 [(.int .u8 7), (.int .u8 2), (.int .u8 3), (.int .u8 1), (.int .u8 0), (.int .u8 0), (.int .u8 0), (.int .u8 1), (.int .u8 0), (.int .u8 12), (.int .u8 116), (.int .u8 119), (.int .u8 101), (.int .u8 108), (.int .u8 118), (.int .u8 101), (.int .u8 32), (.int .u8 98), (.int .u8 121), (.int .u8 116), (.int .u8 101), (.int .u8 115)])]
def rs44 : V × List OK × List OK := ((.int .u32 3428068243), ([], []))
def X44 : Orc := addM 91 ys44 rs44 X43
theorem ok44 : GammaOk2 Try.prog X44 := addM_ok ok43 mixed progOk_ (inl := INL) (breath := 100000) (n := 60) (by kernel_rfl)
def ys45 : List V := [(.sl 22 [(.int .u8 7), (.int .u8 2), (.int .u8 3), (.int .u8 1), (.int .u8 0), (.int .u8 0), (.int .u8 0), (.int .u8 1), (.int .u8 0), (.int .u8 12), (.int .u8 116), (.int .u8 119), (.int .u8 101), (.int .u8 108), (.int .u8 118), (.int .u8 101), (.int .u8 32), (.int .u8 98), (.int .u8 121), (.int .u8 116), (.int .u8 101), (.int .u8 115)])]
def rs45 : V × List OK × List OK := ((.own 2000000 0 0 4), ([], [(.row 5 1 false [(.int .u8 204), (.int .u8 84), (.int .u8 43), (.int .u8 147)])]))
def X45 : Orc := addM 63 ys45 rs45 X44
theorem ok45 : GammaOk2 Try.prog X45 := addM_ok ok44 mixed progOk_ (inl := INL) (breath := 100000) (n := 60) (by kernel_rfl)
def ys46 : List V := [(.agg [(.int .i64 7), (.int .i64 2), (.int .i64 3), (.int .i64 1), (.int .i64 0), (.int .i64 0), .snil, (.int .i64 1), (.int .i64 0), (.str [116, 119, 101, 108, 118, 101, 32, 98, 121, 116, 101, 115])])]
def rs46 : V × List OK × List OK := ((.own 2000000 0 0 26), ([], [(.row 5 1 false [(.int .u8 7), (.int .u8 2), (.int .u8 3), (.int .u8 1), (.int .u8 0), (.int .u8 0), (.int .u8 0), (.int .u8 1), (.int .u8 0), (.int .u8 12), (.int .u8 116), (.int .u8 119), (.int .u8 101), (.int .u8 108), (.int .u8 118), (.int .u8 101), (.int .u8 32), (.int .u8 98), (.int .u8 121), (.int .u8 116), (.int .u8 101), (.int .u8 115), (.int .u8 204), (.int .u8 84), (.int .u8 43), (.int .u8 147)])]))
def X46 : Orc := addM 27 ys46 rs46 X45
theorem ok46 : GammaOk2 Try.prog X46 := addM_ok ok45 mixed progOk_ (inl := INL) (breath := 100000) (n := 60) (by kernel_rfl)
def ys47 : List V := [(.sl 26 [(.int .u8 7), (.int .u8 2), (.int .u8 3), (.int .u8 1), (.int .u8 0), (.int .u8 0), (.int .u8 0), (.int .u8 1), (.int .u8 0), (.int .u8 12), (.int .u8 116), (.int .u8 119), (.int .u8 101), (.int .u8 108), (.int .u8 118), (.int .u8 101), (.int .u8 32), (.int .u8 98), (.int .u8 121), (.int .u8 116), (.int .u8 101), (.int .u8 115), (.int .u8 204), (.int .u8 84), (.int .u8 43), (.int .u8 147)])]
def rs47 : V × List OK × List OK := ((.tup [(.agg [(.int .i64 7), (.int .i64 2), (.int .i64 3), (.int .i64 1), (.int .i64 0), (.int .i64 0), .snil, (.int .i64 1), (.int .i64 0), (.str [116, 119, 101, 108, 118, 101, 32, 98, 121, 116, 101, 115])]), (.bool true)]), ([], []))
def X47 : Orc := addM 26 ys47 rs47 X46
theorem ok47 : GammaOk2 Try.prog X47 := addM_ok ok46 mixed progOk_ (inl := INL) (breath := 100000) (n := 60) (by kernel_rfl)
def ys48 : List V := [(.agg [(.int .i64 7), (.int .i64 2), (.int .i64 3), (.int .i64 1), (.int .i64 0), (.int .i64 0), .snil, (.int .i64 1), (.int .i64 0), (.str [116, 119, 101, 108, 118, 101, 32, 98, 121, 116, 101, 115])]), (.agg [(.int .i64 7), (.int .i64 2), (.int .i64 3), (.int .i64 1), (.int .i64 0), (.int .i64 0), .snil, (.int .i64 1), (.int .i64 0), (.str [116, 119, 101, 108, 118, 101, 32, 98, 121, 116, 101, 115])])]
def rs48 : V × List OK × List OK := ((.bool true), ([], []))
def X48 : Orc := addM 29 ys48 rs48 X47
theorem ok48 : GammaOk2 Try.prog X48 := addM_ok ok47 mixed progOk_ (inl := INL) (breath := 100000) (n := 60) (by kernel_rfl)
def ys49 : List V := [(.agg [(.int .i64 8), (.int .i64 2), (.int .i64 3), (.int .i64 1), (.int .i64 0), (.int .i64 0), .snil, (.int .i64 1), (.int .i64 1), (.str [])]), (.agg [(.int .i64 8), (.int .i64 2), (.int .i64 3), (.int .i64 1), (.int .i64 0), (.int .i64 0), .snil, (.int .i64 1), (.int .i64 1), (.str [])])]
def rs49 : V × List OK × List OK := ((.bool true), ([], []))
def X49 : Orc := addM 58 ys49 rs49 X48
theorem ok49 : GammaOk2 Try.prog X49 := addM_ok ok48 mixed progOk_ (inl := INL) (breath := 100000) (n := 60) (by kernel_rfl)
def ys50 : List V := [(.sl 10 [(.int .u8 8), (.int .u8 2), (.int .u8 3), (.int .u8 1), (.int .u8 0), (.int .u8 0), (.int .u8 0), (.int .u8 1), (.int .u8 1), (.int .u8 0)])]
def rs50 : V × List OK × List OK := ((.int .u32 4002043685), ([], []))
def X50 : Orc := addM 91 ys50 rs50 X49
theorem ok50 : GammaOk2 Try.prog X50 := addM_ok ok49 mixed progOk_ (inl := INL) (breath := 100000) (n := 60) (by kernel_rfl)
def ys51 : List V := [(.sl 10 [(.int .u8 8), (.int .u8 2), (.int .u8 3), (.int .u8 1), (.int .u8 0), (.int .u8 0), (.int .u8 0), (.int .u8 1), (.int .u8 1), (.int .u8 0)])]
def rs51 : V × List OK × List OK := ((.own 2000000 0 0 4), ([], [(.row 5 1 false [(.int .u8 238), (.int .u8 138), (.int .u8 87), (.int .u8 37)])]))
def X51 : Orc := addM 63 ys51 rs51 X50
theorem ok51 : GammaOk2 Try.prog X51 := addM_ok ok50 mixed progOk_ (inl := INL) (breath := 100000) (n := 60) (by kernel_rfl)
def ys52 : List V := [(.agg [(.int .i64 8), (.int .i64 2), (.int .i64 3), (.int .i64 1), (.int .i64 0), (.int .i64 0), .snil, (.int .i64 1), (.int .i64 1), (.str [])])]
def rs52 : V × List OK × List OK := ((.own 2000000 0 0 14), ([], [(.row 5 1 false [(.int .u8 8), (.int .u8 2), (.int .u8 3), (.int .u8 1), (.int .u8 0), (.int .u8 0), (.int .u8 0), (.int .u8 1), (.int .u8 1), (.int .u8 0), (.int .u8 238), (.int .u8 138), (.int .u8 87), (.int .u8 37)])]))
def X52 : Orc := addM 27 ys52 rs52 X51
theorem ok52 : GammaOk2 Try.prog X52 := addM_ok ok51 mixed progOk_ (inl := INL) (breath := 100000) (n := 60) (by kernel_rfl)
def ys53 : List V := [(.sl 14 [(.int .u8 8), (.int .u8 2), (.int .u8 3), (.int .u8 1), (.int .u8 0), (.int .u8 0), (.int .u8 0), (.int .u8 1), (.int .u8 1), (.int .u8 0), (.int .u8 238), (.int .u8 138), (.int .u8 87), (.int .u8 37)])]
def rs53 : V × List OK × List OK := ((.tup [(.agg [(.int .i64 8), (.int .i64 2), (.int .i64 3), (.int .i64 1), (.int .i64 0), (.int .i64 0), .snil, (.int .i64 1), (.int .i64 1), (.str [])]), (.bool true)]), ([], []))
def X53 : Orc := addM 26 ys53 rs53 X52
theorem ok53 : GammaOk2 Try.prog X53 := addM_ok ok52 mixed progOk_ (inl := INL) (breath := 100000) (n := 60) (by kernel_rfl)
def ys54 : List V := [(.agg [(.int .i64 8), (.int .i64 2), (.int .i64 3), (.int .i64 1), (.int .i64 0), (.int .i64 0), .snil, (.int .i64 1), (.int .i64 1), (.str [])]), (.agg [(.int .i64 8), (.int .i64 2), (.int .i64 3), (.int .i64 1), (.int .i64 0), (.int .i64 0), .snil, (.int .i64 1), (.int .i64 1), (.str [])])]
def rs54 : V × List OK × List OK := ((.bool true), ([], []))
def X54 : Orc := addM 29 ys54 rs54 X53
theorem ok54 : GammaOk2 Try.prog X54 := addM_ok ok53 mixed progOk_ (inl := INL) (breath := 100000) (n := 60) (by kernel_rfl)
def ys55 : List V := [(.agg [(.int .i64 9), (.int .i64 2), (.int .i64 3), (.int .i64 1), (.int .i64 0), (.int .i64 0), .snil, (.int .i64 5), (.int .i64 1000000), (.str [])]), (.agg [(.int .i64 9), (.int .i64 2), (.int .i64 3), (.int .i64 1), (.int .i64 0), (.int .i64 0), .snil, (.int .i64 5), (.int .i64 1000000), (.str [])])]
def rs55 : V × List OK × List OK := ((.bool true), ([], []))
def X55 : Orc := addM 58 ys55 rs55 X54
theorem ok55 : GammaOk2 Try.prog X55 := addM_ok ok54 mixed progOk_ (inl := INL) (breath := 100000) (n := 60) (by kernel_rfl)
def ys56 : List V := [(.sl 12 [(.int .u8 9), (.int .u8 2), (.int .u8 3), (.int .u8 1), (.int .u8 0), (.int .u8 0), (.int .u8 0), (.int .u8 5), (.int .u8 192), (.int .u8 132), (.int .u8 61), (.int .u8 0)])]
def rs56 : V × List OK × List OK := ((.int .u32 1881501931), ([], []))
def X56 : Orc := addM 91 ys56 rs56 X55
theorem ok56 : GammaOk2 Try.prog X56 := addM_ok ok55 mixed progOk_ (inl := INL) (breath := 100000) (n := 60) (by kernel_rfl)
def ys57 : List V := [(.sl 12 [(.int .u8 9), (.int .u8 2), (.int .u8 3), (.int .u8 1), (.int .u8 0), (.int .u8 0), (.int .u8 0), (.int .u8 5), (.int .u8 192), (.int .u8 132), (.int .u8 61), (.int .u8 0)])]
def rs57 : V × List OK × List OK := ((.own 2000000 0 0 4), ([], [(.row 5 1 false [(.int .u8 112), (.int .u8 37), (.int .u8 112), (.int .u8 235)])]))
def X57 : Orc := addM 63 ys57 rs57 X56
theorem ok57 : GammaOk2 Try.prog X57 := addM_ok ok56 mixed progOk_ (inl := INL) (breath := 100000) (n := 60) (by kernel_rfl)
def ys58 : List V := [(.agg [(.int .i64 9), (.int .i64 2), (.int .i64 3), (.int .i64 1), (.int .i64 0), (.int .i64 0), .snil, (.int .i64 5), (.int .i64 1000000), (.str [])])]
def rs58 : V × List OK × List OK := ((.own 2000000 0 0 16), ([], [(.row 5 1 false [(.int .u8 9), (.int .u8 2), (.int .u8 3), (.int .u8 1), (.int .u8 0), (.int .u8 0), (.int .u8 0), (.int .u8 5), (.int .u8 192), (.int .u8 132), (.int .u8 61), (.int .u8 0), (.int .u8 112), (.int .u8 37), (.int .u8 112), (.int .u8 235)])]))
def X58 : Orc := addM 27 ys58 rs58 X57
theorem ok58 : GammaOk2 Try.prog X58 := addM_ok ok57 mixed progOk_ (inl := INL) (breath := 100000) (n := 60) (by kernel_rfl)
def ys59 : List V := [(.sl 16 [(.int .u8 9), (.int .u8 2), (.int .u8 3), (.int .u8 1), (.int .u8 0), (.int .u8 0), (.int .u8 0), (.int .u8 5), (.int .u8 192), (.int .u8 132), (.int .u8 61), (.int .u8 0), (.int .u8 112), (.int .u8 37), (.int .u8 112), (.int .u8 235)])]
def rs59 : V × List OK × List OK := ((.tup [(.agg [(.int .i64 9), (.int .i64 2), (.int .i64 3), (.int .i64 1), (.int .i64 0), (.int .i64 0), .snil, (.int .i64 5), (.int .i64 1000000), (.str [])]), (.bool true)]), ([], []))
def X59 : Orc := addM 26 ys59 rs59 X58
theorem ok59 : GammaOk2 Try.prog X59 := addM_ok ok58 mixed progOk_ (inl := INL) (breath := 100000) (n := 60) (by kernel_rfl)
def ys60 : List V := [(.agg [(.int .i64 9), (.int .i64 2), (.int .i64 3), (.int .i64 1), (.int .i64 0), (.int .i64 0), .snil, (.int .i64 5), (.int .i64 1000000), (.str [])]), (.agg [(.int .i64 9), (.int .i64 2), (.int .i64 3), (.int .i64 1), (.int .i64 0), (.int .i64 0), .snil, (.int .i64 5), (.int .i64 1000000), (.str [])])]
def rs60 : V × List OK × List OK := ((.bool true), ([], []))
def X60 : Orc := addM 29 ys60 rs60 X59
theorem ok60 : GammaOk2 Try.prog X60 := addM_ok ok59 mixed progOk_ (inl := INL) (breath := 100000) (n := 60) (by kernel_rfl)
def ys61 : List V := [(.agg [(.int .i64 0), (.int .i64 0), (.int .i64 0), (.int .i64 0), (.int .i64 0), (.int .i64 0), .snil, (.int .i64 0), (.int .i64 0), (.str [])])]
def rs61 : V × List OK × List OK := (.snil, ([], []))
def X61 : Orc := addM 27 ys61 rs61 X60
theorem ok61 : GammaOk2 Try.prog X61 := addM_ok ok60 mixed progOk_ (inl := INL) (breath := 100000) (n := 60) (by kernel_rfl)
def ys62 : List V := [(.agg [(.int .i64 10), (.int .i64 3), (.int .i64 1), (.int .i64 1), (.int .i64 0), (.int .i64 0), .snil, (.int .i64 0), (.int .i64 0), (.str [])])]
def rs62 : V × List OK × List OK := (.snil, ([], []))
def X62 : Orc := addM 27 ys62 rs62 X61
theorem ok62 : GammaOk2 Try.prog X62 := addM_ok ok61 mixed progOk_ (inl := INL) (breath := 100000) (n := 60) (by kernel_rfl)
def ys63 : List V := [(.agg [(.int .i64 1), (.int .i64 3), (.int .i64 3), (.int .i64 1), (.int .i64 0), (.int .i64 0), .snil, (.int .i64 0), (.int .i64 0), (.str [])])]
def rs63 : V × List OK × List OK := (.snil, ([], []))
def X63 : Orc := addM 27 ys63 rs63 X62
theorem ok63 : GammaOk2 Try.prog X63 := addM_ok ok62 mixed progOk_ (inl := INL) (breath := 100000) (n := 60) (by kernel_rfl)
def ys64 : List V := [(.agg [(.int .i64 1), (.int .i64 0), (.int .i64 1), (.int .i64 1), (.int .i64 0), (.int .i64 0), .snil, (.int .i64 0), (.int .i64 0), (.str [])])]
def rs64 : V × List OK × List OK := (.snil, ([], []))
def X64 : Orc := addM 27 ys64 rs64 X63
theorem ok64 : GammaOk2 Try.prog X64 := addM_ok ok63 mixed progOk_ (inl := INL) (breath := 100000) (n := 60) (by kernel_rfl)
def ys65 : List V := [(.agg [(.int .i64 1), (.int .i64 9), (.int .i64 1), (.int .i64 1), (.int .i64 0), (.int .i64 0), .snil, (.int .i64 0), (.int .i64 0), (.str [])])]
def rs65 : V × List OK × List OK := (.snil, ([], []))
def X65 : Orc := addM 27 ys65 rs65 X64
theorem ok65 : GammaOk2 Try.prog X65 := addM_ok ok64 mixed progOk_ (inl := INL) (breath := 100000) (n := 60) (by kernel_rfl)
def ys66 : List V := [(.agg [(.int .i64 1), (.int .i64 3), (.int .i64 9), (.int .i64 1), (.int .i64 0), (.int .i64 0), .snil, (.int .i64 0), (.int .i64 0), (.str [])])]
def rs66 : V × List OK × List OK := (.snil, ([], []))
def X66 : Orc := addM 27 ys66 rs66 X65
theorem ok66 : GammaOk2 Try.prog X66 := addM_ok ok65 mixed progOk_ (inl := INL) (breath := 100000) (n := 60) (by kernel_rfl)
def ys67 : List V := [(.agg [(.int .i64 1), (.int .i64 3), (.int .i64 1), (.int .i64 0), (.int .i64 0), (.int .i64 0), .snil, (.int .i64 0), (.int .i64 0), (.str [])])]
def rs67 : V × List OK × List OK := (.snil, ([], []))
def X67 : Orc := addM 27 ys67 rs67 X66
theorem ok67 : GammaOk2 Try.prog X67 := addM_ok ok66 mixed progOk_ (inl := INL) (breath := 100000) (n := 60) (by kernel_rfl)
def ys68 : List V := [(.agg [(.int .i64 1), (.int .i64 3), (.int .i64 1), (.int .i64 1073741825), (.int .i64 0), (.int .i64 0), .snil, (.int .i64 0), (.int .i64 0), (.str [])])]
def rs68 : V × List OK × List OK := (.snil, ([], []))
def X68 : Orc := addM 27 ys68 rs68 X67
theorem ok68 : GammaOk2 Try.prog X68 := addM_ok ok67 mixed progOk_ (inl := INL) (breath := 100000) (n := 60) (by kernel_rfl)
def ys69 : List V := [(.agg [(.int .i64 1), (.int .i64 3), (.int .i64 1), (.int .i64 1), (.int .i64 0), (.int .i64 0), .snil, (.int .i64 1), (.int .i64 0), (.str [])]), (.agg [(.int .i64 1), (.int .i64 3), (.int .i64 1), (.int .i64 1), (.int .i64 0), (.int .i64 0), .snil, (.int .i64 0), (.int .i64 0), (.str [])])]
def rs69 : V × List OK × List OK := ((.bool false), ([], []))
def X69 : Orc := addM 58 ys69 rs69 X68
theorem ok69 : GammaOk2 Try.prog X69 := addM_ok ok68 mixed progOk_ (inl := INL) (breath := 100000) (n := 60) (by kernel_rfl)
def ys70 : List V := [(.agg [(.int .i64 1), (.int .i64 3), (.int .i64 1), (.int .i64 1), (.int .i64 0), (.int .i64 0), .snil, (.int .i64 1), (.int .i64 0), (.str [])])]
def rs70 : V × List OK × List OK := (.snil, ([], []))
def X70 : Orc := addM 27 ys70 rs70 X69
theorem ok70 : GammaOk2 Try.prog X70 := addM_ok ok69 mixed progOk_ (inl := INL) (breath := 100000) (n := 60) (by kernel_rfl)
def ys71 : List V := [(.agg [(.int .i64 1), (.int .i64 3), (.int .i64 1), (.int .i64 1), (.int .i64 0), (.int .i64 0), (.sl 2 [(.int .i64 1), (.int .i64 2)]), (.int .i64 0), (.int .i64 0), (.str [])]), (.agg [(.int .i64 1), (.int .i64 3), (.int .i64 1), (.int .i64 1), (.int .i64 0), (.int .i64 0), .snil, (.int .i64 0), (.int .i64 0), (.str [])])]
def rs71 : V × List OK × List OK := ((.bool false), ([], []))
def X71 : Orc := addM 58 ys71 rs71 X70
theorem ok71 : GammaOk2 Try.prog X71 := addM_ok ok70 mixed progOk_ (inl := INL) (breath := 100000) (n := 60) (by kernel_rfl)
def ys72 : List V := [(.agg [(.int .i64 1), (.int .i64 3), (.int .i64 1), (.int .i64 1), (.int .i64 0), (.int .i64 0), (.sl 2 [(.int .i64 1), (.int .i64 2)]), (.int .i64 0), (.int .i64 0), (.str [])])]
def rs72 : V × List OK × List OK := (.snil, ([], []))
def X72 : Orc := addM 27 ys72 rs72 X71
theorem ok72 : GammaOk2 Try.prog X72 := addM_ok ok71 mixed progOk_ (inl := INL) (breath := 100000) (n := 60) (by kernel_rfl)
def ys73 : List V := [(.agg [(.int .i64 2), (.int .i64 2), (.int .i64 3), (.int .i64 1), (.int .i64 0), (.int .i64 0), .snil, (.int .i64 1), (.int .i64 0), (.str [])]), (.agg [(.int .i64 2), (.int .i64 2), (.int .i64 3), (.int .i64 1), (.int .i64 0), (.int .i64 0), .snil, (.int .i64 1), (.int .i64 0), (.str [])])]
def rs73 : V × List OK × List OK := ((.bool true), ([], []))
def X73 : Orc := addM 58 ys73 rs73 X72
theorem ok73 : GammaOk2 Try.prog X73 := addM_ok ok72 mixed progOk_ (inl := INL) (breath := 100000) (n := 60) (by kernel_rfl)
def ys74 : List V := [(.agg [(.int .i64 2), (.int .i64 2), (.int .i64 3), (.int .i64 1), (.int .i64 0), (.int .i64 0), .snil, (.int .i64 1), (.int .i64 0), (.str [])])]
def rs74 : V × List OK × List OK := (.snil, ([], []))
def X74 : Orc := addM 27 ys74 rs74 X73
theorem ok74 : GammaOk2 Try.prog X74 := addM_ok ok73 mixed progOk_ (inl := INL) (breath := 100000) (n := 60) (by kernel_rfl)
def ys75 : List V := [(.agg [(.int .i64 2), (.int .i64 2), (.int .i64 3), (.int .i64 1), (.int .i64 0), (.int .i64 0), (.sl 2 [(.int .i64 1), (.int .i64 2)]), (.int .i64 0), (.int .i64 1), (.str [])]), (.agg [(.int .i64 2), (.int .i64 2), (.int .i64 3), (.int .i64 1), (.int .i64 0), (.int .i64 0), (.sl 2 [(.int .i64 1), (.int .i64 2)]), (.int .i64 0), (.int .i64 0), (.str [])])]
def rs75 : V × List OK × List OK := ((.bool false), ([], []))
def X75 : Orc := addM 58 ys75 rs75 X74
theorem ok75 : GammaOk2 Try.prog X75 := addM_ok ok74 mixed progOk_ (inl := INL) (breath := 100000) (n := 60) (by kernel_rfl)
def ys76 : List V := [(.agg [(.int .i64 2), (.int .i64 2), (.int .i64 3), (.int .i64 1), (.int .i64 0), (.int .i64 0), (.sl 2 [(.int .i64 1), (.int .i64 2)]), (.int .i64 0), (.int .i64 1), (.str [])])]
def rs76 : V × List OK × List OK := (.snil, ([], []))
def X76 : Orc := addM 27 ys76 rs76 X75
theorem ok76 : GammaOk2 Try.prog X76 := addM_ok ok75 mixed progOk_ (inl := INL) (breath := 100000) (n := 60) (by kernel_rfl)
def ys77 : List V := [(.agg [(.int .i64 2), (.int .i64 2), (.int .i64 3), (.int .i64 1), (.int .i64 0), (.int .i64 0), (.sl 2 [(.int .i64 1), (.int .i64 2)]), (.int .i64 (-1)), (.int .i64 0), (.str [])]), (.agg [(.int .i64 2), (.int .i64 2), (.int .i64 3), (.int .i64 1), (.int .i64 0), (.int .i64 0), (.sl 2 [(.int .i64 1), (.int .i64 2)]), (.int .i64 (-1)), (.int .i64 0), (.str [])])]
def rs77 : V × List OK × List OK := ((.bool true), ([], []))
def X77 : Orc := addM 58 ys77 rs77 X76
theorem ok77 : GammaOk2 Try.prog X77 := addM_ok ok76 mixed progOk_ (inl := INL) (breath := 100000) (n := 60) (by kernel_rfl)
def ys78 : List V := [(.agg [(.int .i64 2), (.int .i64 2), (.int .i64 3), (.int .i64 1), (.int .i64 0), (.int .i64 0), (.sl 2 [(.int .i64 1), (.int .i64 2)]), (.int .i64 (-1)), (.int .i64 0), (.str [])])]
def rs78 : V × List OK × List OK := (.snil, ([], []))
def X78 : Orc := addM 27 ys78 rs78 X77
theorem ok78 : GammaOk2 Try.prog X78 := addM_ok ok77 mixed progOk_ (inl := INL) (breath := 100000) (n := 60) (by kernel_rfl)
def ys79 : List V := [(.agg [(.int .i64 5), (.int .i64 2), (.int .i64 3), (.int .i64 1), (.int .i64 0), (.int .i64 (-1)), (.sl 2 [(.int .i64 1), (.int .i64 2)]), (.int .i64 0), (.int .i64 0), (.str [])]), (.agg [(.int .i64 5), (.int .i64 2), (.int .i64 3), (.int .i64 1), (.int .i64 0), (.int .i64 (-1)), (.sl 2 [(.int .i64 1), (.int .i64 2)]), (.int .i64 0), (.int .i64 0), (.str [])])]
def rs79 : V × List OK × List OK := ((.bool true), ([], []))
def X79 : Orc := addM 58 ys79 rs79 X78
theorem ok79 : GammaOk2 Try.prog X79 := addM_ok ok78 mixed progOk_ (inl := INL) (breath := 100000) (n := 60) (by kernel_rfl)
def ys80 : List V := [(.agg [(.int .i64 5), (.int .i64 2), (.int .i64 3), (.int .i64 1), (.int .i64 0), (.int .i64 (-1)), (.sl 2 [(.int .i64 1), (.int .i64 2)]), (.int .i64 0), (.int .i64 0), (.str [])])]
def rs80 : V × List OK × List OK := (.snil, ([], []))
def X80 : Orc := addM 27 ys80 rs80 X79
theorem ok80 : GammaOk2 Try.prog X80 := addM_ok ok79 mixed progOk_ (inl := INL) (breath := 100000) (n := 60) (by kernel_rfl)
def ys81 : List V := [(.agg [(.int .i64 5), (.int .i64 2), (.int .i64 3), (.int .i64 1), (.int .i64 0), (.int .i64 0), (.sl 2 [(.int .i64 1), (.int .i64 2)]), (.int .i64 1), (.int .i64 0), (.str [])]), (.agg [(.int .i64 5), (.int .i64 2), (.int .i64 3), (.int .i64 1), (.int .i64 0), (.int .i64 0), (.sl 2 [(.int .i64 1), (.int .i64 2)]), (.int .i64 0), (.int .i64 0), (.str [])])]
def rs81 : V × List OK × List OK := ((.bool false), ([], []))
def X81 : Orc := addM 58 ys81 rs81 X80
theorem ok81 : GammaOk2 Try.prog X81 := addM_ok ok80 mixed progOk_ (inl := INL) (breath := 100000) (n := 60) (by kernel_rfl)
def ys82 : List V := [(.agg [(.int .i64 5), (.int .i64 2), (.int .i64 3), (.int .i64 1), (.int .i64 0), (.int .i64 0), (.sl 2 [(.int .i64 1), (.int .i64 2)]), (.int .i64 1), (.int .i64 0), (.str [])])]
def rs82 : V × List OK × List OK := (.snil, ([], []))
def X82 : Orc := addM 27 ys82 rs82 X81
theorem ok82 : GammaOk2 Try.prog X82 := addM_ok ok81 mixed progOk_ (inl := INL) (breath := 100000) (n := 60) (by kernel_rfl)
def ys83 : List V := [(.agg [(.int .i64 7), (.int .i64 2), (.int .i64 3), (.int .i64 1), (.int .i64 0), (.int .i64 0), .snil, (.int .i64 0), (.int .i64 0), (.str [])]), (.agg [(.int .i64 7), (.int .i64 2), (.int .i64 3), (.int .i64 1), (.int .i64 0), (.int .i64 0), .snil, (.int .i64 0), (.int .i64 0), (.str [])])]
def rs83 : V × List OK × List OK := ((.bool true), ([], []))
def X83 : Orc := addM 58 ys83 rs83 X82
theorem ok83 : GammaOk2 Try.prog X83 := addM_ok ok82 mixed progOk_ (inl := INL) (breath := 100000) (n := 60) (by kernel_rfl)
def ys84 : List V := [(.agg [(.int .i64 7), (.int .i64 2), (.int .i64 3), (.int .i64 1), (.int .i64 0), (.int .i64 0), .snil, (.int .i64 0), (.int .i64 0), (.str [])])]
def rs84 : V × List OK × List OK := (.snil, ([], []))
def X84 : Orc := addM 27 ys84 rs84 X83
theorem ok84 : GammaOk2 Try.prog X84 := addM_ok ok83 mixed progOk_ (inl := INL) (breath := 100000) (n := 60) (by kernel_rfl)
def ys85 : List V := [(.agg [(.int .i64 7), (.int .i64 2), (.int .i64 3), (.int .i64 1), (.int .i64 0), (.int .i64 0), .snil, (.int .i64 1), (.int .i64 1), (.str [])]), (.agg [(.int .i64 7), (.int .i64 2), (.int .i64 3), (.int .i64 1), (.int .i64 0), (.int .i64 0), .snil, (.int .i64 1), (.int .i64 0), (.str [])])]
def rs85 : V × List OK × List OK := ((.bool false), ([], []))
def X85 : Orc := addM 58 ys85 rs85 X84
theorem ok85 : GammaOk2 Try.prog X85 := addM_ok ok84 mixed progOk_ (inl := INL) (breath := 100000) (n := 60) (by kernel_rfl)
def ys86 : List V := [(.agg [(.int .i64 7), (.int .i64 2), (.int .i64 3), (.int .i64 1), (.int .i64 0), (.int .i64 0), .snil, (.int .i64 1), (.int .i64 1), (.str [])])]
def rs86 : V × List OK × List OK := (.snil, ([], []))
def X86 : Orc := addM 27 ys86 rs86 X85
theorem ok86 : GammaOk2 Try.prog X86 := addM_ok ok85 mixed progOk_ (inl := INL) (breath := 100000) (n := 60) (by kernel_rfl)
def ys87 : List V := [(.agg [(.int .i64 7), (.int .i64 2), (.int .i64 3), (.int .i64 1), (.int .i64 0), (.int .i64 0), .snil, (.int .i64 1), (.int .i64 0), (.str [116, 104, 105, 114, 116, 101, 101, 110, 32, 98, 121, 116, 101])]), (.agg [(.int .i64 7), (.int .i64 2), (.int .i64 3), (.int .i64 1), (.int .i64 0), (.int .i64 0), .snil, (.int .i64 1), (.int .i64 0), (.str [116, 104, 105, 114, 116, 101, 101, 110, 32, 98, 121, 116, 101])])]
def rs87 : V × List OK × List OK := ((.bool true), ([], []))
def X87 : Orc := addM 58 ys87 rs87 X86
theorem ok87 : GammaOk2 Try.prog X87 := addM_ok ok86 mixed progOk_ (inl := INL) (breath := 100000) (n := 60) (by kernel_rfl)
def ys88 : List V := [(.agg [(.int .i64 7), (.int .i64 2), (.int .i64 3), (.int .i64 1), (.int .i64 0), (.int .i64 0), .snil, (.int .i64 1), (.int .i64 0), (.str [116, 104, 105, 114, 116, 101, 101, 110, 32, 98, 121, 116, 101])])]
def rs88 : V × List OK × List OK := (.snil, ([], []))
def X88 : Orc := addM 27 ys88 rs88 X87
theorem ok88 : GammaOk2 Try.prog X88 := addM_ok ok87 mixed progOk_ (inl := INL) (breath := 100000) (n := 60) (by kernel_rfl)
def ys89 : List V := [(.agg [(.int .i64 8), (.int .i64 2), (.int .i64 3), (.int .i64 1), (.int .i64 0), (.int .i64 0), .snil, (.int .i64 2), (.int .i64 1), (.str [])]), (.agg [(.int .i64 8), (.int .i64 2), (.int .i64 3), (.int .i64 1), (.int .i64 0), (.int .i64 0), .snil, (.int .i64 2), (.int .i64 1), (.str [])])]
def rs89 : V × List OK × List OK := ((.bool true), ([], []))
def X89 : Orc := addM 58 ys89 rs89 X88
theorem ok89 : GammaOk2 Try.prog X89 := addM_ok ok88 mixed progOk_ (inl := INL) (breath := 100000) (n := 60) (by kernel_rfl)
def ys90 : List V := [(.agg [(.int .i64 8), (.int .i64 2), (.int .i64 3), (.int .i64 1), (.int .i64 0), (.int .i64 0), .snil, (.int .i64 2), (.int .i64 1), (.str [])])]
def rs90 : V × List OK × List OK := (.snil, ([], []))
def X90 : Orc := addM 27 ys90 rs90 X89
theorem ok90 : GammaOk2 Try.prog X90 := addM_ok ok89 mixed progOk_ (inl := INL) (breath := 100000) (n := 60) (by kernel_rfl)
def ys91 : List V := [(.agg [(.int .i64 8), (.int .i64 2), (.int .i64 3), (.int .i64 1), (.int .i64 0), (.int .i64 0), .snil, (.int .i64 0), (.int .i64 1), (.str [])]), (.agg [(.int .i64 8), (.int .i64 2), (.int .i64 3), (.int .i64 1), (.int .i64 0), (.int .i64 0), .snil, (.int .i64 0), (.int .i64 1), (.str [])])]
def rs91 : V × List OK × List OK := ((.bool true), ([], []))
def X91 : Orc := addM 58 ys91 rs91 X90
theorem ok91 : GammaOk2 Try.prog X91 := addM_ok ok90 mixed progOk_ (inl := INL) (breath := 100000) (n := 60) (by kernel_rfl)
def ys92 : List V := [(.agg [(.int .i64 8), (.int .i64 2), (.int .i64 3), (.int .i64 1), (.int .i64 0), (.int .i64 0), .snil, (.int .i64 0), (.int .i64 1), (.str [])])]
def rs92 : V × List OK × List OK := (.snil, ([], []))
def X92 : Orc := addM 27 ys92 rs92 X91
theorem ok92 : GammaOk2 Try.prog X92 := addM_ok ok91 mixed progOk_ (inl := INL) (breath := 100000) (n := 60) (by kernel_rfl)
def ys93 : List V := [(.agg [(.int .i64 9), (.int .i64 2), (.int .i64 3), (.int .i64 1), (.int .i64 0), (.int .i64 0), .snil, (.int .i64 1), (.int .i64 1000001), (.str [])]), (.agg [(.int .i64 9), (.int .i64 2), (.int .i64 3), (.int .i64 1), (.int .i64 0), (.int .i64 0), .snil, (.int .i64 1), (.int .i64 1000001), (.str [])])]
def rs93 : V × List OK × List OK := ((.bool true), ([], []))
def X93 : Orc := addM 58 ys93 rs93 X92
theorem ok93 : GammaOk2 Try.prog X93 := addM_ok ok92 mixed progOk_ (inl := INL) (breath := 100000) (n := 60) (by kernel_rfl)
def ys94 : List V := [(.agg [(.int .i64 9), (.int .i64 2), (.int .i64 3), (.int .i64 1), (.int .i64 0), (.int .i64 0), .snil, (.int .i64 1), (.int .i64 1000001), (.str [])])]
def rs94 : V × List OK × List OK := (.snil, ([], []))
def X94 : Orc := addM 27 ys94 rs94 X93
theorem ok94 : GammaOk2 Try.prog X94 := addM_ok ok93 mixed progOk_ (inl := INL) (breath := 100000) (n := 60) (by kernel_rfl)
def ys95 : List V := [(.agg [(.int .i64 9), (.int .i64 2), (.int .i64 3), (.int .i64 1), (.int .i64 0), (.int .i64 0), .snil, (.int .i64 1), (.int .i64 1), (.str [120])]), (.agg [(.int .i64 9), (.int .i64 2), (.int .i64 3), (.int .i64 1), (.int .i64 0), (.int .i64 0), .snil, (.int .i64 1), (.int .i64 1), (.str [])])]
def rs95 : V × List OK × List OK := ((.bool false), ([], []))
def X95 : Orc := addM 58 ys95 rs95 X94
theorem ok95 : GammaOk2 Try.prog X95 := addM_ok ok94 mixed progOk_ (inl := INL) (breath := 100000) (n := 60) (by kernel_rfl)
def ys96 : List V := [(.agg [(.int .i64 9), (.int .i64 2), (.int .i64 3), (.int .i64 1), (.int .i64 0), (.int .i64 0), .snil, (.int .i64 1), (.int .i64 1), (.str [120])])]
def rs96 : V × List OK × List OK := (.snil, ([], []))
def X96 : Orc := addM 27 ys96 rs96 X95
theorem ok96 : GammaOk2 Try.prog X96 := addM_ok ok95 mixed progOk_ (inl := INL) (breath := 100000) (n := 60) (by kernel_rfl)
end
end msgFormsCl
end Go.Proofs.Ytfmoomkfefpcgad
