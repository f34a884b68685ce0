/- TruthAll: for all arguments the call returns true. The law is brought to a function of Lean's own (W_..) by the machine of the texts beside it, and that is reckoned; no condition. -/
import Derived.Test.YtigfokfefnomjaaGreatExtCm
import Derived.Test.YtigfokfefnomjaaGreatRows
import Derived.WalkKit
import Derived.ProofKit
import Derived.OpenShut
import Derived.ShutString
import Derived.ChangeOld
import Derived.Below
namespace Go.Proofs.YtigfokfefnomjaaGreat.truthAllX
open Go.Abs Go.RowKit Go.ChangeShapes Go.WideShapes Go.ChangeAt
set_option maxRecDepth 100000
set_option linter.unusedVariables false
set_option linter.unusedSimpArgs false
noncomputable section
abbrev T_:Ty:=(.pair (.int .i64) (.pair (.int .i64) (.pair (.int .i64) (.pair (.int .i64) (.pair (.int .i64) (.pair (.int .i64) (.pair (.list (.int .i64)) (.pair (.int .i64) (.pair (.int .i64) .str)))))))))
abbrev M_:Type:=Int×Int×Int×Int×Int×Int×List Int×Int×Int×List UInt8
abbrev A0_:Type:=Bool×Int×List UInt8×(Int×Int×Int×Int×Int×Int×List Int×Int×Int×Int×Int×Int×List (Int×Int×Int))×(Int×Int×List (Int×List UInt8)×List (Int×List UInt8)×List (Int×Int×Int×List UInt8×Int)×Int×Int)×Int
abbrev A1_:Type:=List (Int×List UInt8×Bool)×List (List UInt8)×Int×List (List Int)×List (List (List Int×Int))
abbrev A2_:Type:=Int×Int×Int×Int×Int×Int×List Int×Int×Int×Int×Int×Int×List (Int×Int×Int)
abbrev A3_:Type:=Int×Int×List (Int×List UInt8)×List (Int×List UInt8)×List (Int×Int×Int×List UInt8×Int)×Int×Int
abbrev A4_:Type:=Int×Int×Int×Int×Int×Int×List Int×Int×Int×List UInt8
abbrev A5_:Type:=Int×List (List Int)×List (List (List Int×Int))
abbrev A6_:Type:=Int×Int×List UInt8×Int
abbrev T0_:Ty:=.pair .bool (.pair (.int .i64) (.pair .str (.pair (.agg (.pair (.int .i64) (.pair (.int .i64) (.pair (.int .i64) (.pair (.int .i64) (.pair (.int .i64) (.pair (.int .i64) (.pair (.list (.int .i64)) (.pair (.int .i64) (.pair (.int .i64) (.pair (.int .i64) (.pair (.int .i64) (.pair (.int .i64) (.list (.agg (.pair (.int .i64) (.pair (.int .i64) (.int .i64)))))))))))))))))) (.pair (.agg (.pair (.int .i64) (.pair (.int .i64) (.pair (.list (.agg (.pair (.int .i64) .str))) (.pair (.list (.agg (.pair (.int .i64) .str))) (.pair (.list (.agg (.pair (.int .i64) (.pair (.int .i64) (.pair (.int .i64) (.pair .str (.int .i64))))))) (.agg (.pair (.int .i64) (.int .i64))))))))) (.int .i64)))))
abbrev T1_:Ty:=.pair (.int .i64) (.pair (.int .i64) (.pair (.int .i64) (.pair (.int .i64) (.pair (.int .i64) (.pair (.int .i64) (.pair (.list (.int .i64)) (.pair (.int .i64) (.pair (.int .i64) (.pair (.int .i64) (.pair (.int .i64) (.pair (.int .i64) (.list (.agg (.pair (.int .i64) (.pair (.int .i64) (.int .i64))))))))))))))))
abbrev T2_:Ty:=.pair (.list (.agg T0_)) (.pair (.list (.agg (.pair (.int .i64) (.pair .str .bool)))) (.pair (.list .str) (.agg (.pair (.int .i64) (.pair (.list (.list (.int .i64))) (.list (.list (.agg (.pair (.list (.int .i64)) (.int .i64))))))))))
abbrev T3_:Ty:=.pair (.int .i64) (.pair (.int .i64) (.pair (.list (.agg (.pair (.int .i64) .str))) (.pair (.list (.agg (.pair (.int .i64) .str))) (.pair (.list (.agg (.pair (.int .i64) (.pair (.int .i64) (.pair (.int .i64) (.pair .str (.int .i64))))))) (.agg (.pair (.int .i64) (.int .i64)))))))
abbrev T4_:Ty:=.pair (.int .i64) (.pair (.list (.list (.int .i64))) (.list (.list (.agg (.pair (.list (.int .i64)) (.int .i64))))))
abbrev T5_:Ty:=.pair (.int .i64) (.int .i64)
abbrev T6_:Ty:=.pair (.int .i64) (.pair (.int .i64) (.pair (.int .i64) (.pair .str (.int .i64))))
abbrev T7_:Ty:=.list (.agg (.pair (.list (.int .i64)) (.int .i64)))
abbrev T8_:Ty:=.pair (.list (.int .u8)) (.int .i64)
abbrev T9_:Ty:=.agg (.pair (.int .i64) .str)
abbrev T10_:Ty:=.agg (.pair (.int .i64) (.pair .str .bool))
abbrev T11_:Ty:=.agg (.pair (.int .i64) T5_)
abbrev T12_:Ty:=.pair (.int .i64) (.pair (.int .i64) (.pair (.int .i64) (.pair (.int .i64) .str)))
abbrev T13_:Ty:=.pair (.list (.int .u8)) .bool
abbrev P0:Program:=Tryz.prog
def bodyOf (fn:Func):Code:=fn.body.getD .skip
def L0:Lend:=fun f=>aget [] [] f
def kpL (l:List Bool):Nat→Bool:=fun j=>l.getD j true
theorem own:ownKnob Tryz.prog.godebug=none:=by kernel_rfl
theorem laidOut:laidOutB Tryz.prog=true:=by kernel_rfl
theorem mixed:P0.follows .mixedOrders=true:=by decide +kernel
theorem progOk_:progOk P0=true:=by decide +kernel
noncomputable def u_X:Uf:=⟨6,6,Tryz.f6,[.val (.list (.int .u8))],[],
⟨[(2,.ptr 600005 0)],[(600005,.box 70 (.val T8_))]⟩,[],
[],
[],fun y=>(.ptr 2000000 0 0,[],[.box 70 (cellsW T8_ y)])⟩
noncomputable def V_X (N:Nat) (x:List Int):Option (List Int×Int):=
 some (x,(0:Int))
theorem q_X:∀N x,u_X.F L0 P0 (orcOf []) N x=V_X N x:=by intros;kernel_rfl
noncomputable def W_X (N:Nat):=V_X N
theorem con_X_ok (N:Nat):(u_X.con (W_X N)).ok P0:=Uf.ok mixed (q_X N) trivial Tryz.func6 (by kernel_rfl) fun x y=>by kernel_rfl
noncomputable def u_a:Uf:=⟨24,40,Tryz.f24,[.ptr 0 0,.val (.int .i64)],[.box 70 T8_],
⟨[(0,.ptr 1000000 0),(4,.val (.int .i64))],[(1000000,.box 70 (.val T8_))]⟩,[true],
[],
[],fun y=>(valW (.int .i64) y.1,[.box 70 (cellsW T8_ y.2)],[])⟩
noncomputable def V_a (N:Nat) (x:Int×List Int×Int):Option (Int×List Int×Int):=
 cnd (decide ((↑(List.length x.2.1):Int)≤x.2.2)) (some ((0:Int),x.2)) (cnd (decide (x.1<(1:Int))) (some ((0:Int),x.2)) (cnd (decide ((0:Int) ≤
 wr .i64 (wr .i64 (x.2.2+(1:Int))-(1:Int)))&&decide (wr .i64 (wr .i64 (x.2.2+(1:Int))-(1:Int))<(↑(List.length x.2.1):Int))) (cnd
 (!decide (x.1=(0:Int))) (some (Int.tmod (wr .i64 (List.getD x.2.1 (Int.toNat (wr .i64 (wr .i64 (x.2.2+(1:Int))-(1:Int)))) (0:Int))) x.1,
 x.2.1,wr .i64 (x.2.2+(1:Int)))) none) none))
theorem q_a:∀N x,u_a.F L0 P0 (orcOf []) N x=V_a N x:=by intros;kernel_rfl
noncomputable def W_a (N:Nat):=V_a N
theorem con_a_ok (N:Nat):(u_a.con (W_a N)).ok P0:=Uf.ok mixed (q_a N) trivial Tryz.func24 (by kernel_rfl) fun x y=>by kernel_rfl
noncomputable def u_P:Uf:=⟨21,45,Tryz.f21,[.ptr 0 0],[.box 70 T8_],
⟨[(0,.ptr 1000000 0),(2,.val (.list (.list (.int .i64))))],[(1000000,.box 70 (.val T8_))]⟩,[true],
[(3,.unroll 9),
(10,.unroll 9),
(7,.unroll 9)],
[],fun y=>(valW (.list (.list (.int .i64))) y.1,[.box 70 (cellsW T8_ y.2)],[])⟩
noncomputable def V_P (w_a:Int×List Int×Int→Option (Int×List Int×Int)) (N:Nat) (x:List Int×Int):Option (List (List Int)×List Int×Int):=
 obind (w_a ((9:Int),x)) fun b0=>cnd (decide ((0:Int)≤b0.1)) (cnd (decide (b0.1<((↑(9:Nat):Int):Int))) (obind (w_a
 ((9:Int),b0.2)) fun b1=>cnd (decide ((0:Int)≤b1.1)) (cnd (decide (b1.1<((↑(9:Nat):Int):Int))) (obind (w_a ((9:Int),b1.2)) fun
 b2=>cnd (decide ((0:Int)≤b2.1)) (cnd (decide (b2.1<((↑(9:Nat):Int):Int))) (obind (w_a ((9:Int),b2.2)) fun b3=>cnd (decide
 ((0:Int)≤b3.1)) (cnd (decide (b3.1<((↑(9:Nat):Int):Int))) (obind (w_a ((9:Int),b3.2)) fun b4=>cnd (decide ((0:Int)≤b4.1))
 (cnd (decide (b4.1<((↑(9:Nat):Int):Int))) (obind (w_a ((9:Int),b4.2)) fun b5=>cnd (decide ((0:Int)≤b5.1)) (cnd (decide (b5.1 <
 ((↑(9:Nat):Int):Int))) (obind (w_a ((9:Int),b5.2)) fun b6=>cnd (decide ((0:Int)≤b6.1)) (cnd (decide (b6.1<((↑(9:Nat):Int):
 Int))) (obind (w_a ((9:Int),b6.2)) fun b7=>cnd (decide ((0:Int)≤b7.1)) (cnd (decide (b7.1<((↑(9:Nat):Int):Int))) (obind
 (w_a ((9:Int),b7.2)) fun b8=>cnd (decide ((0:Int)≤b8.1)) (cnd (decide (b8.1<((↑(9:Nat):Int):Int))) (obind (w_a
 ((9:Int),b8.2)) fun b9=>cnd (decide ((0:Int)≤b9.1)) (cnd (decide (b9.1<((↑(9:Nat):Int):Int))) (obind (w_a ((9:Int),b9.2)) fun
 b10=>cnd (decide ((0:Int)≤b10.1)) (cnd (decide (b10.1<((↑(9:Nat):Int):Int))) (obind (w_a ((9:Int),b10.2)) fun b11=>cnd
 (decide ((0:Int)≤b11.1)) (cnd (decide (b11.1<((↑(9:Nat):Int):Int))) (obind (w_a ((9:Int),b11.2)) fun b12=>cnd (decide ((0:Int)
 ≤ b12.1)) (cnd (decide (b12.1<((↑(9:Nat):Int):Int))) (obind (w_a ((9:Int),b12.2)) fun b13=>cnd (decide ((0:Int)≤b13.1)) (cnd
 (decide (b13.1<((↑(9:Nat):Int):Int))) (obind (w_a ((9:Int),b13.2)) fun b14=>cnd (decide ((0:Int)≤b14.1)) (cnd (decide (b14.1 <
 ((↑(9:Nat):Int):Int))) (obind (w_a ((9:Int),b14.2)) fun b15=>cnd (decide ((0:Int)≤b15.1)) (cnd (decide (b15.1<((↑(9:Nat):Int)
 : Int))) (obind (w_a ((9:Int),b15.2)) fun b16=>cnd (decide ((0:Int)≤b16.1)) (cnd (decide (b16.1<((↑(9:Nat):Int):Int))) (obind
 (w_a ((9:Int),b16.2)) fun b17=>cnd (decide ((0:Int)≤b17.1)) (cnd (decide (b17.1<((↑(9:Nat):Int):Int))) (obind (w_a
 ((9:Int),b17.2)) fun b18=>cnd (decide ((0:Int)≤b18.1)) (cnd (decide (b18.1<((↑(9:Nat):Int):Int))) (obind (w_a ((9:Int),b18.2))
 fun b19=>cnd (decide ((0:Int)≤b19.1)) (cnd (decide (b19.1<((↑(9:Nat):Int):Int))) (obind (w_a ((9:Int),b19.2)) fun b20=>cnd
 (decide ((0:Int)≤b20.1)) (cnd (decide (b20.1<((↑(9:Nat):Int):Int))) (obind (w_a ((9:Int),b20.2)) fun b21=>cnd (decide ((0:Int)
 ≤ b21.1)) (cnd (decide (b21.1<((↑(9:Nat):Int):Int))) (obind (w_a ((9:Int),b21.2)) fun b22=>cnd (decide ((0:Int)≤b22.1)) (cnd
 (decide (b22.1<((↑(9:Nat):Int):Int))) (obind (w_a ((9:Int),b22.2)) fun b23=>cnd (decide ((0:Int)≤b23.1)) (cnd (decide (b23.1 <
 ((↑(9:Nat):Int):Int))) (obind (w_a ((9:Int),b23.2)) fun b24=>cnd (decide ((0:Int)≤b24.1)) (cnd (decide (b24.1<((↑(9:Nat):Int)
 : Int))) (obind (w_a ((9:Int),b24.2)) fun b25=>cnd (decide ((0:Int)≤b25.1)) (cnd (decide (b25.1<((↑(9:Nat):Int):Int))) (obind
 (w_a ((9:Int),b25.2)) fun b26=>cnd (decide ((0:Int)≤b26.1)) (cnd (decide (b26.1<((↑(9:Nat):Int):Int))) (obind (w_a
 ((9:Int),b26.2)) fun b27=>cnd (decide ((0:Int)≤b27.1)) (cnd (decide (b27.1<((↑(9:Nat):Int):Int))) (some ([[(0:Int),List.getD [(1:Int),
 (2:Int),(3:Int),(5:Int),(9:Int),(9:Int),(20:Int),(1000:Int),(0:Int)] (Int.toNat b0.1) (0:Int),List.getD [(1:Int),(2:Int),(3:Int),(5:Int),
 (9:Int),(9:Int),(20:Int),(1000:Int),(0:Int)] (Int.toNat b1.1) (0:Int),List.getD [(1:Int),(2:Int),(3:Int),(5:Int),(9:Int),(9:Int),
 (20:Int),(1000:Int),(0:Int)] (Int.toNat b3.1) (0:Int),List.getD [(1:Int),(2:Int),(3:Int),(5:Int),(9:Int),(9:Int),(20:Int),(1000:Int),
 (0:Int)] (Int.toNat b6.1) (0:Int),List.getD [(1:Int),(2:Int),(3:Int),(5:Int),(9:Int),(9:Int),(20:Int),(1000:Int),(0:Int)] (Int.toNat b10.1)
 (0:Int),List.getD [(1:Int),(2:Int),(3:Int),(5:Int),(9:Int),(9:Int),(20:Int),(1000:Int),(0:Int)] (Int.toNat b15.1) (0:Int),List.getD
 [(1:Int),(2:Int),(3:Int),(5:Int),(9:Int),(9:Int),(20:Int),(1000:Int),(0:Int)] (Int.toNat b21.1) (0:Int)],[List.getD [(1:Int),(2:Int),
 (3:Int),(5:Int),(9:Int),(9:Int),(20:Int),(1000:Int),(0:Int)] (Int.toNat b0.1) (0:Int),(0:Int),List.getD [(1:Int),(2:Int),(3:Int),(5:Int),
 (9:Int),(9:Int),(20:Int),(1000:Int),(0:Int)] (Int.toNat b2.1) (0:Int),List.getD [(1:Int),(2:Int),(3:Int),(5:Int),(9:Int),(9:Int),
 (20:Int),(1000:Int),(0:Int)] (Int.toNat b4.1) (0:Int),List.getD [(1:Int),(2:Int),(3:Int),(5:Int),(9:Int),(9:Int),(20:Int),(1000:Int),
 (0:Int)] (Int.toNat b7.1) (0:Int),List.getD [(1:Int),(2:Int),(3:Int),(5:Int),(9:Int),(9:Int),(20:Int),(1000:Int),(0:Int)] (Int.toNat b11.1)
 (0:Int),List.getD [(1:Int),(2:Int),(3:Int),(5:Int),(9:Int),(9:Int),(20:Int),(1000:Int),(0:Int)] (Int.toNat b16.1) (0:Int),List.getD
 [(1:Int),(2:Int),(3:Int),(5:Int),(9:Int),(9:Int),(20:Int),(1000:Int),(0:Int)] (Int.toNat b22.1) (0:Int)],[List.getD [(1:Int),(2:Int),
 (3:Int),(5:Int),(9:Int),(9:Int),(20:Int),(1000:Int),(0:Int)] (Int.toNat b1.1) (0:Int),List.getD [(1:Int),(2:Int),(3:Int),(5:Int),(9:Int),
 (9:Int),(20:Int),(1000:Int),(0:Int)] (Int.toNat b2.1) (0:Int),(0:Int),List.getD [(1:Int),(2:Int),(3:Int),(5:Int),(9:Int),(9:Int),
 (20:Int),(1000:Int),(0:Int)] (Int.toNat b5.1) (0:Int),List.getD [(1:Int),(2:Int),(3:Int),(5:Int),(9:Int),(9:Int),(20:Int),(1000:Int),
 (0:Int)] (Int.toNat b8.1) (0:Int),List.getD [(1:Int),(2:Int),(3:Int),(5:Int),(9:Int),(9:Int),(20:Int),(1000:Int),(0:Int)] (Int.toNat b12.1)
 (0:Int),List.getD [(1:Int),(2:Int),(3:Int),(5:Int),(9:Int),(9:Int),(20:Int),(1000:Int),(0:Int)] (Int.toNat b17.1) (0:Int),List.getD
 [(1:Int),(2:Int),(3:Int),(5:Int),(9:Int),(9:Int),(20:Int),(1000:Int),(0:Int)] (Int.toNat b23.1) (0:Int)],[List.getD [(1:Int),(2:Int),
 (3:Int),(5:Int),(9:Int),(9:Int),(20:Int),(1000:Int),(0:Int)] (Int.toNat b3.1) (0:Int),List.getD [(1:Int),(2:Int),(3:Int),(5:Int),(9:Int),
 (9:Int),(20:Int),(1000:Int),(0:Int)] (Int.toNat b4.1) (0:Int),List.getD [(1:Int),(2:Int),(3:Int),(5:Int),(9:Int),(9:Int),(20:Int),
 (1000:Int),(0:Int)] (Int.toNat b5.1) (0:Int),(0:Int),List.getD [(1:Int),(2:Int),(3:Int),(5:Int),(9:Int),(9:Int),(20:Int),(1000:Int),
 (0:Int)] (Int.toNat b9.1) (0:Int),List.getD [(1:Int),(2:Int),(3:Int),(5:Int),(9:Int),(9:Int),(20:Int),(1000:Int),(0:Int)] (Int.toNat b13.1)
 (0:Int),List.getD [(1:Int),(2:Int),(3:Int),(5:Int),(9:Int),(9:Int),(20:Int),(1000:Int),(0:Int)] (Int.toNat b18.1) (0:Int),List.getD
 [(1:Int),(2:Int),(3:Int),(5:Int),(9:Int),(9:Int),(20:Int),(1000:Int),(0:Int)] (Int.toNat b24.1) (0:Int)],[List.getD [(1:Int),(2:Int),
 (3:Int),(5:Int),(9:Int),(9:Int),(20:Int),(1000:Int),(0:Int)] (Int.toNat b6.1) (0:Int),List.getD [(1:Int),(2:Int),(3:Int),(5:Int),(9:Int),
 (9:Int),(20:Int),(1000:Int),(0:Int)] (Int.toNat b7.1) (0:Int),List.getD [(1:Int),(2:Int),(3:Int),(5:Int),(9:Int),(9:Int),(20:Int),
 (1000:Int),(0:Int)] (Int.toNat b8.1) (0:Int),List.getD [(1:Int),(2:Int),(3:Int),(5:Int),(9:Int),(9:Int),(20:Int),(1000:Int),(0:Int)]
 (Int.toNat b9.1) (0:Int),(0:Int),List.getD [(1:Int),(2:Int),(3:Int),(5:Int),(9:Int),(9:Int),(20:Int),(1000:Int),(0:Int)] (Int.toNat b14.1)
 (0:Int),List.getD [(1:Int),(2:Int),(3:Int),(5:Int),(9:Int),(9:Int),(20:Int),(1000:Int),(0:Int)] (Int.toNat b19.1) (0:Int),List.getD
 [(1:Int),(2:Int),(3:Int),(5:Int),(9:Int),(9:Int),(20:Int),(1000:Int),(0:Int)] (Int.toNat b25.1) (0:Int)],[List.getD [(1:Int),(2:Int),
 (3:Int),(5:Int),(9:Int),(9:Int),(20:Int),(1000:Int),(0:Int)] (Int.toNat b10.1) (0:Int),List.getD [(1:Int),(2:Int),(3:Int),(5:Int),
 (9:Int),(9:Int),(20:Int),(1000:Int),(0:Int)] (Int.toNat b11.1) (0:Int),List.getD [(1:Int),(2:Int),(3:Int),(5:Int),(9:Int),(9:Int),
 (20:Int),(1000:Int),(0:Int)] (Int.toNat b12.1) (0:Int),List.getD [(1:Int),(2:Int),(3:Int),(5:Int),(9:Int),(9:Int),(20:Int),(1000:Int),
 (0:Int)] (Int.toNat b13.1) (0:Int),List.getD [(1:Int),(2:Int),(3:Int),(5:Int),(9:Int),(9:Int),(20:Int),(1000:Int),(0:Int)] (Int.toNat
 b14.1) (0:Int),(0:Int),List.getD [(1:Int),(2:Int),(3:Int),(5:Int),(9:Int),(9:Int),(20:Int),(1000:Int),(0:Int)] (Int.toNat b20.1) (0:Int),
 List.getD [(1:Int),(2:Int),(3:Int),(5:Int),(9:Int),(9:Int),(20:Int),(1000:Int),(0:Int)] (Int.toNat b26.1) (0:Int)],[List.getD [(1:Int),
 (2:Int),(3:Int),(5:Int),(9:Int),(9:Int),(20:Int),(1000:Int),(0:Int)] (Int.toNat b15.1) (0:Int),List.getD [(1:Int),(2:Int),(3:Int),
 (5:Int),(9:Int),(9:Int),(20:Int),(1000:Int),(0:Int)] (Int.toNat b16.1) (0:Int),List.getD [(1:Int),(2:Int),(3:Int),(5:Int),(9:Int),
 (9:Int),(20:Int),(1000:Int),(0:Int)] (Int.toNat b17.1) (0:Int),List.getD [(1:Int),(2:Int),(3:Int),(5:Int),(9:Int),(9:Int),(20:Int),
 (1000:Int),(0:Int)] (Int.toNat b18.1) (0:Int),List.getD [(1:Int),(2:Int),(3:Int),(5:Int),(9:Int),(9:Int),(20:Int),(1000:Int),(0:Int)]
 (Int.toNat b19.1) (0:Int),List.getD [(1:Int),(2:Int),(3:Int),(5:Int),(9:Int),(9:Int),(20:Int),(1000:Int),(0:Int)] (Int.toNat b20.1)
 (0:Int),(0:Int),List.getD [(1:Int),(2:Int),(3:Int),(5:Int),(9:Int),(9:Int),(20:Int),(1000:Int),(0:Int)] (Int.toNat b27.1) (0:Int)],
 [List.getD [(1:Int),(2:Int),(3:Int),(5:Int),(9:Int),(9:Int),(20:Int),(1000:Int),(0:Int)] (Int.toNat b21.1) (0:Int),List.getD [(1:Int),
 (2:Int),(3:Int),(5:Int),(9:Int),(9:Int),(20:Int),(1000:Int),(0:Int)] (Int.toNat b22.1) (0:Int),List.getD [(1:Int),(2:Int),(3:Int),
 (5:Int),(9:Int),(9:Int),(20:Int),(1000:Int),(0:Int)] (Int.toNat b23.1) (0:Int),List.getD [(1:Int),(2:Int),(3:Int),(5:Int),(9:Int),
 (9:Int),(20:Int),(1000:Int),(0:Int)] (Int.toNat b24.1) (0:Int),List.getD [(1:Int),(2:Int),(3:Int),(5:Int),(9:Int),(9:Int),(20:Int),
 (1000:Int),(0:Int)] (Int.toNat b25.1) (0:Int),List.getD [(1:Int),(2:Int),(3:Int),(5:Int),(9:Int),(9:Int),(20:Int),(1000:Int),(0:Int)]
 (Int.toNat b26.1) (0:Int),List.getD [(1:Int),(2:Int),(3:Int),(5:Int),(9:Int),(9:Int),(20:Int),(1000:Int),(0:Int)] (Int.toNat b27.1)
 (0:Int),(0:Int)]],b27.2)) none) none) none) none) none) none) none) none) none) none) none) none) none) none) none) none) none) none) none) none)
 none) none) none) none) none) none) none) none) none) none) none) none) none) none) none) none) none) none) none) none) none) none) none) none)
 none) none) none) none) none) none) none) none) none) none) none) none
theorem q_P:∀w_a N x,u_P.F L0 P0 (orcOf [u_a.con w_a]) N x=V_P w_a N x:=by intros;kernel_rfl
noncomputable def W_P (N:Nat):=V_P (W_a N) N
theorem con_P_ok (N:Nat):(u_P.con (W_P N)).ok P0:=Uf.ok mixed (q_P (W_a N) N) ⟨con_a_ok N,trivial⟩ Tryz.func21 (by kernel_rfl) fun x y=>by kernel_rfl
noncomputable def u_o:Uf:=⟨54,83,Tryz.f54,[.val (.list (.list (.int .i64)))],[],
⟨[(2,.val .bool)],[]⟩,[],
[(4,.loop [] ⟨[(3,.val (.int .i64))],[]⟩ [(.exit 0,⟨[],[]⟩),(.ret,⟨[(2,.val .bool)],[]⟩)]),
(12,.loop [] ⟨[(5,.val (.int .i64))],[]⟩ [(.exit 4,⟨[],[]⟩),(.ret,⟨[(2,.val .bool)],[]⟩)]),
(9,.loop [] ⟨[(4,.val (.int .i64))],[]⟩ [(.exit 2,⟨[],[]⟩),(.ret,⟨[(2,.val .bool)],[]⟩)])],
[],fun y=>(valW .bool y,[],[])⟩
noncomputable def V_o (N:Nat) (x:List (List Int)):Option (Bool):=
 cnd (decide ((↑(List.length x):Int)≠(8:Int))) (some false) (obind (loopN N (fun(v:Int)=>cnd (decide (v<(↑(List.length x):Int))) (cnd
 (decide ((0:Int)≤v)&&decide (v<(↑(List.length x):Int))) (cnd (decide ((↑(List.length (List.getD x (Int.toNat v) [])):Int)≠(8:Int)))
 (some (Sum.inr (Sum.inr false))) (some (Sum.inl (wr .i64 (v+(1:Int)))))) none) (some (Sum.inr (Sum.inl ())))) (Int.ofNat (0:Nat))) fun(b:PUnit
 ⊕ Bool)=>selim (fun(b:PUnit)=>obind (loopN N (fun(v:Int)=>cnd (decide (v<(↑(List.length x):Int))) (obind (loopN N (fun(v_1:Int)
 => cnd (decide (v_1<(↑(List.length x):Int))) (cnd (decide ((0:Int)≤v)&&decide (v<(↑(List.length x):Int))) (cnd (decide ((0:Int)≤v_1)
 && decide (v_1<(↑(List.length (List.getD x (Int.toNat v) [])):Int))) (cnd (decide (List.getD (List.getD x (Int.toNat v) []) (Int.toNat v_1)
 (0:Int)<(0:Int))) (some (Sum.inr (Sum.inr false))) (cnd (decide ((0:Int)≤v)&&decide (v<(↑(List.length x):Int))) (cnd (decide ((0:Int) ≤
 v_1)&&decide (v_1<(↑(List.length (List.getD x (Int.toNat v) [])):Int))) (cnd (decide ((1000:Int)<List.getD (List.getD x (Int.toNat v) [])
 (Int.toNat v_1) (0:Int))) (some (Sum.inr (Sum.inr false))) (cnd (decide ((0:Int)≤v)&&decide (v<(↑(List.length x):Int))) (cnd (decide
 ((0:Int)≤v_1)&&decide (v_1<(↑(List.length (List.getD x (Int.toNat v) [])):Int))) (cnd (decide ((0:Int)≤v_1)&&decide (v_1 <
 (↑(List.length x):Int))) (cnd (decide ((0:Int)≤v)&&decide (v<(↑(List.length (List.getD x (Int.toNat v_1) [])):Int))) (cnd (decide
 (List.getD (List.getD x (Int.toNat v) []) (Int.toNat v_1) (0:Int)≠List.getD (List.getD x (Int.toNat v_1) []) (Int.toNat v) (0:Int))) (some
 (Sum.inr (Sum.inr false))) (cnd (decide (v=v_1)) (cnd (decide ((0:Int)≤v)&&decide (v<(↑(List.length x):Int))) (cnd (decide ((0:Int)≤v_1)
 && decide (v_1<(↑(List.length (List.getD x (Int.toNat v) [])):Int))) (cnd (decide (List.getD (List.getD x (Int.toNat v) []) (Int.toNat v_1)
 (0:Int)≠(0:Int))) (some (Sum.inr (Sum.inr false))) (some (Sum.inl (wr .i64 (v_1+(1:Int)))))) none) none) (some (Sum.inl (wr .i64 (v_1 +
 (1:Int))))))) none) none) none) none)) none) none)) none) none) (some (Sum.inr (Sum.inl ())))) (Int.ofNat (0:Nat))) fun(b:PUnit⊕Bool)=>selim
 (fun(b:PUnit)=>some (Sum.inl (wr .i64 (v+(1:Int))))) (fun(c:Bool)=>some (Sum.inr (Sum.inr c))) b) (some (Sum.inr (Sum.inl ()))))
 (Int.ofNat (0:Nat))) fun(b:PUnit⊕Bool)=>selim (fun(b:PUnit)=>some true) (fun(c:Bool)=>some c) b) (fun(c:Bool)=>some c) b)
theorem q_o:∀N x,u_o.F L0 P0 (orcOf []) N x=V_o N x:=by intros;kernel_rfl
noncomputable def W_o (N:Nat):=V_o N
theorem con_o_ok (N:Nat):(u_o.con (W_o N)).ok P0:=Uf.ok mixed (q_o N) trivial Tryz.func54 (by kernel_rfl) fun x y=>by kernel_rfl
noncomputable def u_a0:Uf:=⟨38,40,Tryz.f38,[.val (.list (.list (.int .i64))),.val (.int .i64)],[],
⟨[(4,.ptr 600004 0),(5,.val .bool)],[(600004,.box 30 (.val T4_))]⟩,[],
[(5,.loop [] ⟨[(4,.ptr 600004 0),(6,.ptr 600006 0),(7,.val (.int .i64))],[(600004,.box 30 (.val T4_)),(600006,.box 30 (.pair (.val (.int .i64)) (.pair (.acc 602006) (.val (.list T7_))))),(602006,.nrow 43 (.list (.int .i64)) false true)]⟩ [(.exit 0,⟨[(4,.ptr 600004 0),(6,.ptr 600006 0)],[(600004,.box 30 (.val T4_)),(600006,.box 30 (.pair (.val (.int .i64)) (.pair (.acc 602006) (.val (.list T7_))))),(602006,.nrow 43 (.list (.int .i64)) false true)]⟩)])],
[(1000001,.reg [(7,[],⟨[(4,.ptr 600004 0),(14,.val .bool)],[(600004,.box 30 (.val T4_))]⟩)])],fun y=>(.tup [valW (.agg T4_) y.2,valW .bool y.1],[],[])⟩
noncomputable def V_a0 (w_o:List (List Int)→Option (Bool)) (N:Nat) (x:List (List Int)×Int):Option (Bool×A5_):=
 obind (obind (w_o x.1) fun b=>cnd (!b) (some (true,(0:Int),[],[])) (some (decide (x.2<(1:Int)),(0:Int),[],[]))) fun(b:Bool×A5_)=>cnd b.1 (some (false,(0:Int),[],[])) (cnd (decide ((3:Int)<x.2)) (some (false,
 (0:Int),[],[])) (obind (loopN N (fun(v:Int×A5_×Int×List (List (List Int×Int))×List (List Int))=>cnd (decide (v.1<(↑(List.length x.1):Int))) (cnd (decide ((0:Int)≤v.1)&&decide (v.1<(↑(List.length x.1):Int))) (cnd
 (decide (List.length (List.getD x.1 (Int.toNat v.1) [])*(8:Nat)≤(140737488355328:Nat))) (cnd (decide ((List.length v.2.2.2.2+(1:Nat)) *
 (24:Nat)≤(140737488355328:Nat))) (some (Sum.inl (wr .i64 (v.1+(1:Int)),v.2.1,v.2.2.1,v.2.2.2.1,v.2.2.2.2++[List.getD x.1 (Int.toNat v.1)
 []]))) none) none) none) (some (Sum.inr v.2))) ((0:Int),b.2,x.2,[],[])) fun(b:A5_×Int×List (List (List Int×Int))×List (List Int))=>some (true,b.2.1,b.2.2.2,b.2.2.1)))
theorem q_a0:∀w_o N x,u_a0.F L0 P0 (orcOf [u_o.con w_o]) N x=V_a0 w_o N x:=by intros;kernel_rfl
noncomputable def W_a0 (N:Nat):=V_a0 (W_o N) N
theorem con_a0_ok (N:Nat):(u_a0.con (W_a0 N)).ok P0:=Uf.ok mixed (q_a0 (W_o N) N) ⟨con_o_ok N,trivial⟩ Tryz.func38 (by kernel_rfl) fun x y=>by kernel_rfl
noncomputable def u_c:Uf:=⟨73,18,Tryz.f73,[.val (.list (.int .i64)),.val (.int .i64)],[],
⟨[(4,.val .bool)],[]⟩,[],
[(2,.loop [] ⟨[(5,.val (.int .i64))],[]⟩ [(.exit 0,⟨[],[]⟩),(.ret,⟨[(4,.val .bool)],[]⟩)])],
[],fun y=>(valW .bool y,[],[])⟩
noncomputable def V_c (N:Nat) (x:List Int×Int):Option (Bool):=
 obind (loopN N (fun(v:Int)=>cnd (decide (v<(↑(List.length x.1):Int))) (cnd (decide ((0:Int)≤v)&&decide (v<(↑(List.length x.1):Int)))
 (cnd (decide (List.getD x.1 (Int.toNat v) (0:Int)=x.2)) (some (Sum.inr (Sum.inr true))) (some (Sum.inl (wr .i64 (v+(1:Int)))))) none) (some
 (Sum.inr (Sum.inl ())))) (Int.ofNat (0:Nat))) fun(b:PUnit⊕Bool)=>selim (fun(b:PUnit)=>some false) (fun(c:Bool)=>some c) b
theorem q_c:∀N x,u_c.F L0 P0 (orcOf []) N x=V_c N x:=by intros;kernel_rfl
noncomputable def W_c (N:Nat):=V_c N
theorem con_c_ok (N:Nat):(u_c.con (W_c N)).ok P0:=Uf.ok mixed (q_c N) trivial Tryz.func73 (by kernel_rfl) fun x y=>by kernel_rfl
noncomputable def u_d:Uf:=⟨55,20,Tryz.f55,[.val T7_,.val (.int .i64)],[],
⟨[(4,.val (.int .i64))],[]⟩,[],
[(2,.loop [] ⟨[(5,.val (.int .i64))],[]⟩ [(.exit 0,⟨[],[]⟩),(.ret,⟨[(4,.val (.int .i64))],[]⟩)])],
[],fun y=>(valW (.int .i64) y,[],[])⟩
noncomputable def V_d (w_c:List Int×Int→Option (Bool)) (N:Nat) (x:List (List Int×Int)×Int):Option (Int):=
 obind (loopN N (fun(v:Int)=>cnd (decide (v<(↑(List.length x.1):Int))) (cnd (decide ((0:Int)≤v)&&decide (v<(↑(List.length x.1):Int)))
 (obind (w_c (Prod.fst (List.getD x.1 (Int.toNat v) ([],(0:Int))),x.2)) fun b=>cnd b (some (Sum.inr (Sum.inr v))) (some (Sum.inl (wr
 .i64 (v+(1:Int)))))) none) (some (Sum.inr (Sum.inl ())))) (Int.ofNat (0:Nat))) fun(b:PUnit⊕Int)=>selim (fun(b:PUnit)=>some (-1:Int))
 (fun(c:Int)=>some c) b
theorem q_d:∀w_c N x,u_d.F L0 P0 (orcOf [u_c.con w_c]) N x=V_d w_c N x:=by intros;kernel_rfl
noncomputable def W_d (N:Nat):=V_d (W_c N) N
theorem con_d_ok (N:Nat):(u_d.con (W_d N)).ok P0:=Uf.ok mixed (q_d (W_c N) N) ⟨con_c_ok N,trivial⟩ Tryz.func55 (by kernel_rfl) fun x y=>by kernel_rfl
noncomputable def u_k:Uf:=⟨56,48,Tryz.f56,[.val (.list (.list (.int .i64))),.val (.int .i64),.val (.list (.int .i64))],[],
⟨[(6,.val (.int .i64))],[]⟩,[],
[(3,.loop [] ⟨[(7,.val (.int .i64)),(8,.val (.int .i64))],[]⟩ [(.exit 0,⟨[(7,.val (.int .i64))],[]⟩)])],
[],fun y=>(valW (.int .i64) y,[],[])⟩
noncomputable def V_k (w_c:List Int×Int→Option (Bool)) (N:Nat) (x:List (List Int)×Int×List Int):Option (Int):=
 obind (loopN N (fun(v:Int×Int)=>cnd (decide (v.2≤(8:Int))) (cnd (decide (v.2≠x.2.1)) (obind (w_c (x.2.2,v.2)) fun b=>cnd b (cnd
 (decide (v.1=(0:Int))) (some (Sum.inl (v.2,wr .i64 (v.2+(1:Int))))) (cnd (decide ((0:Int)≤wr .i64 (x.2.1-(1:Int)))&&decide (wr .i64
 (x.2.1-(1:Int))<(↑(List.length x.1):Int))) (cnd (decide ((0:Int)≤wr .i64 (v.2-(1:Int)))&&decide (wr .i64 (v.2-(1:Int)) <
 (↑(List.length (List.getD x.1 (Int.toNat (wr .i64 (x.2.1-(1:Int)))) [])):Int))) (cnd (decide ((0:Int)≤wr .i64 (x.2.1-(1:Int)))&&decide (wr
 .i64 (x.2.1-(1:Int))<(↑(List.length x.1):Int))) (cnd (decide ((0:Int)≤wr .i64 (v.1-(1:Int)))&&decide (wr .i64 (v.1-(1:Int)) <
 (↑(List.length (List.getD x.1 (Int.toNat (wr .i64 (x.2.1-(1:Int)))) [])):Int))) (cnd (decide (List.getD (List.getD x.1 (Int.toNat (wr .i64
 (x.2.1-(1:Int)))) []) (Int.toNat (wr .i64 (v.2-(1:Int)))) (0:Int)<List.getD (List.getD x.1 (Int.toNat (wr .i64 (x.2.1-(1:Int)))) [])
 (Int.toNat (wr .i64 (v.1-(1:Int)))) (0:Int))) (some (Sum.inl (v.2,wr .i64 (v.2+(1:Int))))) (some (Sum.inl (v.1,wr .i64 (v.2+(1:Int))))))
 none) none) none) none)) (some (Sum.inl (v.1,wr .i64 (v.2+(1:Int)))))) (some (Sum.inl (v.1,wr .i64 (v.2+(1:Int)))))) (some (Sum.inr v.1)))
 ((0:Int),(1:Int))) fun(b:Int)=>some b
theorem q_k:∀w_c N x,u_k.F L0 P0 (orcOf [u_c.con w_c]) N x=V_k w_c N x:=by intros;kernel_rfl
noncomputable def W_k (N:Nat):=V_k (W_c N) N
theorem con_k_ok (N:Nat):(u_k.con (W_k N)).ok P0:=Uf.ok mixed (q_k (W_c N) N) ⟨con_c_ok N,trivial⟩ Tryz.func56 (by kernel_rfl) fun x y=>by kernel_rfl
noncomputable def u_at:Uf:=⟨125,30,Tryz.f125,[.val (.list (.list (.int .i64))),.val (.int .i64),.val (.list (.int .i64))],[],
⟨[(6,.val (.int .i64))],[]⟩,[],
[(3,.loop [] ⟨[(7,.val (.int .i64)),(8,.val (.int .i64))],[]⟩ [(.exit 0,⟨[(7,.val (.int .i64))],[]⟩)])],
[],fun y=>(valW (.int .i64) y,[],[])⟩
noncomputable def V_at (N:Nat) (x:List (List Int)×Int×List Int):Option (Int):=
 obind (loopN N (fun(v:Int×Int)=>cnd (decide (v.2<(↑(List.length x.2.2):Int))) (cnd (decide ((0:Int)≤wr .i64 (x.2.1-(1:Int)))&&decide
 (wr .i64 (x.2.1-(1:Int))<(↑(List.length x.1):Int))) (cnd (decide ((0:Int)≤v.2)&&decide (v.2<(↑(List.length x.2.2):Int))) (cnd (decide
 ((0:Int)≤wr .i64 (List.getD x.2.2 (Int.toNat v.2) (0:Int)-(1:Int)))&&decide (wr .i64 (List.getD x.2.2 (Int.toNat v.2) (0:Int)-(1:Int)) <
 (↑(List.length (List.getD x.1 (Int.toNat (wr .i64 (x.2.1-(1:Int)))) [])):Int))) (some (Sum.inl (max v.1 (List.getD (List.getD x.1 (Int.toNat (wr
 .i64 (x.2.1-(1:Int)))) []) (Int.toNat (wr .i64 (List.getD x.2.2 (Int.toNat v.2) (0:Int)-(1:Int)))) (0:Int)),wr .i64 (v.2+(1:Int))))) none)
 none) none) (some (Sum.inr v.1))) ((0:Int),(0:Int))) fun(b:Int)=>some b
theorem q_at:∀N x,u_at.F L0 P0 (orcOf []) N x=V_at N x:=by intros;kernel_rfl
noncomputable def W_at (N:Nat):=V_at N
theorem con_at_ok (N:Nat):(u_at.con (W_at N)).ok P0:=Uf.ok mixed (q_at N) trivial Tryz.func125 (by kernel_rfl) fun x y=>by kernel_rfl
noncomputable def u_a3:Uf:=⟨99,31,Tryz.f99,[.val (.list (.list (.int .i64))),.val (.list (.int .i64))],[],
⟨[(4,.val (.int .i64))],[]⟩,[],
[(3,.loop [] ⟨[(5,.val (.int .i64)),(6,.val (.int .i64))],[]⟩ [(.exit 0,⟨[(5,.val (.int .i64))],[]⟩)])],
[],fun y=>(valW (.int .i64) y,[],[])⟩
noncomputable def V_a3 (w_c:List Int×Int→Option (Bool)) (w_at:List (List Int)×Int×List Int→Option (Int)) (N:Nat) (x:List (List Int)×List Int):Option (Int):=
 obind (loopN N (fun(v:Int×Int)=>cnd (decide (v.2≤(8:Int))) (obind (w_c (x.2,v.2)) fun b=>cnd b (cnd (decide (v.1=(0:Int)))
 (some (Sum.inl (v.2,wr .i64 (v.2+(1:Int))))) (obind (w_at (x.1,v.2,x.2)) fun b=>obind (w_at (x.1,v.1,x.2)) fun b_1=>cnd
 (decide (b<b_1)) (some (Sum.inl (v.2,wr .i64 (v.2+(1:Int))))) (some (Sum.inl (v.1,wr .i64 (v.2+(1:Int))))))) (some (Sum.inl (v.1,wr .i64
 (v.2+(1:Int)))))) (some (Sum.inr v.1))) ((0:Int),(1:Int))) fun(b:Int)=>some b
theorem q_a3:∀w_c w_at N x,u_a3.F L0 P0 (orcOf [u_c.con w_c,u_at.con w_at]) N x=V_a3 w_c w_at N x:=by intros;kernel_rfl
noncomputable def W_a3 (N:Nat):=V_a3 (W_c N) (W_at N) N
theorem con_a3_ok (N:Nat):(u_a3.con (W_a3 N)).ok P0:=Uf.ok mixed (q_a3 (W_c N) (W_at N) N) ⟨con_c_ok N,con_at_ok N,trivial⟩ Tryz.func99 (by kernel_rfl) fun x y=>by kernel_rfl
noncomputable def u_g:Uf:=⟨76,12,Tryz.f76,[.val (.list (.list (.int .i64))),.val (.list (.int .i64))],[],
⟨[(4,.ptr 600004 0)],[(600004,.box 119 (.val (.pair (.list (.int .i64)) (.int .i64))))]⟩,[],
[],
[],fun y=>(valW (.agg (.pair (.list (.int .i64)) (.int .i64))) y,[],[])⟩
noncomputable def V_g (w_a3:List (List Int)×List Int→Option (Int)) (N:Nat) (x:List (List Int)×List Int):Option (List Int×Int):=
 cnd (decide (List.length x.2*(8:Nat)≤(140737488355328:Nat))) (obind (w_a3 x) fun b=>some (x.2,b)) none
theorem q_g:∀w_a3 N x,u_g.F L0 P0 (orcOf [u_a3.con w_a3]) N x=V_g w_a3 N x:=by intros;kernel_rfl
noncomputable def W_g (N:Nat):=V_g (W_a3 N) N
theorem con_g_ok (N:Nat):(u_g.con (W_g N)).ok P0:=Uf.ok mixed (q_g (W_a3 N) N) ⟨con_a3_ok N,trivial⟩ Tryz.func76 (by kernel_rfl) fun x y=>by kernel_rfl
noncomputable def u_f:Uf:=⟨77,17,Tryz.f77,[.val (.list (.int .i64))],[],
⟨[(2,.acc 700003)],[(700003,.nrow 3 (.int .i64) true true)]⟩,[],
[(3,.loop [] ⟨[(3,.acc 700003),(4,.val (.int .i64))],[(700003,.nrow 3 (.int .i64) true true)]⟩ [(.exit 0,⟨[(3,.acc 700003)],[(700003,.nrow 3 (.int .i64) true true)]⟩)])],
[],fun y=>(.acc 2000000 0,[],[.nrow 3 true true ⟨(.int .i64),y⟩])⟩
noncomputable def V_f (w_c:List Int×Int→Option (Bool)) (N:Nat) (x:List Int):Option (List Int):=
 obind (loopN N (fun(v:Int×List Int)=>cnd (decide (v.1≤(8:Int))) (obind (w_c (x,v.1)) fun b=>cnd b (cnd (decide ((List.length v.2
 + List.length [v.1])*(8:Nat)≤(140737488355328:Nat))) (some (Sum.inl (wr .i64 (v.1+(1:Int)),v.2++[v.1]))) none) (some (Sum.inl (wr .i64 (v.1
 + (1:Int)),v.2)))) (some (Sum.inr v.2))) ((1:Int),[])) fun(b:List Int)=>some b
theorem q_f:∀w_c N x,u_f.F L0 P0 (orcOf [u_c.con w_c]) N x=V_f w_c N x:=by intros;kernel_rfl
noncomputable def W_f (N:Nat):=V_f (W_c N) N
theorem con_f_ok (N:Nat):(u_f.con (W_f N)).ok P0:=Uf.ok mixed (q_f (W_c N) N) ⟨con_c_ok N,trivial⟩ Tryz.func77 (by kernel_rfl) fun x y=>by kernel_rfl
noncomputable def u_u:Uf:=⟨111,27,Tryz.f111,[.val (.list (.int .i64)),.val (.int .i64)],[],
⟨[(4,.acc 700005)],[(700005,.nrow 3 (.int .i64) true true)]⟩,[],
[(3,.loop [] ⟨[(5,.acc 700005),(6,.val (.int .i64))],[(700005,.nrow 3 (.int .i64) true true)]⟩ [(.exit 0,⟨[(5,.acc 700005)],[(700005,.nrow 3 (.int .i64) true true)]⟩)])],
[],fun y=>(.acc 2000000 0,[],[.nrow 3 true true ⟨(.int .i64),y⟩])⟩
noncomputable def V_u (N:Nat) (x:List Int×Int):Option (List Int):=
 obind (loopN N (fun(v:Int×List Int)=>cnd (decide (v.1<(↑(List.length x.1):Int))) (cnd (decide ((0:Int)≤v.1)&&decide (v.1 <
 (↑(List.length x.1):Int))) (cnd (decide (List.getD x.1 (Int.toNat v.1) (0:Int)≠x.2)) (cnd (decide ((0:Int)≤v.1)&&decide (v.1 <
 (↑(List.length x.1):Int))) (cnd (decide ((List.length v.2+List.length [List.getD x.1 (Int.toNat v.1) (0:Int)])*(8:Nat) ≤
 (140737488355328:Nat))) (some (Sum.inl (wr .i64 (v.1+(1:Int)),v.2++[List.getD x.1 (Int.toNat v.1) (0:Int)]))) none) none) (some (Sum.inl (wr
 .i64 (v.1+(1:Int)),v.2)))) none) (some (Sum.inr v.2))) ((0:Int),[])) fun(b:List Int)=>some b
theorem q_u:∀N x,u_u.F L0 P0 (orcOf []) N x=V_u N x:=by intros;kernel_rfl
noncomputable def W_u (N:Nat):=V_u N
theorem con_u_ok (N:Nat):(u_u.con (W_u N)).ok P0:=Uf.ok mixed (q_u N) trivial Tryz.func111 (by kernel_rfl) fun x y=>by kernel_rfl
noncomputable def u_ap:Uf:=⟨100,172,Tryz.f100,[.val (.list (.list (.int .i64))),.val (.list (.int .i64)),.val (.int .i64)],[],
⟨[(6,.val (.list (.int .i64))),(7,.val (.list (.int .i64)))],[]⟩,[],
[(8,.loop [] ⟨[(8,.val (.int .i64)),(9,.val (.int .i64)),(11,.val (.int .i64))],[]⟩ [(.exit 2,⟨[(8,.val (.int .i64)),(9,.val (.int .i64))],[]⟩)]),
(5,.loop [] ⟨[(8,.val (.int .i64)),(9,.val (.int .i64)),(10,.val (.int .i64))],[]⟩ [(.exit 0,⟨[(8,.val (.int .i64)),(9,.val (.int .i64))],[]⟩)]),
(14,.loop [] ⟨[(12,.acc 700169),(13,.acc 700166),(14,.val (.int .i64))],[(700169,.nrow 3 (.int .i64) true true),(700166,.nrow 3 (.int .i64) true true)]⟩ [(.exit 4,⟨[(12,.acc 700169),(13,.acc 700166)],[(700169,.nrow 3 (.int .i64) true true),(700166,.nrow 3 (.int .i64) true true)]⟩)]),
(20,.loop [] ⟨[(12,.acc 700169),(13,.acc 700166)],[(700169,.nrow 3 (.int .i64) true true),(700166,.nrow 3 (.int .i64) true true)]⟩ [(.exit 6,⟨[(12,.val (.list (.int .i64))),(13,.acc 700166)],[(700166,.nrow 3 (.int .i64) true true)]⟩)]),
(23,.loop [] ⟨[(12,.val (.list (.int .i64))),(13,.acc 700166)],[(700166,.nrow 3 (.int .i64) true true)]⟩ [(.exit 8,⟨[(12,.val (.list (.int .i64))),(13,.val (.list (.int .i64)))],[]⟩)])],
[],fun y=>(.tup [valW (.list (.int .i64)) y.1,valW (.list (.int .i64)) y.2],[],[])⟩
noncomputable def V_ap (w_u:List Int×Int→Option (List Int)) (w_k:List (List Int)×Int×List Int→Option (Int)) (w_f:List Int→Option (List Int)) (N:Nat) (x:List (List Int)×List Int×Int):Option (List Int×List Int):=
 cnd (decide ((↑(List.length x.2.1):Int)<(2:Int))) (cnd (decide (List.length x.2.1*(8:Nat)≤(140737488355328:Nat))) (some (x.2.1,[])) none)
 (obind (loopN N (fun(v:Int×Int×Int)=>cnd (decide (v.2.2<(↑(List.length x.2.1):Int))) (obind (loopN N (fun(v_1:Int×Int×Int)=>
 cnd (decide (v_1.2.2<(↑(List.length x.2.1):Int))) (cnd (decide (v_1.1=(0:Int))) (cnd (decide ((0:Int)≤v.2.2)&&decide (v.2.2 <
 (↑(List.length x.2.1):Int))) (cnd (decide ((0:Int)≤v_1.2.2)&&decide (v_1.2.2<(↑(List.length x.2.1):Int))) (some (Sum.inl (List.getD x.2.1
 (Int.toNat v.2.2) (0:Int),List.getD x.2.1 (Int.toNat v_1.2.2) (0:Int),wr .i64 (v_1.2.2+(1:Int))))) none) none) (cnd (decide ((0:Int)≤v.2.2) &&
 decide (v.2.2<(↑(List.length x.2.1):Int))) (cnd (decide ((0:Int)≤wr .i64 (List.getD x.2.1 (Int.toNat v.2.2) (0:Int)-(1:Int)))&&decide (wr
 .i64 (List.getD x.2.1 (Int.toNat v.2.2) (0:Int)-(1:Int))<(↑(List.length x.1):Int))) (cnd (decide ((0:Int)≤v_1.2.2)&&decide (v_1.2.2 <
 (↑(List.length x.2.1):Int))) (cnd (decide ((0:Int)≤wr .i64 (List.getD x.2.1 (Int.toNat v_1.2.2) (0:Int)-(1:Int)))&&decide (wr .i64
 (List.getD x.2.1 (Int.toNat v_1.2.2) (0:Int)-(1:Int))<(↑(List.length (List.getD x.1 (Int.toNat (wr .i64 (List.getD x.2.1 (Int.toNat v.2.2)
 (0:Int)-(1:Int)))) [])):Int))) (cnd (decide ((0:Int)≤wr .i64 (v_1.1-(1:Int)))&&decide (wr .i64 (v_1.1-(1:Int))<(↑(List.length x.1):
 Int))) (cnd (decide ((0:Int)≤wr .i64 (v_1.2.1-(1:Int)))&&decide (wr .i64 (v_1.2.1-(1:Int))<(↑(List.length (List.getD x.1 (Int.toNat (wr
 .i64 (v_1.1-(1:Int)))) [])):Int))) (cnd (decide (List.getD (List.getD x.1 (Int.toNat (wr .i64 (v_1.1-(1:Int)))) []) (Int.toNat (wr .i64
 (v_1.2.1-(1:Int)))) (0:Int)<List.getD (List.getD x.1 (Int.toNat (wr .i64 (List.getD x.2.1 (Int.toNat v.2.2) (0:Int)-(1:Int)))) []) (Int.toNat
 (wr .i64 (List.getD x.2.1 (Int.toNat v_1.2.2) (0:Int)-(1:Int)))) (0:Int))) (cnd (decide ((0:Int)≤v.2.2)&&decide (v.2.2<(↑(List.length x.2.1)
 : Int))) (cnd (decide ((0:Int)≤v_1.2.2)&&decide (v_1.2.2<(↑(List.length x.2.1):Int))) (some (Sum.inl (List.getD x.2.1 (Int.toNat v.2.2)
 (0:Int),List.getD x.2.1 (Int.toNat v_1.2.2) (0:Int),wr .i64 (v_1.2.2+(1:Int))))) none) none) (some (Sum.inl (v_1.1,v_1.2.1,wr .i64 (v_1.2.2 +
 (1:Int)))))) none) none) none) none) none) none)) (some (Sum.inr (v_1.1,v_1.2.1)))) (v.1,v.2.1,wr .i64 (v.2.2+(1:Int)))) fun(b:Int×Int)=>
 some (Sum.inl (b.1,b.2,wr .i64 (v.2.2+(1:Int))))) (some (Sum.inr (v.1,v.2.1)))) ((0:Int),(0:Int),(0:Int))) fun(b:Int×Int)=>obind
 (loopN N (fun(v:Int×List Int×List Int)=>cnd (decide (v.1<(↑(List.length x.2.1):Int))) (cnd (decide ((0:Int)≤v.1)&&decide (v.1 <
 (↑(List.length x.2.1):Int))) (cnd (decide (List.getD x.2.1 (Int.toNat v.1) (0:Int)≠b.2)) (cnd (decide (List.getD x.2.1 (Int.toNat v.1) (0:Int)=
 b.1)) (cnd (decide ((List.length v.2.1+List.length [List.getD x.2.1 (Int.toNat v.1) (0:Int)])*(8:Nat)≤(140737488355328:Nat))) (some (Sum.inl
 (wr .i64 (v.1+(1:Int)),v.2.1++[List.getD x.2.1 (Int.toNat v.1) (0:Int)],v.2.2))) none) (cnd (decide ((0:Int)≤wr .i64 (List.getD x.2.1
 (Int.toNat v.1) (0:Int)-(1:Int)))&&decide (wr .i64 (List.getD x.2.1 (Int.toNat v.1) (0:Int)-(1:Int))<(↑(List.length x.1):Int))) (cnd
 (decide ((0:Int)≤wr .i64 (b.1-(1:Int)))&&decide (wr .i64 (b.1-(1:Int))<(↑(List.length (List.getD x.1 (Int.toNat (wr .i64 (List.getD x.2.1
 (Int.toNat v.1) (0:Int)-(1:Int)))) [])):Int))) (cnd (decide ((0:Int)≤wr .i64 (List.getD x.2.1 (Int.toNat v.1) (0:Int)-(1:Int)))&&decide
 (wr .i64 (List.getD x.2.1 (Int.toNat v.1) (0:Int)-(1:Int))<(↑(List.length x.1):Int))) (cnd (decide ((0:Int)≤wr .i64 (b.2-(1:Int))) &&
 decide (wr .i64 (b.2-(1:Int))<(↑(List.length (List.getD x.1 (Int.toNat (wr .i64 (List.getD x.2.1 (Int.toNat v.1) (0:Int)-(1:Int)))) [])):
 Int))) (cnd (decide (List.getD (List.getD x.1 (Int.toNat (wr .i64 (List.getD x.2.1 (Int.toNat v.1) (0:Int)-(1:Int)))) []) (Int.toNat (wr .i64 (b.1
 - (1:Int)))) (0:Int)≤List.getD (List.getD x.1 (Int.toNat (wr .i64 (List.getD x.2.1 (Int.toNat v.1) (0:Int)-(1:Int)))) []) (Int.toNat (wr .i64
 (b.2-(1:Int)))) (0:Int))) (cnd (decide ((List.length v.2.1+List.length [List.getD x.2.1 (Int.toNat v.1) (0:Int)])*(8:Nat) ≤
 (140737488355328:Nat))) (some (Sum.inl (wr .i64 (v.1+(1:Int)),v.2.1++[List.getD x.2.1 (Int.toNat v.1) (0:Int)],v.2.2))) none) (cnd (decide
 ((List.length v.2.2+List.length [List.getD x.2.1 (Int.toNat v.1) (0:Int)])*(8:Nat)≤(140737488355328:Nat))) (some (Sum.inl (wr .i64 (v.1 +
 (1:Int)),v.2.1,v.2.2++[List.getD x.2.1 (Int.toNat v.1) (0:Int)]))) none)) none) none) none) none)) (cnd (decide ((List.length v.2.2 +
 List.length [List.getD x.2.1 (Int.toNat v.1) (0:Int)])*(8:Nat)≤(140737488355328:Nat))) (some (Sum.inl (wr .i64 (v.1+(1:Int)),v.2.1,v.2.2++
 [List.getD x.2.1 (Int.toNat v.1) (0:Int)]))) none)) none) (some (Sum.inr v.2))) ((0:Int),[],[])) fun(b_1:List Int×List Int)=>obind (loopN N
 (fun(v:List Int×List Int)=>cnd (decide ((↑(List.length v.1):Int)<x.2.2)) (cnd (decide (x.2.2<(↑(List.length v.2):Int))) (obind
 (w_u (v.2,b.2)) fun b_2=>obind (w_k (x.1,b.1,b_2)) fun b=>cnd (decide ((List.length v.1+List.length [b])*(8:Nat) ≤
 (140737488355328:Nat))) (obind (w_f (v.1++[b])) fun b_3=>obind (w_u (v.2,b)) fun b=>some (Sum.inl (b_3,b))) none)
 (some (Sum.inr v))) (some (Sum.inr v))) b_1) fun(b_2:List Int×List Int)=>obind (loopN N (fun(v:List Int×List Int)=>cnd (decide
 ((↑(List.length v.2):Int)<x.2.2)) (cnd (decide (x.2.2<(↑(List.length v.1):Int))) (obind (w_u (v.1,b.1)) fun b_3=>obind
 (w_k (x.1,b.2,b_3)) fun b=>cnd (decide ((List.length v.2+List.length [b])*(8:Nat)≤(140737488355328:Nat))) (obind (w_f (v.2++[b])) fun b_4=>obind (w_u (v.1,b)) fun b=>some (Sum.inl (b,b_4))) none) (some (Sum.inr v))) (some (Sum.inr v))) b_2)
 fun(b:List Int×List Int)=>some b)
theorem q_ap:∀w_u w_k w_f N x,u_ap.F L0 P0 (orcOf [u_u.con w_u,u_k.con w_k,u_f.con w_f]) N x=V_ap w_u w_k w_f N x:=by intros;kernel_rfl
noncomputable def W_ap (N:Nat):=V_ap (W_u N) (W_k N) (W_f N) N
theorem con_ap_ok (N:Nat):(u_ap.con (W_ap N)).ok P0:=Uf.ok mixed (q_ap (W_u N) (W_k N) (W_f N) N) ⟨con_u_ok N,con_k_ok N,con_f_ok N,trivial⟩ Tryz.func100 (by kernel_rfl) fun x y=>by kernel_rfl
noncomputable def u_m:Uf:=⟨78,42,Tryz.f78,[.val (.list (.list (.int .i64))),.val T7_,.val (.int .i64),.val (.int .i64)],[],
⟨[(8,.val T7_)],[]⟩,[],
[],
[],fun y=>(valW T7_ y,[],[])⟩
noncomputable def V_m (w_ap:List (List Int)×List Int×Int→Option (List Int×List Int)) (w_g:List (List Int)×List Int→Option (List Int×Int)) (N:Nat) (x:List (List Int)×List (List Int×Int)×Int×Int):Option (List (List Int×Int)):=
 cnd (decide ((0:Int)≤x.2.2.1)&&decide (x.2.2.1<(↑(List.length x.2.1):Int))) (obind (w_ap (x.1,Prod.fst (List.getD x.2.1 (Int.toNat
 x.2.2.1) ([],(0:Int))),x.2.2.2)) fun b=>cnd (decide ((0:Int)≤x.2.2.1)&&decide (x.2.2.1≤(↑(List.length x.2.1):Int))) (cnd (decide
 (List.length (List.drop (0:Nat) (List.take (Int.toNat x.2.2.1) x.2.1))*(32:Nat)≤(140737488355328:Nat))) (obind (w_g (x.1,b.1)) fun b_1
 => obind (w_g (x.1,b.2)) fun b=>cnd (decide ((List.length (List.drop (0:Nat) (List.take (Int.toNat x.2.2.1) x.2.1))+List.length [b_1,
 b])*(32:Nat)≤(140737488355328:Nat))) (cnd (decide ((0:Int)≤wr .i64 (x.2.2.1+(1:Int)))&&decide (wr .i64 (x.2.2.1+(1:Int)) ≤
 (↑(List.length x.2.1):Int))) (cnd (decide ((List.length (List.drop (0:Nat) (List.take (Int.toNat x.2.2.1) x.2.1)++[b_1,b])+List.length
 (List.drop (Int.toNat (wr .i64 (x.2.2.1+(1:Int)))) (List.take (List.length x.2.1) x.2.1)))*(32:Nat)≤(140737488355328:Nat))) (some (List.drop
 (0:Nat) (List.take (Int.toNat x.2.2.1) x.2.1)++[b_1,b]++List.drop (Int.toNat (wr .i64 (x.2.2.1+(1:Int)))) (List.take (List.length x.2.1)
 x.2.1))) none) none) none) none) none) none
theorem q_m:∀w_ap w_g N x,u_m.F L0 P0 (orcOf [u_ap.con w_ap,u_g.con w_g]) N x=V_m w_ap w_g N x:=by intros;kernel_rfl
noncomputable def W_m (N:Nat):=V_m (W_ap N) (W_g N) N
theorem con_m_ok (N:Nat):(u_m.con (W_m N)).ok P0:=Uf.ok mixed (q_m (W_ap N) (W_g N) N) ⟨con_ap_ok N,con_g_ok N,trivial⟩ Tryz.func78 (by kernel_rfl) fun x y=>by kernel_rfl
noncomputable def u_af:Uf:=⟨58,70,Tryz.f58,[.val (.list (.list (.int .i64))),.val T7_,.val (.int .i64),.val (.int .i64),.val (.int .i64)],[],
⟨[(10,.val T7_)],[]⟩,[],
[],
[(1000004,.reg [(8,[],⟨[(11,.acc 700068),(30,.val .bool)],[(700068,.nrow 119 (.agg (.pair (.list (.int .i64)) (.int .i64))) false true)]⟩)])],fun y=>(valW T7_ y,[],[])⟩
noncomputable def V_af (w_g:List (List Int)×List Int→Option (List Int×Int)) (w_d:List (List Int×Int)×Int→Option (Int)) (w_f:List Int→Option (List Int)) (w_m:List (List Int)×List (List Int×Int)×Int×Int→Option (List (List Int×Int))) (N:Nat) (x:List (List Int)×List (List Int×Int)×Int×Int×Int):Option (List (List Int×Int)):=
 cnd (decide (List.length x.2.1*(32:Nat)≤(140737488355328:Nat))) (cnd (decide ((↑(List.length x.2.1):Int)=(0:Int))) (obind (w_g (x.1,
 [x.2.2.2.1])) fun b=>some [b]) (obind (cnd (decide (x.2.2.1<(0:Int))) (some (true,x.2.1)) (some (decide ((↑(List.length x.2.1):Int) ≤
 x.2.2.1),x.2.1))) fun(b:Bool×List (List Int×Int))=>cnd b.1 (some b.2) (obind (w_d (x.2.1,x.2.2.2.1)) fun b_1=>cnd (decide
 ((0:Int)≤b_1)) (some b.2) (cnd (decide ((0:Int)≤x.2.2.1)&&decide (x.2.2.1<(↑(List.length x.2.1):Int))) (cnd (decide (List.length (Prod.fst
 (List.getD x.2.1 (Int.toNat x.2.2.1) ([],(0:Int))))*(8:Nat)≤(140737488355328:Nat))) (cnd (decide ((List.length (Prod.fst (List.getD x.2.1
 (Int.toNat x.2.2.1) ([],(0:Int))))+List.length [x.2.2.2.1])*(8:Nat)≤(140737488355328:Nat))) (obind (w_f (Prod.fst (List.getD
 x.2.1 (Int.toNat x.2.2.1) ([],(0:Int)))++[x.2.2.2.1])) fun b_2=>obind (w_g (x.1,b_2)) fun b_3=>cnd (decide ((0:Int)≤x.2.2.1) &&
 decide (x.2.2.1<(↑(List.length b.2):Int))) (cnd (decide ((0:Int)≤x.2.2.1)&&decide (x.2.2.1<(↑(List.length (putL b.2 [b_3] (Int.toNat
 x.2.2.1))):Int))) (cnd (decide (wr .i64 (wr .i64 ((3:Int)*x.2.2.2.2)-(1:Int))<(↑(List.length (Prod.fst (List.getD (putL b.2 [b_3] (Int.toNat
 x.2.2.1)) (Int.toNat x.2.2.1) ([],(0:Int))))):Int))) (obind (w_m (x.1,putL b.2 [b_3] (Int.toNat x.2.2.1),x.2.2.1,x.2.2.2.2)) fun b
 => some b) (some (putL b.2 [b_3] (Int.toNat x.2.2.1)))) none) none) none) none) none)))) none
theorem q_af:∀w_g w_d w_f w_m N x,u_af.F L0 P0 (orcOf [u_g.con w_g,u_d.con w_d,u_f.con w_f,u_m.con w_m]) N x=V_af w_g w_d w_f w_m N x:=by intros;kernel_rfl
noncomputable def W_af (N:Nat):=V_af (W_g N) (W_d N) (W_f N) (W_m N) N
theorem con_af_ok (N:Nat):(u_af.con (W_af N)).ok P0:=Uf.ok mixed (q_af (W_g N) (W_d N) (W_f N) (W_m N) N) ⟨con_g_ok N,con_d_ok N,con_f_ok N,con_m_ok N,trivial⟩ Tryz.func58 (by kernel_rfl) fun x y=>by kernel_rfl
noncomputable def u_aC:Uf:=⟨75,21,Tryz.f75,[.val T7_],[],
⟨[(2,.val (.list (.int .i64)))],[]⟩,[],
[(3,.loop [] ⟨[(3,.acc 700003),(4,.val (.int .i64))],[(700003,.nrow 3 (.int .i64) true true)]⟩ [(.exit 0,⟨[(3,.val (.list (.int .i64)))],[]⟩)])],
[],fun y=>(valW (.list (.int .i64)) y,[],[])⟩
noncomputable def V_aC (w_f:List Int→Option (List Int)) (N:Nat) (x:List (List Int×Int)):Option (List Int):=
 obind (loopN N (fun(v:Int×List Int)=>cnd (decide (v.1<(↑(List.length x):Int))) (cnd (decide ((0:Int)≤v.1)&&decide (v.1<(↑(List.length
 x):Int))) (cnd (decide ((List.length v.2+(1:Nat))*(8:Nat)≤(140737488355328:Nat))) (some (Sum.inl (wr .i64 (v.1+(1:Int)),v.2++[Prod.snd
 (List.getD x (Int.toNat v.1) ([],(0:Int)))]))) none) none) (some (Sum.inr v.2))) ((0:Int),[])) fun(b:List Int)=>obind (w_f b) fun
 b=>some b
theorem q_aC:∀w_f N x,u_aC.F L0 P0 (orcOf [u_f.con w_f]) N x=V_aC w_f N x:=by intros;kernel_rfl
noncomputable def W_aC (N:Nat):=V_aC (W_f N) N
theorem con_aC_ok (N:Nat):(u_aC.con (W_aC N)).ok P0:=Uf.ok mixed (q_aC (W_f N) N) ⟨con_f_ok N,trivial⟩ Tryz.func75 (by kernel_rfl) fun x y=>by kernel_rfl
noncomputable def u_an:Uf:=⟨74,38,Tryz.f74,[.val (.list (.list (.int .i64))),.val (.list (.int .i64)),.val (.int .i64)],[],
⟨[(6,.val T7_)],[]⟩,[],
[(7,.loop [] ⟨[(7,.val T7_)],[]⟩ [(.exit 2,⟨[(7,.val T7_)],[]⟩)]),
(5,.loop [] ⟨[(7,.val T7_),(8,.val (.int .i64))],[]⟩ [(.exit 0,⟨[(7,.val T7_)],[]⟩)])],
[],fun y=>(valW T7_ y,[],[])⟩
noncomputable def V_an (w_g:List (List Int)×List Int→Option (List Int×Int)) (w_m:List (List Int)×List (List Int×Int)×Int×Int→Option (List (List Int×Int))) (N:Nat) (x:List (List Int)×List Int×Int):Option (List (List Int×Int)):=
 cnd (decide ((↑(List.length x.2.1):Int)=(0:Int))) (some []) (obind (w_g (x.1,x.2.1)) fun b=>obind (loopN N (fun(v:List (List Int×Int)×Int)=>cnd (decide (v.2<(↑(List.length v.1):Int))) (obind (loopN N (fun(v_1:List (List Int×Int))=>cnd (decide ((0:Int)≤v.2) &&
 decide (v.2<(↑(List.length v_1):Int))) (cnd (decide (wr .i64 (wr .i64 ((3:Int)*x.2.2)-(1:Int))<(↑(List.length (Prod.fst (List.getD v_1
 (Int.toNat v.2) ([],(0:Int))))):Int))) (obind (w_m (x.1,v_1,v.2,x.2.2)) fun b=>some (Sum.inl b)) (some (Sum.inr v_1))) none)
 v.1) fun(b:List (List Int×Int))=>some (Sum.inl (b,wr .i64 (v.2+(1:Int))))) (some (Sum.inr v.1))) ([b],(0:Int))) fun(b:List (List Int×Int))=>some b)
theorem q_an:∀w_g w_m N x,u_an.F L0 P0 (orcOf [u_g.con w_g,u_m.con w_m]) N x=V_an w_g w_m N x:=by intros;kernel_rfl
noncomputable def W_an (N:Nat):=V_an (W_g N) (W_m N) N
theorem con_an_ok (N:Nat):(u_an.con (W_an N)).ok P0:=Uf.ok mixed (q_an (W_g N) (W_m N) N) ⟨con_g_ok N,con_m_ok N,trivial⟩ Tryz.func74 (by kernel_rfl) fun x y=>by kernel_rfl
noncomputable def u_w:Uf:=⟨57,31,Tryz.f57,[.val (.agg T4_),.val T7_],[],
⟨[(4,.ptr 600004 0)],[(600004,.box 30 (.val T4_))]⟩,[],
[(2,.loop [] ⟨[(1,.val T7_),(2,.ptr 600002 0),(4,.ptr 600004 0),(5,.ptr 600005 0)],[(600002,.box 30 (.val T4_)),(600004,.box 30 (.val T4_)),(600005,.box 30 (.pair (.val (.int .i64)) (.pair (.val (.list (.list (.int .i64)))) (.acc 603005)))),(603005,.nrow 116 T7_ false true)]⟩ [(.exit 0,⟨[(4,.ptr 600004 0),(5,.ptr 600005 0)],[(600004,.box 30 (.val T4_)),(600005,.box 30 (.pair (.val (.int .i64)) (.pair (.val (.list (.list (.int .i64)))) (.acc 603005)))),(603005,.nrow 116 T7_ false true)]⟩)])],
[],fun y=>(valW (.agg T4_) y,[],[])⟩
noncomputable def V_w (w_aC:List (List Int×Int)→Option (List Int)) (w_an:List (List Int)×List Int×Int→Option (List (List Int×Int))) (N:Nat) (x:A5_×List (List Int×Int)):Option A5_:=
 obind (loopN N (fun(v:List (List Int×Int)×A5_×A5_×A5_)=>cnd (decide ((0:Int)<(↑(List.length v.1):Int))) (cnd (decide
 ((List.length v.2.2.2.2.2+List.length [v.1])*(24:Nat)≤(140737488355328:Nat))) (cnd (decide ((↑(List.length v.1):Int)=(1:Int))) (some
 (Sum.inr (v.2.2.1,v.2.2.2.1,v.2.2.2.2.1,v.2.2.2.2.2++[v.1]))) (obind (w_aC v.1) fun b=>obind (w_an (v.2.1.2.1,b,
 v.2.1.1)) fun b=>some (Sum.inl (b,v.2.1,v.2.2.1,v.2.2.2.1,v.2.2.2.2.1,v.2.2.2.2.2++[v.1])))) none) (some (Sum.inr v.2.2))) (x.2,x.1,
 ((0:Int),[],[]),x.1.1,x.1.2.1,[])) fun(b:A5_×A5_)=>some b.2
theorem q_w:∀w_aC w_an N x,u_w.F L0 P0 (orcOf [u_aC.con w_aC,u_an.con w_an]) N x=V_w w_aC w_an N x:=by intros;kernel_rfl
noncomputable def W_w (N:Nat):=V_w (W_aC N) (W_an N) N
theorem con_w_ok (N:Nat):(u_w.con (W_w N)).ok P0:=Uf.ok mixed (q_w (W_aC N) (W_an N) N) ⟨con_aC_ok N,con_an_ok N,trivial⟩ Tryz.func57 (by kernel_rfl) fun x y=>by kernel_rfl
noncomputable def u_V:Uf:=⟨39,84,Tryz.f39,[.val (.agg T4_),.val (.int .i64)],[],
⟨[(4,.ptr 600004 0)],[(600004,.box 30 (.val T4_))]⟩,[],
[(5,.loop [] ⟨[(2,.ptr 600002 0),(4,.ptr 600004 0),(5,.val (.int .i64)),(6,.val (.int .i64))],[(600002,.box 30 (.val T4_)),(600004,.box 30 (.val T4_))]⟩ [(.exit 0,⟨[(2,.ptr 600002 0),(4,.ptr 600004 0),(5,.val (.int .i64))],[(600002,.box 30 (.val T4_)),(600004,.box 30 (.val T4_))]⟩)])],
[(1000001,.reg [(8,[],⟨[(2,.ptr 600002 0),(4,.ptr 600004 0),(16,.val .bool)],[(600002,.box 30 (.val T4_)),(600004,.box 30 (.val T4_))]⟩),(4,[],⟨[(2,.ptr 600002 0),(4,.ptr 600004 0),(20,.val .bool)],[(600002,.box 30 (.val T4_)),(600004,.box 30 (.val T4_))]⟩)]),
(12,.cut [] [(.normal,⟨[(2,.ptr 600002 0),(4,.ptr 600004 0),(8,.val T7_)],[(600002,.box 30 (.val T4_)),(600004,.box 30 (.val T4_))]⟩)])],fun y=>(valW (.agg T4_) y,[],[])⟩
noncomputable def V_V (w_o:List (List Int)→Option (Bool)) (w_d:List (List Int×Int)×Int→Option (Int)) (w_k:List (List Int)×Int×List Int→Option (Int)) (w_af:List (List Int)×List (List Int×Int)×Int×Int×Int→Option (List (List Int×Int))) (w_w:A5_×List (List Int×Int)→Option A5_) (N:Nat) (x:A5_×Int):Option A5_:=
 obind (obind (w_o x.1.2.1) fun b=>cnd (!b) (some (true,x.1,(0:Int),[],[])) (some (decide (x.2<(1:Int)),x.1,(0:Int),[],[])))
 fun(b:Bool×A5_×A5_)=>obind (cnd b.1
 (some (true,b.2)) (some (decide ((8:Int)<x.2),b.2))) fun(b:Bool×A5_×A5_)=>cnd b.1 (some b.2.1) (cnd (decide ((0:Int)<(↑(List.length b.2.1.2.2):Int))) (cnd (decide ((0:Int) ≤
 (0:Int))&&decide ((0:Int)<(↑(List.length b.2.1.2.2):Int))) (obind (w_d (List.getD b.2.1.2.2 (0:Nat) [],x.2)) fun b_1=>cnd (decide
 ((0:Int)≤b_1)) (some b.2.1) (obind (loopN N (fun(v:Int×Int×A5_×A5_)=>cnd (decide ((0:Int)<v.2.1)) (cnd (decide ((0:Int)≤v.2.1)&&decide (v.2.1<(↑(List.length v.2.2.1.2.2):
 Int))) (cnd (decide ((0:Int)≤v.1)&&decide (v.1<(↑(List.length (List.getD v.2.2.1.2.2 (Int.toNat v.2.1) [])):Int))) (obind (w_k
 (v.2.2.1.2.1,x.2,Prod.fst (List.getD (List.getD v.2.2.1.2.2 (Int.toNat v.2.1) []) (Int.toNat v.1) ([],(0:Int))))) fun b=>cnd (decide ((0:Int) ≤
 wr .i64 (v.2.1-(1:Int)))&&decide (wr .i64 (v.2.1-(1:Int))<(↑(List.length v.2.2.1.2.2):Int))) (obind (w_d (List.getD v.2.2.1.2.2
 (Int.toNat (wr .i64 (v.2.1-(1:Int)))) [],b)) fun b=>some (Sum.inl (b,wr .i64 (v.2.1-(1:Int)),v.2.2))) none) none) none) (some (Sum.inr
 (v.1,v.2.2)))) ((0:Int),wr .i64 ((↑(List.length b.2.1.2.2):Int)-(1:Int)),b.2)) fun(b:Int×A5_×A5_)=>obind (cnd (decide ((0:Int)<(↑(List.length b.2.1.2.2):Int))) (cnd (decide
 ((0:Int)≤(0:Int))&&decide ((0:Int)<(↑(List.length b.2.1.2.2):Int))) (some (List.getD b.2.1.2.2 (0:Nat) [],b.2)) none) (some ([],b.2))) fun
 (b_2:List (List Int×Int)×A5_×A5_)=>
 obind (w_af (b_2.2.1.2.1,b_2.1,b.1,x.2,b_2.2.1.1)) fun b=>obind (w_w (b_2.2.1,b)) fun b=>some b)) none) (obind
 (loopN N (fun(v:Int×Int×A5_×A5_)=>cnd
 (decide ((0:Int)<v.2.1)) (cnd (decide ((0:Int)≤v.2.1)&&decide (v.2.1<(↑(List.length v.2.2.1.2.2):Int))) (cnd (decide ((0:Int)≤v.1) &&
 decide (v.1<(↑(List.length (List.getD v.2.2.1.2.2 (Int.toNat v.2.1) [])):Int))) (obind (w_k (v.2.2.1.2.1,x.2,Prod.fst (List.getD
 (List.getD v.2.2.1.2.2 (Int.toNat v.2.1) []) (Int.toNat v.1) ([],(0:Int))))) fun b=>cnd (decide ((0:Int)≤wr .i64 (v.2.1-(1:Int)))&&decide
 (wr .i64 (v.2.1-(1:Int))<(↑(List.length v.2.2.1.2.2):Int))) (obind (w_d (List.getD v.2.2.1.2.2 (Int.toNat (wr .i64 (v.2.1 -
 (1:Int)))) [],b)) fun b=>some (Sum.inl (b,wr .i64 (v.2.1-(1:Int)),v.2.2))) none) none) none) (some (Sum.inr (v.1,v.2.2)))) ((0:Int),wr .i64
 ((↑(List.length b.2.1.2.2):Int)-(1:Int)),b.2)) fun(b:Int×A5_×A5_)=>obind (cnd (decide ((0:Int)<(↑(List.length b.2.1.2.2):Int))) (cnd (decide ((0:Int)≤(0:Int))&&decide
 ((0:Int)<(↑(List.length b.2.1.2.2):Int))) (some (List.getD b.2.1.2.2 (0:Nat) [],b.2)) none) (some ([],b.2))) fun(b_1:List (List Int×Int)×A5_×A5_)=>obind (w_af
 (b_1.2.1.2.1,b_1.1,b.1,x.2,b_1.2.1.1)) fun b=>obind (w_w (b_1.2.1,b)) fun b=>some b))
theorem q_V:∀w_o w_d w_k w_af w_w N x,u_V.F L0 P0 (orcOf [u_o.con w_o,u_d.con w_d,u_k.con w_k,u_af.con w_af,u_w.con w_w]) N x=V_V w_o w_d w_k w_af w_w N x:=by intros;kernel_rfl
noncomputable def W_V (N:Nat):=V_V (W_o N) (W_d N) (W_k N) (W_af N) (W_w N) N
theorem con_V_ok (N:Nat):(u_V.con (W_V N)).ok P0:=Uf.ok mixed (q_V (W_o N) (W_d N) (W_k N) (W_af N) (W_w N) N) ⟨con_o_ok N,con_d_ok N,con_k_ok N,con_af_ok N,con_w_ok N,trivial⟩ Tryz.func39 (by kernel_rfl) fun x y=>by kernel_rfl
noncomputable def u_aO:Uf:=⟨101,86,Tryz.f101,[.val .str],[],
⟨[(2,.val (.int .i64)),(3,.val (.int .i64))],[]⟩,[],
[(15,.loop [] ⟨[(4,.val (.int .i64)),(7,.val (.int .i64))],[]⟩ [(.exit 1,⟨[(4,.val (.int .i64))],[]⟩),(.ret,⟨[(2,.val (.int .i64)),(3,.val (.int .i64))],[]⟩)])],
[(1000020,.reg [(7,[],⟨[(75,.val .bool)],[]⟩)]),
(12,.cut [] [(.normal,⟨[(4,.val (.int .i64)),(5,.val (.int .i64)),(6,.val (.int .i64))],[]⟩),(.ret,⟨[(2,.val (.int .i64)),(3,.val (.int .i64))],[]⟩)])],fun y=>(.tup [valW (.int .i64) y.1,valW (.int .i64) y.2],[],[])⟩
noncomputable def V_aO (N:Nat) (x:List UInt8):Option (Int×Int):=
 cnd (decide ((0:Int)≤(0:Int))&&decide ((0:Int)<(↑(List.length x):Int))) (obind (cnd (decide (wr .i64 (↑(UInt8.toNat (List.getD x (0:Nat) (0:
 UInt8))):Int)<(128:Int))) (some (Sum.inr (wr .i64 (↑(UInt8.toNat (List.getD x (0:Nat) (0:UInt8))):Int),(1:Int)))) (cnd (decide ((194:Int) ≤
 wr .i64 (↑(UInt8.toNat (List.getD x (0:Nat) (0:UInt8))):Int))) (cnd (decide (wr .i64 (↑(UInt8.toNat (List.getD x (0:Nat) (0:UInt8))):Int) ≤
 (223:Int))) (some (Sum.inl (wr .i64 (wr .i64 (↑(UInt8.toNat (List.getD x (0:Nat) (0:UInt8))):Int)-(192:Int)),(2:Int),(128:Int)))) (cnd
 (decide ((224:Int)≤wr .i64 (↑(UInt8.toNat (List.getD x (0:Nat) (0:UInt8))):Int))) (cnd (decide (wr .i64 (↑(UInt8.toNat (List.getD x (0:Nat) (0
 : UInt8))):Int)≤(239:Int))) (some (Sum.inl (wr .i64 (wr .i64 (↑(UInt8.toNat (List.getD x (0:Nat) (0:UInt8))):Int)-(224:Int)),(3:Int),
 (2048:Int)))) (cnd (decide ((240:Int)≤wr .i64 (↑(UInt8.toNat (List.getD x (0:Nat) (0:UInt8))):Int))) (cnd (decide (wr .i64 (↑(UInt8.toNat
 (List.getD x (0:Nat) (0:UInt8))):Int)≤(244:Int))) (some (Sum.inl (wr .i64 (wr .i64 (↑(UInt8.toNat (List.getD x (0:Nat) (0:UInt8))):Int) -
 (240:Int)),(4:Int),(65536:Int)))) (some (Sum.inr ((-1:Int),(1:Int))))) (some (Sum.inr ((-1:Int),(1:Int)))))) (cnd (decide ((240:Int)≤wr
 .i64 (↑(UInt8.toNat (List.getD x (0:Nat) (0:UInt8))):Int))) (cnd (decide (wr .i64 (↑(UInt8.toNat (List.getD x (0:Nat) (0:UInt8))):Int) ≤
 (244:Int))) (some (Sum.inl (wr .i64 (wr .i64 (↑(UInt8.toNat (List.getD x (0:Nat) (0:UInt8))):Int)-(240:Int)),(4:Int),(65536:Int)))) (some
 (Sum.inr ((-1:Int),(1:Int))))) (some (Sum.inr ((-1:Int),(1:Int))))))) (cnd (decide ((224:Int)≤wr .i64 (↑(UInt8.toNat (List.getD x (0:Nat) (0
 : UInt8))):Int))) (cnd (decide (wr .i64 (↑(UInt8.toNat (List.getD x (0:Nat) (0:UInt8))):Int)≤(239:Int))) (some (Sum.inl (wr .i64 (wr .i64
 (↑(UInt8.toNat (List.getD x (0:Nat) (0:UInt8))):Int)-(224:Int)),(3:Int),(2048:Int)))) (cnd (decide ((240:Int)≤wr .i64 (↑(UInt8.toNat
 (List.getD x (0:Nat) (0:UInt8))):Int))) (cnd (decide (wr .i64 (↑(UInt8.toNat (List.getD x (0:Nat) (0:UInt8))):Int)≤(244:Int))) (some
 (Sum.inl (wr .i64 (wr .i64 (↑(UInt8.toNat (List.getD x (0:Nat) (0:UInt8))):Int)-(240:Int)),(4:Int),(65536:Int)))) (some (Sum.inr ((-1:
 Int),(1:Int))))) (some (Sum.inr ((-1:Int),(1:Int)))))) (cnd (decide ((240:Int)≤wr .i64 (↑(UInt8.toNat (List.getD x (0:Nat) (0:UInt8))):
 Int))) (cnd (decide (wr .i64 (↑(UInt8.toNat (List.getD x (0:Nat) (0:UInt8))):Int)≤(244:Int))) (some (Sum.inl (wr .i64 (wr .i64 (↑(UInt8.toNat
 (List.getD x (0:Nat) (0:UInt8))):Int)-(240:Int)),(4:Int),(65536:Int)))) (some (Sum.inr ((-1:Int),(1:Int))))) (some (Sum.inr ((-1:Int),
 (1:Int)))))))) fun(b:Int×Int×Int⊕Int×Int)=>selim (fun(b:Int×Int×Int)=>cnd (decide ((↑(List.length x):Int)<b.2.1)) (some
 ((-1:Int),(1:Int))) (obind (loopN N (fun(v:Int×Int)=>cnd (decide (v.2<b.2.1)) (cnd (decide ((0:Int)≤v.2)&&decide (v.2 <
 (↑(List.length x):Int))) (cnd (decide ((↑(UInt8.toNat (List.getD x (Int.toNat v.2) (0:UInt8))):Int)<(128:Int))) (some (Sum.inr (Sum.inr ((-1
 : Int),(1:Int))))) (cnd (decide ((0:Int)≤v.2)&&decide (v.2<(↑(List.length x):Int))) (cnd (decide ((191:Int)<(↑(UInt8.toNat (List.getD x
 (Int.toNat v.2) (0:UInt8))):Int))) (some (Sum.inr (Sum.inr ((-1:Int),(1:Int))))) (cnd (decide ((0:Int)≤v.2)&&decide (v.2<(↑(List.length
 x):Int))) (some (Sum.inl (wr .i64 (wr .i64 (wr .i64 (v.1*(64:Int))+wr .i64 (↑(UInt8.toNat (List.getD x (Int.toNat v.2) (0:UInt8))):Int)) -
 (128:Int)),wr .i64 (v.2+(1:Int))))) none)) none)) none) (some (Sum.inr (Sum.inl v.1)))) (b.1,(1:Int))) fun(b_1:Int⊕Int×Int)=>selim (fun
 (b_2:Int)=>obind (cnd (decide (b_2<b.2.2)) (some true) (some (decide ((1114111:Int)<b_2)))) fun(b_3:Bool)=>cnd b_3 (some ((-1:Int),
 (1:Int))) (cnd (decide ((55296:Int)≤b_2)) (cnd (decide (b_2≤(57343:Int))) (some ((-1:Int),(1:Int))) (some (b_2,b.2.1))) (some (b_2,
 b.2.1)))) (fun(c:Int×Int)=>some c) b_1)) (fun(c:Int×Int)=>some c) b) none
theorem q_aO:∀N x,u_aO.F L0 P0 (orcOf []) N x=V_aO N x:=by intros;kernel_rfl
noncomputable def W_aO (N:Nat):=V_aO N
theorem con_aO_ok (N:Nat):(u_aO.con (W_aO N)).ok P0:=Uf.ok mixed (q_aO N) trivial Tryz.func101 (by kernel_rfl) fun x y=>by kernel_rfl
noncomputable def u_aE:Uf:=⟨79,22,Tryz.f79,[.val .str],[],
⟨[(2,.val (.list (.int .i64)))],[]⟩,[],
[(2,.loop [] ⟨[(0,.val .str),(3,.acc 700003)],[(700003,.nrow 3 (.int .i64) true true)]⟩ [(.exit 0,⟨[(3,.val (.list (.int .i64)))],[]⟩)])],
[],fun y=>(valW (.list (.int .i64)) y,[],[])⟩
noncomputable def V_aE (w_aO:List UInt8→Option (Int×Int)) (N:Nat) (x:List UInt8):Option (List Int):=
 obind (loopN N (fun(v:List UInt8×List Int)=>cnd (decide ((0:Int)<(↑(List.length v.1):Int))) (obind (w_aO v.1) fun b=>cnd
 (decide ((List.length v.2+List.length [b.1])*(8:Nat)≤(140737488355328:Nat))) (cnd (decide ((0:Int)≤b.2)&&decide (b.2≤(↑(List.length v.1)
 : Int))) (some (Sum.inl (List.drop (Int.toNat b.2) (List.take (List.length v.1) v.1),v.2++[b.1]))) none) none) (some (Sum.inr v.2))) (x,[])) fun
 (b:List Int)=>some b
theorem q_aE:∀w_aO N x,u_aE.F L0 P0 (orcOf [u_aO.con w_aO]) N x=V_aE w_aO N x:=by intros;kernel_rfl
noncomputable def W_aE (N:Nat):=V_aE (W_aO N) N
theorem con_aE_ok (N:Nat):(u_aE.con (W_aE N)).ok P0:=Uf.ok mixed (q_aE (W_aO N) N) ⟨con_aO_ok N,trivial⟩ Tryz.func79 (by kernel_rfl) fun x y=>by kernel_rfl
noncomputable def u_as:Uf:=⟨59,40,Tryz.f59,[.val .str],[],
⟨[(2,.val .bool)],[]⟩,[],
[(3,.loop [3] ⟨[(4,.val (.int .i64))],[]⟩ [(.exit 0,⟨[],[]⟩),(.ret,⟨[(2,.val .bool)],[]⟩)])],
[],fun y=>(valW .bool y,[],[])⟩
noncomputable def V_as (w_aE:List UInt8→Option (List Int)) (N:Nat) (x:List UInt8):Option (Bool):=
 obind (w_aE x) fun b=>obind (loopN N (fun(v:Int)=>cnd (decide (v<(↑(List.length b):Int))) (cnd (decide ((0:Int)≤v)&&decide
 (v<(↑(List.length b):Int))) (cnd (decide (List.getD b (Int.toNat v) (0:Int)<(33:Int))) (some (Sum.inr (Sum.inr false))) (cnd (decide ((0:Int)
 ≤ v)&&decide (v<(↑(List.length b):Int))) (cnd (decide ((127:Int)≤List.getD b (Int.toNat v) (0:Int))) (cnd (decide ((0:Int)≤v)&&decide (v
 < (↑(List.length b):Int))) (cnd (decide (List.getD b (Int.toNat v) (0:Int)≤(159:Int))) (some (Sum.inr (Sum.inr false))) (some (Sum.inl (wr .i64
 (v+(1:Int)))))) none) (some (Sum.inl (wr .i64 (v+(1:Int)))))) none)) none) (some (Sum.inr (Sum.inl ())))) (Int.ofNat (0:Nat))) fun(b_1:PUnit
 ⊕ Bool)=>selim (fun(b_2:PUnit)=>cnd (decide ((1:Int)≤(↑(List.length b):Int))) (some (decide ((↑(List.length b):Int)≤(8:Int)))) (some
 false)) (fun(c:Bool)=>some c) b_1
theorem q_as:∀w_aE N x,u_as.F L0 P0 (orcOf [u_aE.con w_aE]) N x=V_as w_aE N x:=by intros;kernel_rfl
noncomputable def W_as (N:Nat):=V_as (W_aE N) N
theorem con_as_ok (N:Nat):(u_as.con (W_as N)).ok P0:=Uf.ok mixed (q_as (W_aE N) N) ⟨con_aE_ok N,trivial⟩ Tryz.func59 (by kernel_rfl) fun x y=>by kernel_rfl
noncomputable def u_aY:Uf:=⟨60,22,Tryz.f60,[.val (.int .i64),.val (.int .i64),.val (.int .i64),.val (.int .i64)],[],
⟨[(8,.ptr 600008 0)],[(600008,.box 46 (.val T1_))]⟩,[],
[],
[],fun y=>(valW (.agg T1_) y,[],[])⟩
noncomputable def V_aY (N:Nat) (x:Int×Int×Int×Int):Option A2_:=
 cnd (decide (x.1=(1:Int))) (some (x.1,x.2.1,x.2.2.1,(0:Int),(0:Int),x.2.2.2,[(1:Int)],(0:Int),x.2.2.1,(0:Int),(0:Int),(0:Int),[])) (some (x.1,x.2.1,x.2.2.1,(0:Int),(0:Int),x.2.2.2,[],(0:Int),(0:Int),(0:Int),(0:Int),(0:Int),[]))
theorem q_aY:∀N x,u_aY.F L0 P0 (orcOf []) N x=V_aY N x:=by intros;kernel_rfl
noncomputable def W_aY (N:Nat):=V_aY N
theorem con_aY_ok (N:Nat):(u_aY.con (W_aY N)).ok P0:=Uf.ok mixed (q_aY N) trivial Tryz.func60 (by kernel_rfl) fun x y=>by kernel_rfl
noncomputable def u_D:Uf:=⟨40,42,Tryz.f40,[.val (.agg T0_),.val (.int .i64),.val .str,.val (.int .i64)],[],
⟨[(8,.ptr 600008 0),(9,.val .bool)],[(600008,.box 48 (.val T0_))]⟩,[],
[],
[(1000001,.reg [(7,[],⟨[(4,.ptr 600004 0),(8,.ptr 600008 0),(16,.val .bool)],[(600004,.box 48 (.val T0_)),(600008,.box 48 (.val T0_))]⟩),(4,[],⟨[(4,.ptr 600004 0),(8,.ptr 600008 0),(20,.val .bool)],[(600004,.box 48 (.val T0_)),(600008,.box 48 (.val T0_))]⟩),(4,[],⟨[(4,.ptr 600004 0),(8,.ptr 600008 0),(24,.val .bool)],[(600004,.box 48 (.val T0_)),(600008,.box 48 (.val T0_))]⟩)])],fun y=>(.tup [valW (.agg T0_) y.2,valW .bool y.1],[],[])⟩
noncomputable def V_D (w_as:List UInt8→Option (Bool)) (w_aY:Int×Int×Int×Int→Option A2_) (N:Nat) (x:A0_×Int×List UInt8×Int):Option (Bool×A0_):=
 obind (cnd x.1.1 (some (true,x.1,false,(0:Int),[],((0:Int),(0:Int),(0:Int),(0:Int),(0:Int),(0:Int),[],(0:Int),(0:Int),(0:Int),(0:Int),
 (0:Int),[]),((0:Int),(0:Int),[],[],[],(0:Int),(0:Int)),(0:Int))) (obind (w_as x.2.2.1) fun b=>some (!b,x.1,false,(0:Int),[],
 ((0:Int),(0:Int),(0:Int),(0:Int),(0:Int),(0:Int),[],(0:Int),(0:Int),(0:Int),(0:Int),(0:Int),[]),((0:Int),(0:Int),[],[],[],(0:Int),
 (0:Int)),(0:Int)))) fun(b:Bool×A0_×A0_)=>obind (cnd b.1 (some (true,
 b.2)) (some (decide (x.2.1<(1:Int)),b.2))) fun(b:Bool×A0_×A0_)=>obind (cnd
 b.1 (some (true,b.2)) (some (decide ((8:Int)<x.2.1),b.2))) fun(b:Bool×A0_×A0_)=>cnd b.1 (some (false,b.2.1)) (cnd (decide ((1073741824:Int)≤b.2.1.2.1)) (some (false,b.2.1)) (obind (w_aY (x.2.1,wr .i64
 (b.2.1.2.1+(1:Int)),(0:Int),x.2.2.2)) fun b_1=>some (true,true,wr .i64 (b.2.1.2.1+(1:Int)),x.2.2.1,b_1,((0:Int),(0:Int),[],[],[],
 (0:Int),(0:Int)),(0:Int))))
theorem q_D:∀w_as w_aY N x,u_D.F L0 P0 (orcOf [u_as.con w_as,u_aY.con w_aY]) N x=V_D w_as w_aY N x:=by intros;kernel_rfl
noncomputable def W_D (N:Nat):=V_D (W_as N) (W_aY N) N
theorem con_D_ok (N:Nat):(u_D.con (W_D N)).ok P0:=Uf.ok mixed (q_D (W_as N) (W_aY N) N) ⟨con_as_ok N,con_aY_ok N,trivial⟩ Tryz.func40 (by kernel_rfl) fun x y=>by kernel_rfl
noncomputable def u_S:Uf:=⟨20,34,Tryz.f20,[.val (.list (.list (.int .i64))),.val (.int .i64)],[],
⟨[(4,.ptr 600004 0),(5,.val .bool)],[(600004,.box 32 (.val T2_))]⟩,[],
[],
[],fun y=>(.tup [valW (.agg T2_) y.2,valW .bool y.1],[],[])⟩
noncomputable def V_S (w_a0:List (List Int)×Int→Option (Bool×A5_)) (w_V:A5_×Int→Option A5_) (w_D:A0_×Int×List UInt8×Int→Option (Bool×A0_)) (N:Nat) (x:List (List Int)×Int):Option (Bool×List A0_×A1_):=
 obind (w_a0 x) fun b=>cnd (!b.1) (some (false,[],[],[],(0:Int),[],[])) (obind (w_V (b.2,(1:Int))) fun b=>obind
 (w_D ((false,(0:Int),[],((0:Int),(0:Int),(0:Int),(0:Int),(0:Int),(0:Int),[],(0:Int),(0:Int),(0:Int),(0:Int),(0:Int),[]),
 ((0:Int),(0:Int),[],[],[],(0:Int),(0:Int)),(0:Int)),(1:Int),[(114:UInt8),(111:UInt8),(111:UInt8),(116:UInt8)],(0:Int))) fun b_1
 => some (true,[b_1.2,(false,(0:Int),[],((0:Int),(0:Int),(0:Int),(0:Int),(0:Int),(0:Int),[],(0:Int),(0:Int),(0:Int),(0:Int),(0:Int),
 []),((0:Int),(0:Int),[],[],[],(0:Int),(0:Int)),(0:Int)),(false,(0:Int),[],((0:Int),(0:Int),(0:Int),(0:Int),(0:Int),(0:Int),[],
 (0:Int),(0:Int),(0:Int),(0:Int),(0:Int),[]),((0:Int),(0:Int),[],[],[],(0:Int),(0:Int)),(0:Int)),(false,(0:Int),[],((0:Int),
 (0:Int),(0:Int),(0:Int),(0:Int),(0:Int),[],(0:Int),(0:Int),(0:Int),(0:Int),(0:Int),[]),((0:Int),(0:Int),[],[],[],(0:Int),(0:Int)),
 (0:Int)),(false,(0:Int),[],((0:Int),(0:Int),(0:Int),(0:Int),(0:Int),(0:Int),[],(0:Int),(0:Int),(0:Int),(0:Int),(0:Int),[]),
 ((0:Int),(0:Int),[],[],[],(0:Int),(0:Int)),(0:Int)),(false,(0:Int),[],((0:Int),(0:Int),(0:Int),(0:Int),(0:Int),(0:Int),[],(0:Int),
 (0:Int),(0:Int),(0:Int),(0:Int),[]),((0:Int),(0:Int),[],[],[],(0:Int),(0:Int)),(0:Int)),(false,(0:Int),[],((0:Int),(0:Int),
 (0:Int),(0:Int),(0:Int),(0:Int),[],(0:Int),(0:Int),(0:Int),(0:Int),(0:Int),[]),((0:Int),(0:Int),[],[],[],(0:Int),(0:Int)),
 (0:Int)),(false,(0:Int),[],((0:Int),(0:Int),(0:Int),(0:Int),(0:Int),(0:Int),[],(0:Int),(0:Int),(0:Int),(0:Int),(0:Int),[]),
 ((0:Int),(0:Int),[],[],[],(0:Int),(0:Int)),(0:Int))],[],[],b))
theorem q_S:∀w_a0 w_V w_D N x,u_S.F L0 P0 (orcOf [u_a0.con w_a0,u_V.con w_V,u_D.con w_D]) N x=V_S w_a0 w_V w_D N x:=by intros;kernel_rfl
noncomputable def W_S (N:Nat):=V_S (W_a0 N) (W_V N) (W_D N) N
theorem con_S_ok (N:Nat):(u_S.con (W_S N)).ok P0:=Uf.ok mixed (q_S (W_a0 N) (W_V N) (W_D N) N) ⟨con_a0_ok N,con_V_ok N,con_D_ok N,trivial⟩ Tryz.func20 (by kernel_rfl) fun x y=>by kernel_rfl
noncomputable def u_a1:Uf:=⟨61,43,Tryz.f61,[.val (.agg T4_),.val (.int .i64)],[],
⟨[(4,.val (.int .i64))],[]⟩,[],
[(2,.loop [] ⟨[(2,.ptr 600002 0),(5,.val (.int .i64))],[(600002,.box 30 (.val T4_))]⟩ [(.exit 0,⟨[],[]⟩),(.ret,⟨[(4,.val (.int .i64))],[]⟩)])],
[],fun y=>(valW (.int .i64) y,[],[])⟩
noncomputable def V_a1 (w_d:List (List Int×Int)×Int→Option (Int)) (N:Nat) (x:A5_×Int):Option (Int):=
 obind (loopN N (fun(v:Int×A5_)=>cnd (decide (v.1<(↑(List.length v.2.2.2):Int))) (cnd
 (decide ((0:Int)≤v.1)&&decide (v.1<(↑(List.length v.2.2.2):Int))) (obind (w_d (List.getD v.2.2.2 (Int.toNat v.1) [],x.2)) fun b
 => cnd (decide (b<(0:Int))) (some (Sum.inr (Sum.inr (0:Int)))) (cnd (decide ((0:Int)≤v.1)&&decide (v.1<(↑(List.length v.2.2.2):Int))) (cnd
 (decide ((0:Int)≤b)&&decide (b<(↑(List.length (List.getD v.2.2.2 (Int.toNat v.1) [])):Int))) (cnd (decide (Prod.snd (List.getD (List.getD
 v.2.2.2 (Int.toNat v.1) []) (Int.toNat b) ([],(0:Int)))≠x.2)) (cnd (decide ((0:Int)≤v.1)&&decide (v.1<(↑(List.length v.2.2.2):Int))) (cnd
 (decide ((0:Int)≤b)&&decide (b<(↑(List.length (List.getD v.2.2.2 (Int.toNat v.1) [])):Int))) (some (Sum.inr (Sum.inr (Prod.snd (List.getD
 (List.getD v.2.2.2 (Int.toNat v.1) []) (Int.toNat b) ([],(0:Int))))))) none) none) (some (Sum.inl (wr .i64 (v.1+(1:Int)),v.2)))) none) none))
 none) (some (Sum.inr (Sum.inl ())))) ((0:Int),x.1)) fun(b:PUnit⊕Int)=>selim (fun(b:PUnit)=>some (0:Int)) (fun(c:Int)=>some c) b
theorem q_a1:∀w_d N x,u_a1.F L0 P0 (orcOf [u_d.con w_d]) N x=V_a1 w_d N x:=by intros;kernel_rfl
noncomputable def W_a1 (N:Nat):=V_a1 (W_d N) N
theorem con_a1_ok (N:Nat):(u_a1.con (W_a1 N)).ok P0:=Uf.ok mixed (q_a1 (W_d N) N) ⟨con_d_ok N,trivial⟩ Tryz.func61 (by kernel_rfl) fun x y=>by kernel_rfl
noncomputable def u_J:Uf:=⟨112,46,Tryz.f112,[.val (.list (.int .i64))],[],
⟨[(2,.val .bool)],[]⟩,[],
[(4,.loop [] ⟨[(3,.val (.int .i64))],[]⟩ [(.exit 0,⟨[],[]⟩),(.ret,⟨[(2,.val .bool)],[]⟩)])],
[(1000001,.reg [(8,[],⟨[(11,.val .bool)],[]⟩)])],fun y=>(valW .bool y,[],[])⟩
noncomputable def V_J (w_c:List Int×Int→Option (Bool)) (N:Nat) (x:List Int):Option (Bool):=
 obind (cnd (decide ((↑(List.length x):Int)<(1:Int))) (some true) (some (decide ((10:Int)<(↑(List.length x):Int))))) fun(b:Bool)=>cnd b
 (some false) (cnd (decide ((0:Int)≤(0:Int))&&decide ((0:Int)<(↑(List.length x):Int))) (cnd (decide (List.getD x (0:Nat) (0:Int)≠(1:Int)))
 (some false) (obind (loopN N (fun(v:Int)=>cnd (decide (v<(↑(List.length x):Int))) (cnd (decide ((0:Int)≤v)&&decide (v<(↑(List.length
 x):Int))) (cnd (decide (List.getD x (Int.toNat v) (0:Int)<(1:Int))) (some (Sum.inr (Sum.inr false))) (cnd (decide ((0:Int)≤v)&&decide (v <
 (↑(List.length x):Int))) (cnd (decide ((8:Int)<List.getD x (Int.toNat v) (0:Int))) (some (Sum.inr (Sum.inr false))) (cnd (decide ((0:Int)≤v)
 && decide (v≤(↑(List.length x):Int))) (cnd (decide ((0:Int)≤v)&&decide (v<(↑(List.length x):Int))) (obind (w_c (List.drop
 (0:Nat) (List.take (Int.toNat v) x),List.getD x (Int.toNat v) (0:Int))) fun b=>cnd b (some (Sum.inr (Sum.inr false))) (some (Sum.inl (wr .i64 (v
 + (1:Int)))))) none) none)) none)) none) (some (Sum.inr (Sum.inl ())))) (Int.ofNat (0:Nat))) fun(b:PUnit⊕Bool)=>selim (fun(b:PUnit)=>
 some true) (fun(c:Bool)=>some c) b)) none)
theorem q_J:∀w_c N x,u_J.F L0 P0 (orcOf [u_c.con w_c]) N x=V_J w_c N x:=by intros;kernel_rfl
noncomputable def W_J (N:Nat):=V_J (W_c N) N
theorem con_J_ok (N:Nat):(u_J.con (W_J N)).ok P0:=Uf.ok mixed (q_J (W_c N) N) ⟨con_c_ok N,trivial⟩ Tryz.func112 (by kernel_rfl) fun x y=>by kernel_rfl
noncomputable def u_ai:Uf:=⟨113,9,Tryz.f113,[.val (.int .i64)],[],
⟨[(2,.val .bool)],[]⟩,[],
[],
[],fun y=>(valW .bool y,[],[])⟩
noncomputable def V_ai (N:Nat) (x:Int):Option (Bool):=
 cnd (decide ((0:Int)≤x)) (some (decide (x≤(1000000:Int)))) (some false)
theorem q_ai:∀N x,u_ai.F L0 P0 (orcOf []) N x=V_ai N x:=by intros;kernel_rfl
noncomputable def W_ai (N:Nat):=V_ai N
theorem con_ai_ok (N:Nat):(u_ai.con (W_ai N)).ok P0:=Uf.ok mixed (q_ai N) trivial Tryz.func113 (by kernel_rfl) fun x y=>by kernel_rfl
noncomputable def u_j:Uf:=⟨72,18,Tryz.f72,[.val (.agg T5_)],[],
⟨[(2,.val .bool)],[]⟩,[],
[],
[(1000001,.reg [(10,[],⟨[(1,.ptr 600001 0),(12,.val .bool)],[(600001,.box 76 (.val T5_))]⟩)])],fun y=>(valW .bool y,[],[])⟩
noncomputable def V_j (N:Nat) (x:Int×Int):Option (Bool):=
 obind (cnd (decide ((1:Int)≤x.1)) (some (decide (x.1≤x.2),x)) (some (false,x))) fun(b:Bool×Int×Int)=>cnd b.1 (some (decide (b.2.2≤(1000000:Int)))) (some false)
theorem q_j:∀N x,u_j.F L0 P0 (orcOf []) N x=V_j N x:=by intros;kernel_rfl
noncomputable def W_j (N:Nat):=V_j N
theorem con_j_ok (N:Nat):(u_j.con (W_j N)).ok P0:=Uf.ok mixed (q_j N) trivial Tryz.func72 (by kernel_rfl) fun x y=>by kernel_rfl
noncomputable def u_t:Uf:=⟨15,26,Tryz.f15,[.val (.list (.int .i64)),.val (.list (.int .i64))],[],
⟨[(4,.val .bool)],[]⟩,[],
[(4,.loop [] ⟨[(5,.val (.int .i64))],[]⟩ [(.exit 0,⟨[],[]⟩),(.ret,⟨[(4,.val .bool)],[]⟩)])],
[],fun y=>(valW .bool y,[],[])⟩
noncomputable def V_t (N:Nat) (x:List Int×List Int):Option (Bool):=
 cnd (decide ((↑(List.length x.1):Int)≠(↑(List.length x.2):Int))) (some false) (obind (loopN N (fun(v:Int)=>cnd (decide (v<(↑(List.length
 x.1):Int))) (cnd (decide ((0:Int)≤v)&&decide (v<(↑(List.length x.1):Int))) (cnd (decide ((0:Int)≤v)&&decide (v<(↑(List.length x.2):
 Int))) (cnd (decide (List.getD x.1 (Int.toNat v) (0:Int)≠List.getD x.2 (Int.toNat v) (0:Int))) (some (Sum.inr (Sum.inr false))) (some (Sum.inl (wr
 .i64 (v+(1:Int)))))) none) none) (some (Sum.inr (Sum.inl ())))) (Int.ofNat (0:Nat))) fun(b:PUnit⊕Bool)=>selim (fun(b:PUnit)=>some
 true) (fun(c:Bool)=>some c) b)
theorem q_t:∀N x,u_t.F L0 P0 (orcOf []) N x=V_t N x:=by intros;kernel_rfl
noncomputable def W_t (N:Nat):=V_t N
theorem con_t_ok (N:Nat):(u_t.con (W_t N)).ok P0:=Uf.ok mixed (q_t N) trivial Tryz.func15 (by kernel_rfl) fun x y=>by kernel_rfl
noncomputable def u_ag:Uf:=⟨114,73,Tryz.f114,[.val (.agg T_),.val (.agg T_)],[],
⟨[(4,.val .bool)],[]⟩,[],
[],
[(1000001,.reg [(12,[],⟨[(2,.ptr 600002 0),(3,.ptr 600003 0),(16,.val .bool)],[(600002,.box 133 (.val T_)),(600003,.box 133 (.val T_))]⟩),(7,[],⟨[(2,.ptr 600002 0),(3,.ptr 600003 0),(23,.val .bool)],[(600002,.box 133 (.val T_)),(600003,.box 133 (.val T_))]⟩),(7,[],⟨[(2,.ptr 600002 0),(3,.ptr 600003 0),(30,.val .bool)],[(600002,.box 133 (.val T_)),(600003,.box 133 (.val T_))]⟩),(7,[],⟨[(2,.ptr 600002 0),(3,.ptr 600003 0),(37,.val .bool)],[(600002,.box 133 (.val T_)),(600003,.box 133 (.val T_))]⟩),(7,[],⟨[(2,.ptr 600002 0),(3,.ptr 600003 0),(44,.val .bool)],[(600002,.box 133 (.val T_)),(600003,.box 133 (.val T_))]⟩),(7,[],⟨[(2,.ptr 600002 0),(3,.ptr 600003 0),(51,.val .bool)],[(600002,.box 133 (.val T_)),(600003,.box 133 (.val T_))]⟩),(7,[],⟨[(2,.ptr 600002 0),(3,.ptr 600003 0),(58,.val .bool)],[(600002,.box 133 (.val T_)),(600003,.box 133 (.val T_))]⟩),(7,[],⟨[(2,.ptr 600002 0),(3,.ptr 600003 0),(65,.val .bool)],[(600002,.box 133 (.val T_)),(600003,.box 133 (.val T_))]⟩)])],fun y=>(valW .bool y,[],[])⟩
noncomputable def V_ag (w_t:List Int×List Int→Option (Bool)) (N:Nat) (x:A4_×A4_):Option (Bool):=
 obind (cnd (decide (x.1.1=x.2.1)) (some (decide (x.1.2.1=x.2.2.1),x)) (some (false,x))) fun(b:Bool×A4_×M_)=>obind (cnd b.1 (some (decide
 (b.2.1.2.2.1=b.2.2.2.2.1),b.2)) (some (false,b.2))) fun(b:Bool×(M_)×M_)=>obind (cnd b.1 (some (decide (b.2.1.2.2.2.1=b.2.2.2.2.2.1),b.2)) (some
 (false,b.2))) fun(b:Bool×(M_)×A4_)=>obind (cnd b.1 (some (decide (b.2.1.2.2.2.2.1=b.2.2.2.2.2.2.1),b.2)) (some (false,b.2))) fun(b:Bool×A4_×M_)=>obind
 (cnd b.1 (some (decide (b.2.1.2.2.2.2.2.1=b.2.2.2.2.2.2.2.1),b.2)) (some (false,b.2))) fun(b:Bool×A4_×M_)=>obind (cnd b.1 (some (decide
 (b.2.1.2.2.2.2.2.2.2.1=b.2.2.2.2.2.2.2.2.2.1),b.2)) (some (false,b.2))) fun(b:Bool×A4_×M_)=>obind (cnd b.1 (some (decide (b.2.1.2.2.2.2.2.2.2.2.1
 = b.2.2.2.2.2.2.2.2.2.2.1),b.2)) (some (false,b.2))) fun(b:Bool×(M_)×A4_)=>obind (cnd b.1 (some (b.2.1.2.2.2.2.2.2.2.2.2==b.2.2.2.2.2.2.2.2.2.2.2,
 b.2)) (some (false,b.2))) fun(b:Bool×(M_)×A4_)=>cnd b.1 (obind (w_t (b.2.1.2.2.2.2.2.2.1,b.2.2.2.2.2.2.2.2.1)) fun b=>some b) (some
 false)
theorem q_ag:∀w_t N x,u_ag.F L0 P0 (orcOf [u_t.con w_t]) N x=V_ag w_t N x:=by intros;kernel_rfl
noncomputable def W_ag (N:Nat):=V_ag (W_t N) N
theorem con_ag_ok (N:Nat):(u_ag.con (W_ag N)).ok P0:=Uf.ok mixed (q_ag (W_t N) N) ⟨con_t_ok N,trivial⟩ Tryz.func114 (by kernel_rfl) fun x y=>by kernel_rfl
noncomputable def u_2:Uf:=⟨87,160,Tryz.f87,[.val (.agg T_)],[],
⟨[(2,.val .bool)],[]⟩,[],
[],
[(1000001,.reg [(8,[],⟨[(1,.ptr 600001 0),(12,.val .bool)],[(600001,.box 133 (.val T_))]⟩),(5,[],⟨[(1,.ptr 600001 0),(17,.val .bool)],[(600001,.box 133 (.val T_))]⟩),(5,[],⟨[(1,.ptr 600001 0),(22,.val .bool)],[(600001,.box 133 (.val T_))]⟩),(5,[],⟨[(1,.ptr 600001 0),(27,.val .bool)],[(600001,.box 133 (.val T_))]⟩),(5,[],⟨[(1,.ptr 600001 0),(32,.val .bool)],[(600001,.box 133 (.val T_))]⟩),(7,[],⟨[(1,.ptr 600001 0),(39,.val .bool)],[(600001,.box 133 (.val T_))]⟩),(5,[],⟨[(1,.ptr 600001 0),(44,.val .bool)],[(600001,.box 133 (.val T_))]⟩)]),
(1000009,.reg [(8,[],⟨[(1,.ptr 600001 0),(3,.ptr 600003 0),(80,.val .bool)],[(600001,.box 133 (.val T_)),(600003,.box 133 (.val T_))]⟩),(5,[],⟨[(1,.ptr 600001 0),(3,.ptr 600003 0),(85,.val .bool)],[(600001,.box 133 (.val T_)),(600003,.box 133 (.val T_))]⟩),(5,[],⟨[(1,.ptr 600001 0),(3,.ptr 600003 0),(90,.val .bool)],[(600001,.box 133 (.val T_)),(600003,.box 133 (.val T_))]⟩)]),
(1000017,.reg [(8,[],⟨[(1,.ptr 600001 0),(3,.ptr 600003 0),(132,.val .bool)],[(600001,.box 133 (.val T_)),(600003,.box 133 (.val T_))]⟩)]),
(20,.cut [] [(.normal,⟨[(1,.ptr 600001 0),(3,.ptr 600003 0),(139,.val .bool)],[(600001,.box 133 (.val T_)),(600003,.box 133 (.val T_))]⟩)]),
(8,.cut [] [(.normal,⟨[(1,.ptr 600001 0),(3,.ptr 600003 0),(61,.val .bool)],[(600001,.box 133 (.val T_)),(600003,.box 133 (.val T_))]⟩)]),
(22,.cut [] [(.normal,⟨[(1,.ptr 600001 0),(3,.ptr 600003 0),(4,.val .bool)],[(600001,.box 133 (.val T_)),(600003,.box 133 (.val T_))]⟩)])],fun y=>(valW .bool y,[],[])⟩
noncomputable def V_2 (w_J:List Int→Option (Bool)) (w_ai:Int→Option (Bool)) (w_j:Int×Int→Option (Bool)) (w_ag:A4_×A4_→Option (Bool)) (N:Nat) (x:A4_):Option (Bool):=
 obind (cnd (decide (x.1<(1:Int))) (some (true,x)) (some (decide ((9:Int)<x.1),x))) fun(b:Bool×A4_)=>obind (cnd b.1 (some (true,b.2)) (some (decide (b.2.2.1<(1:Int)),b.2))) fun(b:Bool×A4_)=>obind (cnd b.1 (some (true,b.2)) (some (decide ((8:Int)<b.2.2.1),b.2))) fun(b:Bool×A4_)=>obind (cnd b.1 (some (true,b.2)) (some (decide (b.2.2.2.1<(1:Int)),b.2))) fun(b
 : Bool×M_)=>obind (cnd b.1 (some (true,b.2)) (some (decide ((8:Int) <
 b.2.2.2.1),b.2))) fun(b:Bool×M_)=>obind (cnd b.1 (some (true,b.2)) (some
 (decide (b.2.2.1=b.2.2.2.1),b.2))) fun(b:Bool×M_)=>obind (cnd b.1 (some
 (true,b.2)) (some (decide (b.2.2.2.2.1<(1:Int)),b.2))) fun(b:Bool×M_)=>
 cnd b.1 (some false) (cnd (decide ((1073741824:Int)<b.2.2.2.2.1)) (some false) (obind (obind (cnd (decide (b.2.1=(2:Int))) (some (decide (b.2.1
 = (2:Int)),b.2,b.2.1,b.2.2.1,b.2.2.2.1,b.2.2.2.2.1,(0:Int),(0:Int),[],(0:Int),(0:Int),[])) (some (decide (b.2.1=(5:Int)),b.2,b.2.1,
 b.2.2.1,b.2.2.2.1,b.2.2.2.2.1,(0:Int),(0:Int),[],(0:Int),(0:Int),[]))) fun(b_1:Bool×A4_×M_)=>cnd b_1.1 (obind (cnd (decide ((0:Int) ≤
 b_1.2.1.2.2.2.2.1)) (some (decide (b_1.2.1.2.2.2.2.1≤(1073741824:Int)),b_1.2.1,b_1.2.2.1,b_1.2.2.2.1,b_1.2.2.2.2.1,b_1.2.2.2.2.2.1,
 b_1.2.1.2.2.2.2.1,b_1.2.1.2.2.2.2.2.1,b_1.2.1.2.2.2.2.2.2.1,b_1.2.2.2.2.2.2.2.2.2)) (some (false,b_1.2.1,b_1.2.2.1,b_1.2.2.2.1,b_1.2.2.2.2.1,
 b_1.2.2.2.2.2.1,b_1.2.1.2.2.2.2.1,b_1.2.1.2.2.2.2.2.1,b_1.2.1.2.2.2.2.2.2.1,b_1.2.2.2.2.2.2.2.2.2))) fun(b:Bool×A4_×M_)=>obind (cnd b.1 (some
 (decide ((0:Int)≤b.2.1.2.2.2.2.2.1),b.2)) (some (false,b.2))) fun(b:Bool×A4_×M_)=>obind (cnd b.1 (some (decide (b.2.1.2.2.2.2.2.1 ≤
 (1073741824:Int)),b.2)) (some (false,b.2))) fun(b:Bool×(M_)×A4_)=>cnd b.1 (obind (w_J b.2.1.2.2.2.2.2.2.1) fun b_2=>cnd (decide (b.2.1.1
 = (2:Int))) (cnd b_2 (obind (w_ai b.2.1.2.2.2.2.2.2.2.1) fun b_3=>some (b_3,b.2.1,b.2.2.1,b.2.2.2.1,b.2.2.2.2.1,b.2.2.2.2.2.1,
 b.2.2.2.2.2.2.1,b.2.2.2.2.2.2.2.1,b.2.2.2.2.2.2.2.2.1,b.2.1.2.2.2.2.2.2.2.1,b.2.2.2.2.2.2.2.2.2.2)) (some (false,b.2.1,b.2.2.1,b.2.2.2.1,
 b.2.2.2.2.1,b.2.2.2.2.2.1,b.2.2.2.2.2.2.1,b.2.2.2.2.2.2.2.1,b.2.2.2.2.2.2.2.2.1,b.2.1.2.2.2.2.2.2.2.1,b.2.2.2.2.2.2.2.2.2.2))) (cnd b_2 (obind
 (w_ai b.2.1.2.2.2.2.2.2.2.2.1) fun b_3=>some (b_3,b.2.1,b.2.2.1,b.2.2.2.1,b.2.2.2.2.1,b.2.2.2.2.2.1,b.2.2.2.2.2.2.1,
 b.2.2.2.2.2.2.2.1,b.2.2.2.2.2.2.2.2.1,b.2.2.2.2.2.2.2.2.2.1,b.2.1.2.2.2.2.2.2.2.2.1,b.2.2.2.2.2.2.2.2.2.2.2)) (some (false,b.2.1,b.2.2.1,
 b.2.2.2.1,b.2.2.2.2.1,b.2.2.2.2.2.1,b.2.2.2.2.2.2.1,b.2.2.2.2.2.2.2.1,b.2.2.2.2.2.2.2.2.1,b.2.2.2.2.2.2.2.2.2.1,b.2.1.2.2.2.2.2.2.2.2.1,
 b.2.2.2.2.2.2.2.2.2.2.2)))) (cnd (decide (b.2.1.1=(2:Int))) (some (false,b.2.1,b.2.2.1,b.2.2.2.1,b.2.2.2.2.1,b.2.2.2.2.2.1,b.2.2.2.2.2.2.1,
 b.2.2.2.2.2.2.2.1,b.2.2.2.2.2.2.2.2.1,b.2.1.2.2.2.2.2.2.2.1,b.2.2.2.2.2.2.2.2.2.2)) (some (false,b.2.1,b.2.2.1,b.2.2.2.1,b.2.2.2.2.1,
 b.2.2.2.2.2.1,b.2.2.2.2.2.2.1,b.2.2.2.2.2.2.2.1,b.2.2.2.2.2.2.2.2.1,b.2.2.2.2.2.2.2.2.2.1,b.2.1.2.2.2.2.2.2.2.2.1,b.2.2.2.2.2.2.2.2.2.2.2))))
 (cnd (decide (b.2.1=(7:Int))) (obind (cnd (decide ((1:Int)≤b_1.2.1.2.2.2.2.2.2.2.1)) (obind (w_ai b_1.2.1.2.2.2.2.2.2.2.1) fun b=>
 some (b,b_1.2.1,b_1.2.2.1,b_1.2.2.2.1,b_1.2.2.2.2.1,b_1.2.2.2.2.2.1,b_1.2.2.2.2.2.2.1,b_1.2.2.2.2.2.2.2.1,b_1.2.2.2.2.2.2.2.2.1,
 b_1.2.1.2.2.2.2.2.2.2.1,b_1.2.2.2.2.2.2.2.2.2.2.1,b_1.2.1.2.2.2.2.2.2.2.2.2)) (some (false,b_1.2.1,b_1.2.2.1,b_1.2.2.2.1,b_1.2.2.2.2.1,
 b_1.2.2.2.2.2.1,b_1.2.2.2.2.2.2.1,b_1.2.2.2.2.2.2.2.1,b_1.2.2.2.2.2.2.2.2.1,b_1.2.1.2.2.2.2.2.2.2.1,b_1.2.2.2.2.2.2.2.2.2.2.1,
 b_1.2.1.2.2.2.2.2.2.2.2.2))) fun(b:Bool×(M_)×A4_)=>cnd b.1 (some (decide ((↑(List.length b.2.1.2.2.2.2.2.2.2.2.2):Int)≤(12:Int)),b.2)) (some (false,
 b.2))) (obind (cnd (decide (b.2.1=(8:Int))) (some (decide (b.2.1=(8:Int)),b_1.2)) (some (decide (b.2.1=(9:Int)),b_1.2))) fun(b:Bool×(M_)×M_)=>
 cnd b.1 (obind (w_j (b.2.1.2.2.2.2.2.2.2.1,b.2.1.2.2.2.2.2.2.2.2.1)) fun b_2=>some (b_2,b.2.1,b.2.2.1,b.2.2.2.1,b.2.2.2.2.1,
 b.2.2.2.2.2.1,b.2.2.2.2.2.2.1,b.2.2.2.2.2.2.2.1,b.2.2.2.2.2.2.2.2.1,b.2.1.2.2.2.2.2.2.2.1,b.2.1.2.2.2.2.2.2.2.2.1,b.2.2.2.2.2.2.2.2.2.2.2))
 (some (true,b.2))))) fun(b:Bool×(M_)×A4_)=>cnd b.1 (obind (w_ag (b.2.2,b.2.1)) fun b=>some b) (some false)))
theorem q_2:∀w_J w_ai w_j w_ag N x,u_2.F L0 P0 (orcOf [u_J.con w_J,u_ai.con w_ai,u_j.con w_j,u_ag.con w_ag]) N x=V_2 w_J w_ai w_j w_ag N x:=by intros;kernel_rfl
noncomputable def W_2 (N:Nat):=V_2 (W_J N) (W_ai N) (W_j N) (W_ag N) N
theorem con_2_ok (N:Nat):(u_2.con (W_2 N)).ok P0:=Uf.ok mixed (q_2 (W_J N) (W_ai N) (W_j N) (W_ag N) N) ⟨con_J_ok N,con_ai_ok N,con_j_ok N,con_ag_ok N,trivial⟩ Tryz.func87 (by kernel_rfl) fun x y=>by kernel_rfl
noncomputable def u_H:Uf:=⟨88,25,Tryz.f88,[.val (.list (.int .u8)),.val (.int .i64)],[],
⟨[(4,.acc 700006)],[(700006,.nrow 5 (.int .u8) false true)]⟩,[],
[(2,.loop [] ⟨[(1,.val (.int .i64)),(5,.acc 700006)],[(700006,.nrow 5 (.int .u8) false true)]⟩ [(.exit 0,⟨[(1,.val (.int .i64)),(5,.acc 700006)],[(700006,.nrow 5 (.int .u8) false true)]⟩)])],
[],fun y=>(.acc 2000000 0,[],[.nrow 5 false true ⟨(.int .u8),y⟩])⟩
noncomputable def V_H (N:Nat) (x:List Int×Int):Option (List Int):=
 cnd (decide (List.length x.1*(1:Nat)≤(140737488355328:Nat))) (obind (loopN N (fun(v:Int×List Int)=>cnd (decide ((128:Int)≤v.1)) (cnd
 (decide ((List.length v.2+List.length [wr .u8 (wr .i64 (Int.tmod v.1 (128:Int)+(128:Int)))])*(1:Nat)≤(140737488355328:Nat))) (some (Sum.inl
 (wr .i64 (Int.tdiv v.1 (128:Int)),v.2++[wr .u8 (wr .i64 (Int.tmod v.1 (128:Int)+(128:Int)))]))) none) (some (Sum.inr v))) (x.2,x.1)) fun(b:
 Int×List Int)=>cnd (decide ((List.length b.2+List.length [wr .u8 b.1])*(1:Nat)≤(140737488355328:Nat))) (some (b.2++[wr .u8 b.1])) none)
 none
theorem q_H:∀N x,u_H.F L0 P0 (orcOf []) N x=V_H N x:=by intros;kernel_rfl
noncomputable def W_H (N:Nat):=V_H N
theorem con_H_ok (N:Nat):(u_H.con (W_H N)).ok P0:=Uf.ok mixed (q_H N) trivial Tryz.func88 (by kernel_rfl) fun x y=>by kernel_rfl
noncomputable def u_aA:Uf:=⟨89,11,Tryz.f89,[.val (.list (.int .u8)),.val .str],[],
⟨[(4,.acc 700008)],[(700008,.nrow 5 (.int .u8) false true)]⟩,[],
[],
[],fun y=>(.acc 2000000 0,[],[.nrow 5 false true ⟨(.int .u8),y⟩])⟩
noncomputable def V_aA (w_H:List Int×Int→Option (List Int)) (N:Nat) (x:List Int×List UInt8):Option (List Int):=
 obind (w_H (x.1,(↑(List.length x.2):Int))) fun b=>cnd (decide ((List.length b+List.length (List.map (fun(b:UInt8)=>(↑(UInt8.toNat b):Int)) x.2))*(1:Nat)≤(140737488355328:Nat))) (some (b++List.map (fun(b:UInt8)=>(↑(UInt8.toNat b):Int)) x.2)) none
theorem q_aA:∀w_H N x,u_aA.F L0 P0 (orcOf [u_H.con w_H]) N x=V_aA w_H N x:=by intros;kernel_rfl
noncomputable def W_aA (N:Nat):=V_aA (W_H N) N
theorem con_aA_ok (N:Nat):(u_aA.con (W_aA N)).ok P0:=Uf.ok mixed (q_aA (W_H N) N) ⟨con_H_ok N,trivial⟩ Tryz.func89 (by kernel_rfl) fun x y=>by kernel_rfl
noncomputable def u_aX:Uf:=⟨90,33,Tryz.f90,[.val (.list (.int .u8))],[],
⟨[(2,.val (.int .u32))],[]⟩,[],
[(7,.loop [] ⟨[(3,.val (.int .u32)),(5,.val (.int .i64))],[]⟩ [(.exit 2,⟨[(3,.val (.int .u32))],[]⟩)]),
(3,.loop [] ⟨[(3,.val (.int .u32)),(4,.val (.int .i64))],[]⟩ [(.exit 0,⟨[(3,.val (.int .u32))],[]⟩)])],
[],fun y=>(valW (.int .u32) y,[],[])⟩
noncomputable def V_aX (N:Nat) (x:List Int):Option (Int):=
 obind (loopN N (fun(v:Int×Int)=>cnd (decide (v.2<(↑(List.length x):Int))) (cnd (decide ((0:Int)≤v.2)&&decide (v.2<(↑(List.length x):
 Int))) (obind (loopN N (fun(v:Int×Int)=>cnd (decide (v.2<(8:Int))) (cnd (decide (Int.tmod v.1 (2:Int)=(1:Int))) (some (Sum.inl (wr .u32
 (↑(BitVec.toNat (BitVec.ofInt (32:Nat) (wr .u32 (Int.tdiv v.1 (2:Int))) ^^^ BitVec.ofInt (32:Nat) (3988292384:Int))):Int),wr .i64 (v.2 +
 (1:Int))))) (some (Sum.inl (wr .u32 (Int.tdiv v.1 (2:Int)),wr .i64 (v.2+(1:Int)))))) (some (Sum.inr v.1))) (wr .u32 (↑(BitVec.toNat (BitVec.ofInt
 (32:Nat) v.1 ^^^ BitVec.ofInt (32:Nat) (wr .u32 (List.getD x (Int.toNat v.2) (0:Int))))):Int),(0:Int))) fun(b:Int)=>some (Sum.inl (b,wr
 .i64 (v.2+(1:Int))))) none) (some (Sum.inr v.1))) ((4294967295:Int),(0:Int))) fun(b:Int)=>some (wr .u32 (↑(BitVec.toNat (BitVec.ofInt
 (32:Nat) (IntKind.max .u32) ^^^ BitVec.ofInt (32:Nat) b)):Int))
theorem q_aX:∀N x,u_aX.F L0 P0 (orcOf []) N x=V_aX N x:=by intros;kernel_rfl
noncomputable def W_aX (N:Nat):=V_aX N
theorem con_aX_ok (N:Nat):(u_aX.con (W_aX N)).ok P0:=Uf.ok mixed (q_aX N) trivial Tryz.func90 (by kernel_rfl) fun x y=>by kernel_rfl
noncomputable def u_y:Uf:=⟨68,68,Tryz.f68,[.val (.agg T_)],[],
⟨[(2,.val (.list (.int .u8)))],[]⟩,[],
[(7,.loop [3] ⟨[(1,.ptr 600001 0),(4,.acc 700051),(5,.val (.int .i64))],[(600001,.box 133 (.val T_)),(700051,.nrow 5 (.int .u8) true true)]⟩ [(.exit 0,⟨[(1,.ptr 600001 0),(4,.acc 700051)],[(600001,.box 133 (.val T_)),(700051,.nrow 5 (.int .u8) true true)]⟩)])],
[(4,.cut [] [(.normal,⟨[(1,.ptr 600001 0),(3,.acc 700025)],[(600001,.box 133 (.val T_)),(700025,.nrow 3 (.int .i64) true true)]⟩)])],fun y=>(valW (.list (.int .u8)) y,[],[])⟩
noncomputable def V_y (w_2:A4_→Option (Bool)) (w_H:List Int×Int→Option (List Int)) (w_aA:List Int×List UInt8→Option (List Int)) (w_aX:List Int→Option (Int)) (N:Nat) (x:A4_):Option (List Int):=
 obind (w_2 x) fun b=>cnd (!b) (some []) (cnd (decide ((List.length [x.1,x.2.1,x.2.2.1,x.2.2.2.1,x.2.2.2.2.1,x.2.2.2.2.2.1,
 (↑(List.length x.2.2.2.2.2.2.1):Int)]+List.length x.2.2.2.2.2.2.1)*(8:Nat)≤(140737488355328:Nat))) (cnd (decide ((List.length ([x.1,x.2.1,
 x.2.2.1,x.2.2.2.1,x.2.2.2.2.1,x.2.2.2.2.2.1,(↑(List.length x.2.2.2.2.2.2.1):Int)]++x.2.2.2.2.2.2.1)+List.length [x.2.2.2.2.2.2.2.1,
 x.2.2.2.2.2.2.2.2.1])*(8:Nat)≤(140737488355328:Nat))) (obind (loopN N (fun(v:Int×A4_×List Int)=>cnd (decide (v.1<(↑(List.length ([x.1,x.2.1,x.2.2.1,x.2.2.2.1,x.2.2.2.2.1,x.2.2.2.2.2.1,(↑(List.length
 x.2.2.2.2.2.2.1):Int)]++x.2.2.2.2.2.2.1++[x.2.2.2.2.2.2.2.1,x.2.2.2.2.2.2.2.2.1])):Int))) (cnd (decide ((0:Int)≤v.1)&&decide (v.1 <
 (↑(List.length ([x.1,x.2.1,x.2.2.1,x.2.2.2.1,x.2.2.2.2.1,x.2.2.2.2.2.1,(↑(List.length x.2.2.2.2.2.2.1):Int)]++x.2.2.2.2.2.2.1++
 [x.2.2.2.2.2.2.2.1,x.2.2.2.2.2.2.2.2.1])):Int))) (obind (w_H (v.2.2,List.getD ([x.1,x.2.1,x.2.2.1,x.2.2.2.1,x.2.2.2.2.1,
 x.2.2.2.2.2.1,(↑(List.length x.2.2.2.2.2.2.1):Int)]++x.2.2.2.2.2.2.1++[x.2.2.2.2.2.2.2.1,x.2.2.2.2.2.2.2.2.1]) (Int.toNat v.1) (0:Int))) fun
 b=>some (Sum.inl (wr .i64 (v.1+(1:Int)),v.2.1,b))) none) (some (Sum.inr v.2))) ((0:Int),x,[])) fun(b:A4_×List Int)=>obind (w_aA (b.2,b.1.2.2.2.2.2.2.2.2.2)) fun b=>obind (w_aX b) fun b_1=>
 cnd (decide ((List.length b+List.length [wr .u8 (Int.fdiv b_1 ((2:Int) ^ (24:Nat))),wr .u8 (Int.fdiv b_1 ((2:Int) ^ (16:Nat))),wr .u8 (Int.fdiv
 b_1 ((2:Int) ^ (8:Nat))),wr .u8 b_1])*(1:Nat)≤(140737488355328:Nat))) (some (b++[wr .u8 (Int.fdiv b_1 ((2:Int) ^ (24:Nat))),wr .u8 (Int.fdiv
 b_1 ((2:Int) ^ (16:Nat))),wr .u8 (Int.fdiv b_1 ((2:Int) ^ (8:Nat))),wr .u8 b_1])) none) none) none)
theorem q_y:∀w_2 w_H w_aA w_aX N x,u_y.F L0 P0 (orcOf [u_2.con w_2,u_H.con w_H,u_aA.con w_aA,u_aX.con w_aX]) N x=V_y w_2 w_H w_aA w_aX N x:=by intros;kernel_rfl
noncomputable def W_y (N:Nat):=V_y (W_2 N) (W_H N) (W_aA N) (W_aX N) N
theorem con_y_ok (N:Nat):(u_y.con (W_y N)).ok P0:=Uf.ok mixed (q_y (W_2 N) (W_H N) (W_aA N) (W_aX N) N) ⟨con_2_ok N,con_H_ok N,con_aA_ok N,con_aX_ok N,trivial⟩ Tryz.func68 (by kernel_rfl) fun x y=>by kernel_rfl
noncomputable def u_O:Uf:=⟨69,17,Tryz.f69,[.val (.list T10_),.val T10_],[],
⟨[(4,.val (.list T10_))],[]⟩,[],
[],
[],fun y=>(valW (.list T10_) y,[],[])⟩
noncomputable def V_O (N:Nat) (x:List (Int×List UInt8×Bool)×Int×List UInt8×Bool):Option (List (Int×List UInt8×Bool)):=
 cnd (decide (List.length x.1*(32:Nat)≤(140737488355328:Nat))) (cnd (decide ((↑(List.length x.1):Int)<(60:Int))) (cnd (decide ((List.length x.1+List.length [x.2])*(32:Nat)≤(140737488355328:Nat))) (some (x.1++[x.2])) none) (some x.1)) none
theorem q_O:∀N x,u_O.F L0 P0 (orcOf []) N x=V_O N x:=by intros;kernel_rfl
noncomputable def W_O (N:Nat):=V_O N
theorem con_O_ok (N:Nat):(u_O.con (W_O N)).ok P0:=Uf.ok mixed (q_O N) trivial Tryz.func69 (by kernel_rfl) fun x y=>by kernel_rfl
noncomputable def u_l:Uf:=⟨43,48,Tryz.f43,[.val (.agg T2_),.val (.int .i64),.val (.agg T0_),.val (.list (.agg T_))],[],
⟨[(8,.ptr 600008 0)],[(600008,.box 32 (.val T2_))]⟩,[],
[(4,.loop [] ⟨[(4,.ptr 600004 0),(8,.ptr 600008 0),(9,.val (.int .i64))],[(600004,.box 32 (.val T2_)),(600008,.box 32 (.val T2_))]⟩ [(.exit 0,⟨[(4,.ptr 600004 0),(8,.ptr 600008 0)],[(600004,.box 32 (.val T2_)),(600008,.box 32 (.val T2_))]⟩)])],
[],fun y=>(valW (.agg T2_) y,[],[])⟩
noncomputable def V_l (w_y:A4_→Option (List Int)) (w_O:List (Int×List UInt8×Bool)×Int×List UInt8×Bool→Option (List (Int×List UInt8×Bool))) (N:Nat) (x:(List A0_×A1_)×Int×A0_×List A4_):Option (List A0_×A1_):=
 cnd (decide (List.length x.1.1*(280:Nat)≤(140737488355328:Nat))) (cnd (decide ((0:Int)≤x.2.1)&&decide (x.2.1<(↑(List.length x.1.1):Int)))
 (obind (loopN N (fun(v:Int×(List A0_×A1_)×List A0_×A1_)=>cnd (decide (v.1<(↑(List.length x.2.2.2):Int))) (cnd (decide ((0:Int)≤v.1)&&decide (v.1 <
 (↑(List.length x.2.2.2):Int))) (obind (w_y (List.getD x.2.2.2 (Int.toNat v.1) ((0:Int),(0:Int),(0:Int),(0:Int),(0:Int),(0:Int),
 [],(0:Int),(0:Int),[]))) fun b=>cnd (decide ((0:Int)<(↑(List.length b):Int))) (cnd (decide ((0:Int)≤v.1)&&decide (v.1<(↑(List.length
 x.2.2.2):Int))) (cnd (List.all b fun(n:Int)=>decide ((0:Int)≤n)&&decide (n<(256:Int))) (obind (w_O (v.2.1.2.1,Prod.fst
 (Prod.snd (Prod.snd (List.getD x.2.2.2 (Int.toNat v.1) ((0:Int),(0:Int),(0:Int),(0:Int),(0:Int),(0:Int),[],(0:Int),(0:Int),[])))),bytesI
 b,false)) fun b=>some (Sum.inl (wr .i64 (v.1+(1:Int)),(v.2.1.1,b,v.2.1.2.2),v.2.2))) none) none) (some (Sum.inl (wr .i64 (v.1+(1:Int)),
 v.2)))) none) (some (Sum.inr v.2))) ((0:Int),(putL x.1.1 [x.2.2.1] (Int.toNat x.2.1),x.1.2),[],[],[],(0:Int),[],[])) fun(b:(List A0_×A1_)×List A0_×A1_)=>
 some b.1) none) none
theorem q_l:∀w_y w_O N x,u_l.F L0 P0 (orcOf [u_y.con w_y,u_O.con w_O]) N x=V_l w_y w_O N x:=by intros;kernel_rfl
noncomputable def W_l (N:Nat):=V_l (W_y N) (W_O N) N
theorem con_l_ok (N:Nat):(u_l.con (W_l N)).ok P0:=Uf.ok mixed (q_l (W_y N) (W_O N) N) ⟨con_y_ok N,con_O_ok N,trivial⟩ Tryz.func43 (by kernel_rfl) fun x y=>by kernel_rfl
noncomputable def u_ao:Uf:=⟨102,29,Tryz.f102,[.val (.list T11_),.val (.int .i64)],[],
⟨[(4,.val (.list T11_))],[]⟩,[],
[(3,.loop [] ⟨[(5,.acc 700005),(6,.val (.int .i64))],[(700005,.nrow 159 T11_ true true)]⟩ [(.exit 0,⟨[(5,.val (.list T11_))],[]⟩)])],
[],fun y=>(valW (.list T11_) y,[],[])⟩
noncomputable def V_ao (N:Nat) (x:List (Int×Int×Int)×Int):Option (List (Int×Int×Int)):=
 obind (loopN N (fun(v:Int×List (Int×Int×Int))=>cnd (decide (v.1<(↑(List.length x.1):Int))) (cnd (decide ((0:Int)≤v.1)&&decide (v.1
 < (↑(List.length x.1):Int))) (cnd (decide (wr .i64 (x.2-Prod.snd (Prod.snd (List.getD x.1 (Int.toNat v.1) ((0:Int),(0:Int),(0:Int))))) ≤
 (20:Int))) (cnd (decide ((0:Int)≤v.1)&&decide (v.1<(↑(List.length x.1):Int))) (cnd (decide ((List.length v.2+List.length [(List.getD x.1
 (Int.toNat v.1) ((0:Int),(0:Int),(0:Int)))])*(24:Nat)≤(140737488355328:Nat))) (some (Sum.inl (wr .i64 (v.1+(1:Int)),v.2++[(List.getD x.1
 (Int.toNat v.1) ((0:Int),(0:Int),(0:Int)))]))) none) none) (some (Sum.inl (wr .i64 (v.1+(1:Int)),v.2)))) none) (some (Sum.inr v.2))) ((0:Int),
 [])) fun(b:List (Int×Int×Int))=>some b
theorem q_ao:∀N x,u_ao.F L0 P0 (orcOf []) N x=V_ao N x:=by intros;kernel_rfl
noncomputable def W_ao (N:Nat):=V_ao N
theorem con_ao_ok (N:Nat):(u_ao.con (W_ao N)).ok P0:=Uf.ok mixed (q_ao N) trivial Tryz.func102 (by kernel_rfl) fun x y=>by kernel_rfl
noncomputable def u_C:Uf:=⟨103,19,Tryz.f103,[.val (.agg T1_)],[],
⟨[(2,.val .bool)],[]⟩,[],
[],
[],fun y=>(valW .bool y,[],[])⟩
noncomputable def V_C (N:Nat) (x:A2_):Option (Bool):=
 cnd (decide (x.1=(1:Int))) (some true) (cnd (decide (x.2.2.2.1≠(0:Int))) (some (decide (wr .i64 (x.2.2.1-x.2.2.2.2.2.2.2.2.1)≤(20:Int)))) (some false))
theorem q_C:∀N x,u_C.F L0 P0 (orcOf []) N x=V_C N x:=by intros;kernel_rfl
noncomputable def W_C (N:Nat):=V_C N
theorem con_C_ok (N:Nat):(u_C.con (W_C N)).ok P0:=Uf.ok mixed (q_C N) trivial Tryz.func103 (by kernel_rfl) fun x y=>by kernel_rfl
noncomputable def u_R:Uf:=⟨104,12,Tryz.f104,[.val (.agg T1_),.val (.int .i64)],[],
⟨[(4,.ptr 600004 0)],[(600004,.box 46 (.val T1_))]⟩,[],
[],
[],fun y=>(valW (.agg T1_) y,[],[])⟩
noncomputable def V_R (N:Nat) (x:A2_×Int):Option A2_:=
 some (x.1.1,x.1.2.1,x.1.2.2.1,(0:Int),(0:Int),x.1.2.2.2.2.2.1,[],x.1.2.2.2.2.2.2.2.1,x.1.2.2.2.2.2.2.2.2.1,(0:Int),x.1.2.2.2.2.2.2.2.2.2.2.1,x.2,x.1.2.2.2.2.2.2.2.2.2.2.2.2)
theorem q_R:∀N x,u_R.F L0 P0 (orcOf []) N x=V_R N x:=by intros;kernel_rfl
noncomputable def W_R (N:Nat):=V_R N
theorem con_R_ok (N:Nat):(u_R.con (W_R N)).ok P0:=Uf.ok mixed (q_R N) trivial Tryz.func104 (by kernel_rfl) fun x y=>by kernel_rfl
noncomputable def u_b:Uf:=⟨82,14,Tryz.f82,[.val (.agg T1_),.val (.int .i64),.val (.int .i64)],[],
⟨[(6,.ptr 600006 0)],[(600006,.box 133 (.val T_))]⟩,[],
[],
[],fun y=>(valW (.agg T_) y,[],[])⟩
noncomputable def V_b (N:Nat) (x:A2_×Int×Int):Option A4_:=
 some (x.2.1,x.1.1,x.2.2,x.1.2.1,(0:Int),(0:Int),[],(0:Int),(0:Int),[])
theorem q_b:∀N x,u_b.F L0 P0 (orcOf []) N x=V_b N x:=by intros;kernel_rfl
noncomputable def W_b (N:Nat):=V_b N
theorem con_b_ok (N:Nat):(u_b.con (W_b N)).ok P0:=Uf.ok mixed (q_b N) trivial Tryz.func82 (by kernel_rfl) fun x y=>by kernel_rfl
noncomputable def u_E:Uf:=⟨105,27,Tryz.f105,[.val (.agg T1_),.val (.int .i64),.val (.int .i64)],[],
⟨[(6,.ptr 600006 0)],[(600006,.box 133 (.val T_))]⟩,[],
[],
[],fun y=>(valW (.agg T_) y,[],[])⟩
noncomputable def V_E (w_b:A2_×Int×Int→Option A4_) (N:Nat) (x:A2_×Int×Int):Option A4_:=
 obind (w_b x) fun b=>cnd (decide (List.length x.1.2.2.2.2.2.2.1*(8:Nat)≤(140737488355328:Nat))) (some (b.1,b.2.1,b.2.2.1,b.2.2.2.1,x.1.2.2.2.2.2.2.2.1,wr .i64 (x.1.2.2.1-x.1.2.2.2.2.2.2.2.2.1),x.1.2.2.2.2.2.2.1,b.2.2.2.2.2.2.2)) none
theorem q_E:∀w_b N x,u_E.F L0 P0 (orcOf [u_b.con w_b]) N x=V_E w_b N x:=by intros;kernel_rfl
noncomputable def W_E (N:Nat):=V_E (W_b N) N
theorem con_E_ok (N:Nat):(u_E.con (W_E N)).ok P0:=Uf.ok mixed (q_E (W_b N) N) ⟨con_b_ok N,trivial⟩ Tryz.func105 (by kernel_rfl) fun x y=>by kernel_rfl
noncomputable def u_am:Uf:=⟨80,131,Tryz.f80,[.val (.agg T1_)],[],
⟨[(2,.ptr 600002 0),(3,.val (.list (.agg T_)))],[(600002,.box 46 (.val T1_))]⟩,[],
[(23,.loop [] ⟨[(1,.ptr 600001 0),(2,.ptr 600002 0),(5,.acc 700005),(6,.val (.int .i64))],[(600001,.box 46 (.val T1_)),(600002,.box 46 (.val T1_)),(700005,.nrow 133 (.agg T_) true true)]⟩ [(.exit 0,⟨[(1,.ptr 600001 0),(2,.ptr 600002 0),(5,.val (.list (.agg T_)))],[(600001,.box 46 (.val T1_)),(600002,.box 46 (.val T1_))]⟩)])],
[(1000015,.reg [(8,[],⟨[(1,.ptr 600001 0),(2,.ptr 600002 0),(75,.val .bool)],[(600001,.box 46 (.val T1_)),(600002,.box 46 (.val T1_))]⟩)]),
(17,.cut [] [(.normal,⟨[(1,.ptr 600001 0),(2,.ptr 600002 0)],[(600001,.box 46 (.val T1_)),(600002,.box 46 (.val T1_))]⟩)]),
(13,.cut [] [(.normal,⟨[(1,.ptr 600001 0),(2,.ptr 600002 0)],[(600001,.box 46 (.val T1_)),(600002,.box 46 (.val T1_))]⟩)]),
(10,.cut [] [(.normal,⟨[(1,.ptr 600001 0),(2,.ptr 600002 0)],[(600001,.box 46 (.val T1_)),(600002,.box 46 (.val T1_))]⟩)]),
(22,.cut [] [(.normal,⟨[(1,.ptr 600001 0),(2,.ptr 600002 0),(5,.acc 700005)],[(600001,.box 46 (.val T1_)),(600002,.box 46 (.val T1_)),(700005,.nrow 133 (.agg T_) true true)]⟩)]),
(18,.cut [] [(.normal,⟨[(1,.ptr 600001 0),(2,.ptr 600002 0),(5,.acc 700005)],[(600001,.box 46 (.val T1_)),(600002,.box 46 (.val T1_)),(700005,.nrow 133 (.agg T_) true true)]⟩)])],fun y=>(.tup [valW (.agg T1_) y.2,valW (.list (.agg T_)) y.1],[],[])⟩
noncomputable def V_am (w_ao:List (Int×Int×Int)×Int→Option (List (Int×Int×Int))) (w_C:A2_→Option (Bool)) (w_R:A2_×Int→Option A2_) (w_b:A2_×Int×Int→Option A4_) (w_E:A2_×Int×Int→Option A4_) (N:Nat) (x:A2_):Option (List A4_×A2_):=
 obind (w_ao (x.2.2.2.2.2.2.2.2.2.2.2.2,wr .i64 (x.2.2.1+(1:Int)))) fun b=>obind (cnd (decide (x.1=(1:Int))) (cnd (decide (Int.tmod
 (wr .i64 (x.2.2.1+(1:Int))) (2:Int)=(0:Int))) (some ((x.1,x.2.1,wr .i64 (x.2.2.1+(1:Int)),x.2.2.2.1,x.2.2.2.2.1,x.2.2.2.2.2.1,
 x.2.2.2.2.2.2.1,wr .i64 (x.2.2.2.2.2.2.2.1+(1:Int)),wr .i64 (x.2.2.1+(1:Int)),x.2.2.2.2.2.2.2.2.2.1,x.2.2.2.2.2.2.2.2.2.2.1,
 x.2.2.2.2.2.2.2.2.2.2.2.1,b),((0:Int),(0:Int),(0:Int),(0:Int),(0:Int),(0:Int),[],(0:Int),(0:Int),(0:Int),(0:Int),(0:Int),[]),[]))
 (some ((x.1,x.2.1,wr .i64 (x.2.2.1+(1:Int)),x.2.2.2.1,x.2.2.2.2.1,x.2.2.2.2.2.1,x.2.2.2.2.2.2.1,x.2.2.2.2.2.2.2.1,x.2.2.2.2.2.2.2.2.1,
 x.2.2.2.2.2.2.2.2.2.1,x.2.2.2.2.2.2.2.2.2.2.1,x.2.2.2.2.2.2.2.2.2.2.2.1,b),((0:Int),(0:Int),(0:Int),(0:Int),(0:Int),(0:Int),[],(0:Int),
 (0:Int),(0:Int),(0:Int),(0:Int),[]),[]))) (obind (cnd (decide (x.2.2.2.1≠(0:Int))) (obind (w_C (x.1,x.2.1,wr .i64 (x.2.2.1 +
 (1:Int)),x.2.2.2.1,x.2.2.2.2.1,x.2.2.2.2.2.1,x.2.2.2.2.2.2.1,x.2.2.2.2.2.2.2.1,x.2.2.2.2.2.2.2.2.1,x.2.2.2.2.2.2.2.2.2.1,
 x.2.2.2.2.2.2.2.2.2.2.1,x.2.2.2.2.2.2.2.2.2.2.2.1,b)) fun b_1=>cnd (!b_1) (obind (w_R ((x.1,x.2.1,wr .i64 (x.2.2.1+(1:Int)),
 x.2.2.2.1,x.2.2.2.2.1,x.2.2.2.2.2.1,x.2.2.2.2.2.2.1,x.2.2.2.2.2.2.2.1,x.2.2.2.2.2.2.2.2.1,x.2.2.2.2.2.2.2.2.2.1,x.2.2.2.2.2.2.2.2.2.2.1,
 x.2.2.2.2.2.2.2.2.2.2.2.1,b),(0:Int))) fun b=>some (b,(0:Int),(0:Int),(0:Int),(0:Int),(0:Int),(0:Int),[],(0:Int),(0:Int),(0:Int),
 (0:Int),(0:Int),[])) (some ((x.1,x.2.1,wr .i64 (x.2.2.1+(1:Int)),x.2.2.2.1,x.2.2.2.2.1,x.2.2.2.2.2.1,x.2.2.2.2.2.2.1,x.2.2.2.2.2.2.2.1,
 x.2.2.2.2.2.2.2.2.1,x.2.2.2.2.2.2.2.2.2.1,x.2.2.2.2.2.2.2.2.2.2.1,x.2.2.2.2.2.2.2.2.2.2.2.1,b),(0:Int),(0:Int),(0:Int),(0:Int),(0:Int),
 (0:Int),[],(0:Int),(0:Int),(0:Int),(0:Int),(0:Int),[]))) (some ((x.1,x.2.1,wr .i64 (x.2.2.1+(1:Int)),x.2.2.2.1,x.2.2.2.2.1,
 x.2.2.2.2.2.1,x.2.2.2.2.2.2.1,x.2.2.2.2.2.2.2.1,x.2.2.2.2.2.2.2.2.1,x.2.2.2.2.2.2.2.2.2.1,x.2.2.2.2.2.2.2.2.2.2.1,x.2.2.2.2.2.2.2.2.2.2.2.1,
 b),(0:Int),(0:Int),(0:Int),(0:Int),(0:Int),(0:Int),[],(0:Int),(0:Int),(0:Int),(0:Int),(0:Int),[]))) fun(b:A2_×A2_)=>cnd (decide (b.1.2.2.2.1=(0:Int))) (obind (cnd (decide (b.1.2.2.2.2.2.2.2.2.2.1≠(0:Int))) (cnd (decide
 (b.1.2.2.2.2.2.2.2.2.2.2.1≤b.1.2.2.1)) (some ((b.1.1,b.1.2.1,b.1.2.2.1,b.1.2.2.2.1,b.1.2.2.2.2.1,b.1.2.2.2.2.2.1,b.1.2.2.2.2.2.2.1,
 b.1.2.2.2.2.2.2.2.1,b.1.2.2.2.2.2.2.2.2.1,(0:Int),b.1.2.2.2.2.2.2.2.2.2.2.1,wr .i64 (b.1.2.2.2.2.2.2.2.2.2.2.2.1+(1:Int)),
 b.1.2.2.2.2.2.2.2.2.2.2.2.2),b.2)) (some b)) (some b)) fun(b:A2_×A2_)=>cnd (decide
 (b.1.2.2.2.2.2.2.2.2.2.1=(0:Int))) (obind (obind (cnd (decide (b.1.2.2.2.2.2.2.2.2.2.2.2.1=(0:Int))) (some (decide (b.1.2.2.2.2.2.1≠(0:Int)),
 (b.1.1,b.1.2.1,b.1.2.2.1,b.1.2.2.2.1,b.1.2.2.2.2.1,b.1.2.2.2.2.2.1,b.1.2.2.2.2.2.2.1,b.1.2.2.2.2.2.2.2.1,b.1.2.2.2.2.2.2.2.2.1,(1:Int),wr
 .i64 (b.1.2.2.1+(3:Int)),b.1.2.2.2.2.2.2.2.2.2.2.2),b.2)) (some (false,(b.1.1,b.1.2.1,b.1.2.2.1,b.1.2.2.2.1,b.1.2.2.2.2.1,b.1.2.2.2.2.2.1,
 b.1.2.2.2.2.2.2.1,b.1.2.2.2.2.2.2.2.1,b.1.2.2.2.2.2.2.2.2.1,(1:Int),wr .i64 (b.1.2.2.1+(3:Int)),b.1.2.2.2.2.2.2.2.2.2.2.2),b.2))) fun(b:
 Bool×A2_×A2_)=>cnd b.1 (cnd (decide (b.2.1.2.2.2.2.2.1≠b.2.1.1)) (some ((b.2.1.1,b.2.1.2.1,
 b.2.1.2.2.1,b.2.1.2.2.2.1,b.2.1.2.2.2.2.1,b.2.1.2.2.2.2.2.1,b.2.1.2.2.2.2.2.2.1,b.2.1.2.2.2.2.2.2.2.1,b.2.1.2.2.2.2.2.2.2.2.1,
 b.2.1.2.2.2.2.2.1,b.2.1.2.2.2.2.2.2.2.2.2.2),b.2.2)) (some b.2)) (some b.2)) fun(b:A2_×A2_)=>
 obind (w_b (b.1,(1:Int),b.1.2.2.2.2.2.2.2.2.2.1)) fun b_1=>some (b.1,b.2,[b_1])) (some (b.1,b.2,[]))) (some (b.1,b.2,[])))) fun
 (b:A2_×A2_×List (M_))=>
 cnd (!decide (Int.tmod (wr .i64 (x.2.2.1+(1:Int))) (2:Int)=(0:Int))) (some (b.2.2,b.1)) (obind (cnd (decide (b.1.2.2.2.1≠(0:Int))) (obind
 (w_b (b.1,(4:Int),b.1.2.2.2.1)) fun b_1=>cnd (decide ((List.length b.2.2+List.length [b_1])*(104:Nat)≤(140737488355328:Nat)))
 (some (b.1,b.2.1,b.2.2++[b_1])) none) (some b)) fun(b:A2_×A2_×List A4_)=>obind (loopN N (fun(v:Int×A2_×A2_×List (M_))=>cnd (decide (v.1<(↑(List.length v.2.1.2.2.2.2.2.2.2.2.2.2.2.2):
 Int))) (obind (w_C v.2.1) fun b=>cnd b (cnd (decide ((0:Int)≤v.1)&&decide (v.1<(↑(List.length v.2.1.2.2.2.2.2.2.2.2.2.2.2.2):
 Int))) (obind (w_E (v.2.1,(5:Int),Prod.fst (List.getD v.2.1.2.2.2.2.2.2.2.2.2.2.2.2 (Int.toNat v.1) ((0:Int),(0:Int),(0:Int))))) fun
 b=>cnd (decide ((List.length v.2.2.2+List.length [b])*(104:Nat)≤(140737488355328:Nat))) (some (Sum.inl (wr .i64 (v.1+(1:Int)),v.2.1,
 v.2.2.1,v.2.2.2++[b]))) none) none) (some (Sum.inr (v.2.2.2,v.2.1,v.2.2.1)))) (some (Sum.inr (v.2.2.2,v.2.1,v.2.2.1)))) ((0:Int),b)) fun(b
 : List (M_)×A2_×A2_)=>some
 (b.1,b.2.1))
theorem q_am:∀w_ao w_C w_R w_b w_E N x,u_am.F L0 P0 (orcOf [u_ao.con w_ao,u_C.con w_C,u_R.con w_R,u_b.con w_b,u_E.con w_E]) N x=V_am w_ao w_C w_R w_b w_E N x:=by intros;kernel_rfl
noncomputable def W_am (N:Nat):=V_am (W_ao N) (W_C N) (W_R N) (W_b N) (W_E N) N
theorem con_am_ok (N:Nat):(u_am.con (W_am N)).ok P0:=Uf.ok mixed (q_am (W_ao N) (W_C N) (W_R N) (W_b N) (W_E N) N) ⟨con_ao_ok N,con_C_ok N,con_R_ok N,con_b_ok N,con_E_ok N,trivial⟩ Tryz.func80 (by kernel_rfl) fun x y=>by kernel_rfl
noncomputable def u_B:Uf:=⟨126,10,Tryz.f126,[.val (.list T9_)],[],
⟨[(2,.val (.int .i64))],[]⟩,[],
[],
[],fun y=>(valW (.int .i64) y,[],[])⟩
noncomputable def V_B (N:Nat) (x:List (Int×List UInt8)):Option (Int):=
 cnd (decide ((↑(List.length x):Int)=(0:Int))) (some (0:Int)) (cnd (decide ((0:Int)≤(0:Int))&&decide ((0:Int)<(↑(List.length x):Int))) (some (Prod.fst (List.getD x (0:Nat) ((0:Int),[])))) none)
theorem q_B:∀N x,u_B.F L0 P0 (orcOf []) N x=V_B N x:=by intros;kernel_rfl
noncomputable def W_B (N:Nat):=V_B N
theorem con_B_ok (N:Nat):(u_B.con (W_B N)).ok P0:=Uf.ok mixed (q_B N) trivial Tryz.func126 (by kernel_rfl) fun x y=>by kernel_rfl
noncomputable def u_aH:Uf:=⟨106,29,Tryz.f106,[.val (.agg T3_)],[],
⟨[(2,.ptr 600002 0),(3,.val .bool)],[(600002,.box 76 (.val T5_))]⟩,[],
[],
[(4,.cut [] [(.normal,⟨[(1,.ptr 600001 0),(2,.ptr 600002 0),(4,.val (.int .i64))],[(600001,.box 42 (.val T3_)),(600002,.box 76 (.val T5_))]⟩)])],fun y=>(.tup [valW (.agg T5_) y.2,valW .bool y.1],[],[])⟩
noncomputable def V_aH (w_B:List (Int×List UInt8)→Option (Int)) (N:Nat) (x:A3_):Option (Bool×Int×Int):=
 obind (cnd (decide ((0:Int)<(↑(List.length x.2.2.2.1):Int))) (obind (w_B x.2.2.2.1) fun b=>some (wr .i64 (b-(1:Int)),x,(0:Int),
 (0:Int))) (some (x.2.1,x,(0:Int),(0:Int)))) fun(b:Int×A3_×Int×Int)=>cnd (decide (b.2.1.1=(0:Int))) (some (false,(0:Int),(0:Int))) (cnd (decide (b.1<b.2.1.1))
 (some (false,(0:Int),(0:Int))) (some (true,b.2.1.1,b.1)))
theorem q_aH:∀w_B N x,u_aH.F L0 P0 (orcOf [u_B.con w_B]) N x=V_aH w_B N x:=by intros;kernel_rfl
noncomputable def W_aH (N:Nat):=V_aH (W_B N) N
theorem con_aH_ok (N:Nat):(u_aH.con (W_aH N)).ok P0:=Uf.ok mixed (q_aH (W_B N) N) ⟨con_B_ok N,trivial⟩ Tryz.func106 (by kernel_rfl) fun x y=>by kernel_rfl
noncomputable def u_a2:Uf:=⟨107,14,Tryz.f107,[.val (.agg T5_),.val (.int .i64)],[],
⟨[(4,.val .bool)],[]⟩,[],
[],
[],fun y=>(valW .bool y,[],[])⟩
noncomputable def V_a2 (N:Nat) (x:(Int×Int)×Int):Option (Bool):=
 cnd (decide (x.1.1=(0:Int))) (some true) (some (decide (x.1.2≤x.2)))
theorem q_a2:∀N x,u_a2.F L0 P0 (orcOf []) N x=V_a2 N x:=by intros;kernel_rfl
noncomputable def W_a2 (N:Nat):=V_a2 N
theorem con_a2_ok (N:Nat):(u_a2.con (W_a2 N)).ok P0:=Uf.ok mixed (q_a2 N) trivial Tryz.func107 (by kernel_rfl) fun x y=>by kernel_rfl
noncomputable def u_al:Uf:=⟨127,18,Tryz.f127,[.val (.list (.agg T6_)),.val (.int .i64),.val (.int .i64),.val (.int .i64)],[],
⟨[(8,.val (.list (.agg T6_)))],[]⟩,[],
[],
[],fun y=>(valW (.list (.agg T6_)) y,[],[])⟩
noncomputable def V_al (N:Nat) (x:List (Int×A6_)×Int×Int×Int):Option (List (Int×A6_)):=
 cnd (decide (List.length x.1*(48:Nat)≤(140737488355328:Nat))) (cnd (decide ((List.length x.1+(1:Nat))*(48:Nat)≤(140737488355328:Nat))) (some (x.1++[((2:Int),x.2.1,x.2.2.1,[],x.2.2.2)])) none) none
theorem q_al:∀N x,u_al.F L0 P0 (orcOf []) N x=V_al N x:=by intros;kernel_rfl
noncomputable def W_al (N:Nat):=V_al N
theorem con_al_ok (N:Nat):(u_al.con (W_al N)).ok P0:=Uf.ok mixed (q_al N) trivial Tryz.func127 (by kernel_rfl) fun x y=>by kernel_rfl
noncomputable def u_Z:Uf:=⟨128,27,Tryz.f128,[.val (.list T9_),.val (.int .i64)],[],
⟨[(4,.val (.list T9_)),(5,.ptr 600005 0),(6,.val .bool)],[(600005,.box 157 (.val (.pair (.int .i64) .str)))]⟩,[],
[],
[],fun y=>(.tup [valW (.list T9_) y.1,valW T9_ y.2.2,valW .bool y.2.1],[],[])⟩
noncomputable def V_Z (N:Nat) (x:List (Int×List UInt8)×Int):Option (List (Int×List UInt8)×Bool×Int×List UInt8):=
 cnd (decide ((↑(List.length x.1):Int)=(0:Int))) (some (x.1,false,(0:Int),[])) (cnd (decide ((0:Int)≤(0:Int))&&decide ((0:Int) <
 (↑(List.length x.1):Int))) (cnd (decide (Prod.fst (List.getD x.1 (0:Nat) ((0:Int),[]))≠x.2)) (some (x.1,false,(0:Int),[])) (cnd (decide
 ((0:Int)≤(1:Int))&&decide ((1:Int)≤(↑(List.length x.1):Int))) (cnd (decide (List.length (List.drop (1:Nat) (List.take (List.length x.1)
 x.1))*(24:Nat)≤(140737488355328:Nat))) (cnd (decide ((0:Int)≤(0:Int))&&decide ((0:Int)<(↑(List.length x.1):Int))) (some (List.drop
 (1:Nat) (List.take (List.length x.1) x.1),true,List.getD x.1 (0:Nat) ((0:Int),[]))) none) none) none)) none)
theorem q_Z:∀N x,u_Z.F L0 P0 (orcOf []) N x=V_Z N x:=by intros;kernel_rfl
noncomputable def W_Z (N:Nat):=V_Z N
theorem con_Z_ok (N:Nat):(u_Z.con (W_Z N)).ok P0:=Uf.ok mixed (q_Z N) trivial Tryz.func128 (by kernel_rfl) fun x y=>by kernel_rfl
noncomputable def u_Q:Uf:=⟨85,16,Tryz.f85,[.val (.list (.agg T6_)),.val (.int .i64),.val .str],[],
⟨[(6,.val (.list (.agg T6_)))],[]⟩,[],
[],
[],fun y=>(valW (.list (.agg T6_)) y,[],[])⟩
noncomputable def V_Q (N:Nat) (x:List (Int×A6_)×Int×List UInt8):Option (List (Int×A6_)):=
 cnd (decide (List.length x.1*(48:Nat)≤(140737488355328:Nat))) (cnd (decide ((List.length x.1+List.length [((1:Int),x.2.1,x.2.1,x.2.2,(0:Int))])*(48:Nat)≤(140737488355328:Nat))) (some (x.1++[((1:Int),x.2.1,x.2.1,x.2.2,(0:Int))])) none) none
theorem q_Q:∀N x,u_Q.F L0 P0 (orcOf []) N x=V_Q N x:=by intros;kernel_rfl
noncomputable def W_Q (N:Nat):=V_Q N
theorem con_Q_ok (N:Nat):(u_Q.con (W_Q N)).ok P0:=Uf.ok mixed (q_Q N) trivial Tryz.func85 (by kernel_rfl) fun x y=>by kernel_rfl
noncomputable def u_G:Uf:=⟨86,35,Tryz.f86,[.val (.list T9_),.val T9_],[],
⟨[(4,.val (.list T9_))],[]⟩,[],
[],
[],fun y=>(valW (.list T9_) y,[],[])⟩
noncomputable def V_G (N:Nat) (x:List (Int×List UInt8)×Int×List UInt8):Option (List (Int×List UInt8)):=
 cnd (decide (List.length x.1*(24:Nat)≤(140737488355328:Nat))) (cnd (decide ((0:Int)<(↑(List.length x.1):Int))) (cnd (decide ((0:Int)≤wr .i64
 ((↑(List.length x.1):Int)-(1:Int)))&&decide (wr .i64 ((↑(List.length x.1):Int)-(1:Int))<(↑(List.length x.1):Int))) (cnd (decide (x.2.1
 ≤ Prod.fst (List.getD x.1 (Int.toNat (wr .i64 ((↑(List.length x.1):Int)-(1:Int)))) ((0:Int),[])))) (some x.1) (cnd (decide ((List.length x.1 +
 List.length [x.2])*(24:Nat)≤(140737488355328:Nat))) (cnd (decide ((6:Int)<(↑(List.length (x.1++[x.2])):Int))) (cnd (decide (Option.getD
 (some (1:Int)) (0:Int)≤(↑(List.length (x.1++[x.2])):Int))) (some (List.drop ((0:Nat)+Prod.fst (Prod.snd (cutT (0:Nat) (List.length (x.1++
 [x.2])) (List.length (x.1++[x.2])) (some (1:Int)) none))) (List.take ((0:Nat)+Prod.fst (Prod.snd (cutT (0:Nat) (List.length (x.1++[x.2]))
 (List.length (x.1++[x.2])) (some (1:Int)) none))+(Prod.snd (Prod.snd (cutT (0:Nat) (List.length (x.1++[x.2])) (List.length (x.1++[x.2]))
 (some (1:Int)) none))-Prod.fst (Prod.snd (cutT (0:Nat) (List.length (x.1++[x.2])) (List.length (x.1++[x.2])) (some (1:Int)) none)))) (x.1++
 [x.2])))) none) (some (x.1++[x.2]))) none)) none) (cnd (decide ((List.length x.1+List.length [x.2])*(24:Nat)≤(140737488355328:Nat))) (cnd
 (decide ((6:Int)<(↑(List.length (x.1++[x.2])):Int))) (cnd (decide (Option.getD (some (1:Int)) (0:Int)≤(↑(List.length (x.1++[x.2])):
 Int))) (some (List.drop ((0:Nat)+Prod.fst (Prod.snd (cutT (0:Nat) (List.length (x.1++[x.2])) (List.length (x.1++[x.2])) (some (1:Int)) none)))
 (List.take ((0:Nat)+Prod.fst (Prod.snd (cutT (0:Nat) (List.length (x.1++[x.2])) (List.length (x.1++[x.2])) (some (1:Int)) none))+(Prod.snd
 (Prod.snd (cutT (0:Nat) (List.length (x.1++[x.2])) (List.length (x.1++[x.2])) (some (1:Int)) none))-Prod.fst (Prod.snd (cutT (0:Nat)
 (List.length (x.1++[x.2])) (List.length (x.1++[x.2])) (some (1:Int)) none)))) (x.1++[x.2])))) none) (some (x.1++[x.2]))) none)) none
theorem q_G:∀N x,u_G.F L0 P0 (orcOf []) N x=V_G N x:=by intros;kernel_rfl
noncomputable def W_G (N:Nat):=V_G N
theorem con_G_ok (N:Nat):(u_G.con (W_G N)).ok P0:=Uf.ok mixed (q_G N) trivial Tryz.func86 (by kernel_rfl) fun x y=>by kernel_rfl
noncomputable def u_e:Uf:=⟨109,46,Tryz.f109,[.val (.agg T3_)],[],
⟨[(2,.ptr 600002 0),(3,.val (.list T9_))],[(600002,.box 42 (.val T3_))]⟩,[],
[(2,.loop [] ⟨[(1,.ptr 600001 0),(2,.ptr 600002 0),(4,.acc 700004)],[(600001,.box 42 (.val T3_)),(600002,.box 42 (.val T3_)),(700004,.nrow 157 T9_ true true)]⟩ [(.ret,⟨[(2,.ptr 600002 0),(3,.val (.list T9_))],[(600002,.box 42 (.val T3_))]⟩)])],
[],fun y=>(.tup [valW (.agg T3_) y.2,valW (.list T9_) y.1],[],[])⟩
noncomputable def V_e (w_Z:List (Int×List UInt8)×Int→Option (List (Int×List UInt8)×Bool×Int×List UInt8)) (w_Q:List (Int×A6_)×Int×List UInt8→Option (List (Int×A6_))) (w_G:List (Int×List UInt8)×Int×List UInt8→Option (List (Int×List UInt8))) (N:Nat) (x:A3_):Option (List (Int×List UInt8)×A3_):=
 obind (loopN N (fun(v:A3_×A3_×List (Int×List UInt8))
 => obind (w_Z (v.1.2.2.2.1,v.1.1)) fun b=>cnd (!b.2.1) (some (Sum.inr (v.2.2,v.1))) (obind (w_Q (v.1.2.2.2.2.1,b.2.2))
 fun b_1=>obind (w_G (v.1.2.2.1,b.2.2)) fun b_2=>cnd (decide ((List.length v.2.2+List.length [b.2.2])*(24:Nat) ≤
 (140737488355328:Nat))) (some (Sum.inl ((wr .i64 (v.1.1+(1:Int)),v.1.2.1,b_2,b.1,b_1,(0:Int),(0:Int)),v.2.1,v.2.2++[b.2.2]))) none)) (x,
 ((0:Int),(0:Int),[],[],[],(0:Int),(0:Int)),[])) fun(b:List (Int×List UInt8)×A3_)=>some b
theorem q_e:∀w_Z w_Q w_G N x,u_e.F L0 P0 (orcOf [u_Z.con w_Z,u_Q.con w_Q,u_G.con w_G]) N x=V_e w_Z w_Q w_G N x:=by intros;kernel_rfl
noncomputable def W_e (N:Nat):=V_e (W_Z N) (W_Q N) (W_G N) N
theorem con_e_ok (N:Nat):(u_e.con (W_e N)).ok P0:=Uf.ok mixed (q_e (W_Z N) (W_Q N) (W_G N) N) ⟨con_Z_ok N,con_Q_ok N,con_G_ok N,trivial⟩ Tryz.func109 (by kernel_rfl) fun x y=>by kernel_rfl
noncomputable def u_L:Uf:=⟨108,73,Tryz.f108,[.val (.agg T3_),.val (.int .i64),.val (.int .i64)],[],
⟨[(6,.ptr 600006 0),(7,.val (.list (.agg T5_)))],[(600006,.box 42 (.val T3_))]⟩,[],
[(4,.loop [] ⟨[(3,.ptr 600003 0),(6,.ptr 600006 0),(8,.acc 700008)],[(600003,.box 42 (.val T3_)),(600006,.box 42 (.val T3_)),(700008,.nrow 76 (.agg T5_) true true)]⟩ [(.exit 0,⟨[(3,.ptr 600003 0),(6,.ptr 600006 0),(8,.val (.list (.agg T5_)))],[(600003,.box 42 (.val T3_)),(600006,.box 42 (.val T3_))]⟩)])],
[(13,.cut [] [(.normal,⟨[(3,.ptr 600003 0),(6,.ptr 600006 0),(8,.acc 700008)],[(600003,.box 42 (.val T3_)),(600006,.box 42 (.val T3_)),(700008,.nrow 76 (.agg T5_) true true)]⟩)]),
(9,.cut [] [(.normal,⟨[(3,.ptr 600003 0),(6,.ptr 600006 0),(8,.acc 700008),(9,.val (.int .i64))],[(600003,.box 42 (.val T3_)),(600006,.box 42 (.val T3_)),(700008,.nrow 76 (.agg T5_) true true)]⟩)])],fun y=>(.tup [valW (.agg T3_) y.2,valW (.list (.agg T5_)) y.1],[],[])⟩
noncomputable def V_L (w_B:List (Int×List UInt8)→Option (Int)) (w_al:List (Int×A6_)×Int×Int×Int→Option (List (Int×A6_))) (w_e:A3_→Option (List (Int×List UInt8)×A3_)) (N:Nat) (x:A3_×Int×Int):Option (List (Int×Int)×A3_):=
 cnd (decide (x.1.1<(1:Int))) (some ([],x.1)) (cnd (decide ((1000000:Int)<x.2.1)) (some ([],x.1)) (obind (loopN N (fun(v:A3_×A3_×List (Int×Int))=>cnd (decide (v.1.1≤x.2.1)) (obind (cnd (decide
 ((0:Int)<(↑(List.length v.1.2.2.2.1):Int))) (obind (w_B v.1.2.2.2.1) fun b=>cnd (decide (b≤x.2.1)) (obind (w_B
 v.1.2.2.2.1) fun b=>some (wr .i64 (b-(1:Int)),(v.1.1,v.1.2.1,v.1.2.2.1,v.1.2.2.2.1,v.1.2.2.2.2.1,(0:Int),(0:Int)),v.2)) (some (x.2.1,
 (v.1.1,v.1.2.1,v.1.2.2.1,v.1.2.2.2.1,v.1.2.2.2.2.1,(0:Int),(0:Int)),v.2))) (some (x.2.1,(v.1.1,v.1.2.1,v.1.2.2.1,v.1.2.2.2.1,
 v.1.2.2.2.2.1,(0:Int),(0:Int)),v.2))) fun(b:Int×A3_×A3_×List (Int×Int))=>obind (cnd (decide (b.2.1.1≤b.1)) (obind (w_al (b.2.1.2.2.2.2.1,b.2.1.1,b.1,x.2.2)) fun b_1=>cnd
 (decide ((List.length b.2.2.2+List.length [(b.2.1.1,b.1)])*(16:Nat)≤(140737488355328:Nat))) (some ((wr .i64 (b.1+(1:Int)),b.2.1.2.1,
 b.2.1.2.2.1,b.2.1.2.2.2.1,b_1,b.2.1.2.2.2.2.2),b.2.2.1,b.2.2.2++[(b.2.1.1,b.1)])) none) (some b.2)) fun(b:A3_×A3_×List (Int×Int))=>cnd (decide (b.1.1≤x.2.1)) (obind (w_e b.1) fun
 b_1=>some (Sum.inl (b_1.2,b.2))) (some (Sum.inl b))) (some (Sum.inr (v.2.2,v.1,v.2.1)))) (x.1,((0:Int),(0:Int),[],[],[],(0:Int),
 (0:Int)),[])) fun(b:List (Int×Int)×A3_×A3_)=>some
 (b.1,b.2.1)))
theorem q_L:∀w_B w_al w_e N x,u_L.F L0 P0 (orcOf [u_B.con w_B,u_al.con w_al,u_e.con w_e]) N x=V_L w_B w_al w_e N x:=by intros;kernel_rfl
noncomputable def W_L (N:Nat):=V_L (W_B N) (W_al N) (W_e N) N
theorem con_L_ok (N:Nat):(u_L.con (W_L N)).ok P0:=Uf.ok mixed (q_L (W_B N) (W_al N) (W_e N) N) ⟨con_B_ok N,con_al_ok N,con_e_ok N,trivial⟩ Tryz.func108 (by kernel_rfl) fun x y=>by kernel_rfl
noncomputable def u_aW:Uf:=⟨110,26,Tryz.f110,[.val (.agg T5_),.val (.int .i64)],[],
⟨[(4,.ptr 600004 0)],[(600004,.box 40 (.val T5_))]⟩,[],
[(3,.loop [] ⟨[(2,.ptr 600002 0),(4,.ptr 600004 0),(5,.val (.int .i64)),(6,.val (.int .i64))],[(600002,.box 40 (.val T5_)),(600004,.box 40 (.val T5_))]⟩ [(.exit 0,⟨[(2,.ptr 600002 0),(4,.ptr 600004 0),(5,.val (.int .i64))],[(600002,.box 40 (.val T5_)),(600004,.box 40 (.val T5_))]⟩)])],
[],fun y=>(valW (.agg T5_) y,[],[])⟩
noncomputable def V_aW (N:Nat) (x:(Int×Int)×Int):Option (Int×Int):=
 obind (loopN N (fun(v:Int×Int×(Int×Int)×Int×Int)=>cnd (decide (v.2.1<v.2.2.1.1)) (cnd (decide (v.2.1<(3:Int))) (some (Sum.inl (wr
 .i64 (v.1*(2:Int)),wr .i64 (v.2.1+(1:Int)),v.2.2))) (some (Sum.inr (v.1,v.2.2)))) (some (Sum.inr (v.1,v.2.2)))) ((2:Int),(0:Int),x.1,
 (0:Int),(0:Int))) fun(b:Int×(Int×Int)×Int×Int)=>some (wr .i64 (b.2.1.1+(1:Int)),wr .i64 (x.2+b.1))
theorem q_aW:∀N x,u_aW.F L0 P0 (orcOf []) N x=V_aW N x:=by intros;kernel_rfl
noncomputable def W_aW (N:Nat):=V_aW N
theorem con_aW_ok (N:Nat):(u_aW.con (W_aW N)).ok P0:=Uf.ok mixed (q_aW N) trivial Tryz.func110 (by kernel_rfl) fun x y=>by kernel_rfl
noncomputable def u_aT:Uf:=⟨81,50,Tryz.f81,[.val (.agg T3_),.val (.int .i64)],[],
⟨[(4,.ptr 600004 0),(5,.ptr 600005 0),(6,.val .bool)],[(600004,.box 42 (.val T3_)),(600005,.box 76 (.val T5_))]⟩,[],
[],
[],fun y=>(.tup [valW (.agg T3_) y.2.1,valW (.agg T5_) y.2.2,valW .bool y.1],[],[])⟩
noncomputable def V_aT (w_aH:A3_→Option (Bool×Int×Int)) (w_a2:(Int×Int)×Int→Option (Bool)) (w_L:A3_×Int×Int→Option (List (Int×Int)×A3_)) (w_e:A3_→Option (List (Int×List UInt8)×A3_)) (w_aW:(Int×Int)×Int→Option (Int×Int)) (N:Nat) (x:A3_×Int):Option (Bool×A3_×Int×Int):=
 obind (w_aH x.1) fun b=>cnd (!b.1) (some (false,x.1,(0:Int),(0:Int))) (obind (w_a2 (x.1.2.2.2.2.2,x.2)) fun b_1=>cnd (!b_1)
 (some (false,x.1,(0:Int),(0:Int))) (cnd (decide ((3:Int)≤x.1.2.2.2.2.2.1)) (obind (w_L (x.1,b.2.2,(2:Int))) fun b=>obind
 (w_e b.2) fun b=>some (false,b.2,(0:Int),(0:Int))) (obind (w_aW (x.1.2.2.2.2.2,x.2)) fun b_2=>some (true,(x.1.1,
 x.1.2.1,x.1.2.2.1,x.1.2.2.2.1,x.1.2.2.2.2.1,b_2),b.2))))
theorem q_aT:∀w_aH w_a2 w_L w_e w_aW N x,u_aT.F L0 P0 (orcOf [u_aH.con w_aH,u_a2.con w_a2,u_L.con w_L,u_e.con w_e,u_aW.con w_aW]) N x=V_aT w_aH w_a2 w_L w_e w_aW N x:=by intros;kernel_rfl
noncomputable def W_aT (N:Nat):=V_aT (W_aH N) (W_a2 N) (W_L N) (W_e N) (W_aW N) N
theorem con_aT_ok (N:Nat):(u_aT.con (W_aT N)).ok P0:=Uf.ok mixed (q_aT (W_aH N) (W_a2 N) (W_L N) (W_e N) (W_aW N) N) ⟨con_aH_ok N,con_a2_ok N,con_L_ok N,con_e_ok N,con_aW_ok N,trivial⟩ Tryz.func81 (by kernel_rfl) fun x y=>by kernel_rfl
noncomputable def u_p:Uf:=⟨67,73,Tryz.f67,[.val (.agg T1_),.val (.list (.agg T6_))],[],
⟨[(4,.val (.list (.agg T_)))],[]⟩,[],
[(6,.loop [] ⟨[(2,.ptr 600002 0),(5,.acc 700005),(7,.val (.int .i64))],[(600002,.box 46 (.val T1_)),(700005,.nrow 133 (.agg T_) true true)]⟩ [(.exit 2,⟨[(2,.ptr 600002 0),(5,.acc 700005)],[(600002,.box 46 (.val T1_)),(700005,.nrow 133 (.agg T_) true true)]⟩)]),
(3,.loop [] ⟨[(2,.ptr 600002 0),(5,.acc 700005),(6,.val (.int .i64))],[(600002,.box 46 (.val T1_)),(700005,.nrow 133 (.agg T_) true true)]⟩ [(.exit 0,⟨[(5,.val (.list (.agg T_)))],[]⟩)])],
[],fun y=>(valW (.list (.agg T_)) y,[],[])⟩
noncomputable def V_p (w_b:A2_×Int×Int→Option A4_) (N:Nat) (x:A2_×List (Int×A6_)):Option (List A4_):=
 obind (loopN N (fun(v:Int×A2_×List A4_)=>cnd (decide (v.1<(↑(List.length x.2):Int))) (obind (loopN N (fun(v_1:Int×A2_×List A4_)=>cnd (decide (v_1.1<(↑(List.length v_1.2.1.2.2.2.2.2.2.2.2.2.2.2.2):Int))) (cnd (decide ((0:Int)≤v_1.1)
 && decide (v_1.1<(↑(List.length v_1.2.1.2.2.2.2.2.2.2.2.2.2.2.2):Int))) (obind (w_b (v_1.2.1,(7:Int),Prod.fst (List.getD
 v_1.2.1.2.2.2.2.2.2.2.2.2.2.2.2 (Int.toNat v_1.1) ((0:Int),(0:Int),(0:Int))))) fun b=>cnd (decide ((0:Int)≤v.1)&&decide (v.1 <
 (↑(List.length x.2):Int))) (cnd (decide ((0:Int)≤v.1)&&decide (v.1<(↑(List.length x.2):Int))) (cnd (decide ((0:Int)≤v.1)&&decide (v.1
 < (↑(List.length x.2):Int))) (cnd (decide (Prod.fst (List.getD x.2 (Int.toNat v.1) ((0:Int),(0:Int),(0:Int),[],(0:Int)))=(2:Int))) (cnd
 (decide ((0:Int)≤v_1.1)&&decide (v_1.1<(↑(List.length v_1.2.1.2.2.2.2.2.2.2.2.2.2.2.2):Int))) (obind (w_b (v_1.2.1,(9:Int),
 Prod.fst (List.getD v_1.2.1.2.2.2.2.2.2.2.2.2.2.2.2 (Int.toNat v_1.1) ((0:Int),(0:Int),(0:Int))))) fun b=>cnd (decide ((0:Int)≤v.1)&&decide
 (v.1<(↑(List.length x.2):Int))) (cnd (decide ((0:Int)≤v.1)&&decide (v.1<(↑(List.length x.2):Int))) (cnd (decide ((List.length v_1.2.2 +
 (1:Nat))*(104:Nat)≤(140737488355328:Nat))) (some (Sum.inl (wr .i64 (v_1.1+(1:Int)),v_1.2.1,v_1.2.2++[(b.1,b.2.1,b.2.2.1,b.2.2.2.1,
 b.2.2.2.2.1,b.2.2.2.2.2.1,b.2.2.2.2.2.2.1,Prod.fst (Prod.snd (List.getD x.2 (Int.toNat v.1) ((0:Int),(0:Int),(0:Int),[],(0:Int)))),Prod.fst
 (Prod.snd (Prod.snd (List.getD x.2 (Int.toNat v.1) ((0:Int),(0:Int),(0:Int),[],(0:Int))))),b.2.2.2.2.2.2.2.2.2)]))) none) none) none) none)
 (cnd (decide ((List.length v_1.2.2+(1:Nat))*(104:Nat)≤(140737488355328:Nat))) (some (Sum.inl (wr .i64 (v_1.1+(1:Int)),v_1.2.1,v_1.2.2++
 [(b.1,b.2.1,b.2.2.1,b.2.2.2.1,b.2.2.2.2.1,b.2.2.2.2.2.1,b.2.2.2.2.2.2.1,Prod.fst (Prod.snd (List.getD x.2 (Int.toNat v.1) ((0:Int),(0:Int),
 (0:Int),[],(0:Int)))),b.2.2.2.2.2.2.2.2.1,Prod.fst (Prod.snd (Prod.snd (Prod.snd (List.getD x.2 (Int.toNat v.1) ((0:Int),(0:Int),(0:Int),[],
 (0:Int)))))))]))) none)) none) none) none) none) (some (Sum.inr v_1.2))) ((0:Int),v.2)) fun(b:A2_×List (M_))=>some
 (Sum.inl (wr .i64 (v.1+(1:Int)),b))) (some (Sum.inr v.2.2))) ((0:Int),x.1,[])) fun(b:List A4_)=>some b
theorem q_p:∀w_b N x,u_p.F L0 P0 (orcOf [u_b.con w_b]) N x=V_p w_b N x:=by intros;kernel_rfl
noncomputable def W_p (N:Nat):=V_p (W_b N) N
theorem con_p_ok (N:Nat):(u_p.con (W_p N)).ok P0:=Uf.ok mixed (q_p (W_b N) N) ⟨con_b_ok N,trivial⟩ Tryz.func67 (by kernel_rfl) fun x y=>by kernel_rfl
noncomputable def u_ae:Uf:=⟨62,93,Tryz.f62,[.val (.agg T0_)],[],
⟨[(2,.ptr 600002 0),(3,.val (.list (.agg T_)))],[(600002,.box 48 (.val T0_))]⟩,[],
[(6,.loop [5] ⟨[(1,.ptr 600001 0),(2,.ptr 600002 0),(4,.ptr 600004 0),(6,.acc 700006),(7,.val (.int .i64))],[(600001,.box 48 (.val T0_)),(600002,.box 48 (.val T0_)),(600004,.box 46 (.val T1_)),(700006,.nrow 133 (.agg T_) true true)]⟩ [(.exit 0,⟨[(1,.ptr 600001 0),(2,.ptr 600002 0),(4,.ptr 600004 0),(6,.acc 700006)],[(600001,.box 48 (.val T0_)),(600002,.box 48 (.val T0_)),(600004,.box 46 (.val T1_)),(700006,.nrow 133 (.agg T_) true true)]⟩)])],
[(20,.cut [] [(.normal,⟨[(1,.ptr 600001 0),(2,.ptr 600002 0),(4,.ptr 600004 0),(6,.acc 700006),(9,.ptr 600009 0)],[(600001,.box 48 (.val T0_)),(600002,.box 48 (.val T0_)),(600004,.box 46 (.val T1_)),(700006,.nrow 133 (.agg T_) true true),(600009,.box 42 (.val T3_))]⟩)])],fun y=>(.tup [valW (.agg T0_) y.2,valW (.list (.agg T_)) y.1],[],[])⟩
noncomputable def V_ae (w_am:A2_→Option (List A4_×A2_)) (w_aT:A3_×Int→Option (Bool×A3_×Int×Int)) (w_b:A2_×Int×Int→Option A4_) (w_p:A2_×List (Int×A6_)→Option (List A4_)) (N:Nat) (x:A0_):Option (List A4_×A0_):=
 cnd (!x.1) (some ([],x)) (obind (w_am x.2.2.2.1) fun b=>obind (loopN N (fun(v:Int×A0_×A0_×A2_×List A4_)=>cnd (decide (v.1<(↑(List.length b.1):Int))) (cnd (decide ((0:Int)≤v.1) &&
 decide (v.1<(↑(List.length b.1):Int))) (cnd (decide (Prod.fst (List.getD b.1 (Int.toNat v.1) ((0:Int),(0:Int),(0:Int),(0:Int),(0:Int),
 (0:Int),[],(0:Int),(0:Int),[]))=(5:Int))) (cnd (decide ((List.length v.2.2.2.2+(1:Nat))*(104:Nat)≤(140737488355328:Nat))) (some (Sum.inl
 (wr .i64 (v.1+(1:Int)),v.2.1,v.2.2.1,v.2.2.2.1,v.2.2.2.2++[(Prod.fst (List.getD b.1 (Int.toNat v.1) ((0:Int),(0:Int),(0:Int),(0:Int),
 (0:Int),(0:Int),[],(0:Int),(0:Int),[])),Prod.fst (Prod.snd (List.getD b.1 (Int.toNat v.1) ((0:Int),(0:Int),(0:Int),(0:Int),(0:Int),
 (0:Int),[],(0:Int),(0:Int),[]))),Prod.fst (Prod.snd (Prod.snd (List.getD b.1 (Int.toNat v.1) ((0:Int),(0:Int),(0:Int),(0:Int),(0:Int),
 (0:Int),[],(0:Int),(0:Int),[])))),Prod.fst (Prod.snd (Prod.snd (Prod.snd (List.getD b.1 (Int.toNat v.1) ((0:Int),(0:Int),(0:Int),(0:Int),
 (0:Int),(0:Int),[],(0:Int),(0:Int),[]))))),Prod.fst (Prod.snd (Prod.snd (Prod.snd (Prod.snd (List.getD b.1 (Int.toNat v.1) ((0:Int),(0:Int),
 (0:Int),(0:Int),(0:Int),(0:Int),[],(0:Int),(0:Int),[])))))),Prod.fst (Prod.snd (Prod.snd (Prod.snd (Prod.snd (Prod.snd (List.getD b.1
 (Int.toNat v.1) ((0:Int),(0:Int),(0:Int),(0:Int),(0:Int),(0:Int),[],(0:Int),(0:Int),[]))))))),Prod.fst (Prod.snd (Prod.snd (Prod.snd
 (Prod.snd (Prod.snd (Prod.snd (List.getD b.1 (Int.toNat v.1) ((0:Int),(0:Int),(0:Int),(0:Int),(0:Int),(0:Int),[],(0:Int),(0:Int),
 [])))))))),Prod.fst (Prod.snd (Prod.snd (Prod.snd (Prod.snd (Prod.snd (Prod.snd (Prod.snd (List.getD b.1 (Int.toNat v.1) ((0:Int),(0:Int),
 (0:Int),(0:Int),(0:Int),(0:Int),[],(0:Int),(0:Int),[]))))))))),max (wr .i64 (v.2.1.2.2.2.2.1.1-(1:Int))) (0:Int),Prod.snd (Prod.snd
 (Prod.snd (Prod.snd (Prod.snd (Prod.snd (Prod.snd (Prod.snd (Prod.snd (List.getD b.1 (Int.toNat v.1) ((0:Int),(0:Int),(0:Int),(0:Int),(0:Int),
 (0:Int),[],(0:Int),(0:Int),[])))))))))))]))) none) (cnd (decide ((List.length v.2.2.2.2+(1:Nat))*(104:Nat)≤(140737488355328:Nat))) (some
 (Sum.inl (wr .i64 (v.1+(1:Int)),v.2.1,v.2.2.1,v.2.2.2.1,v.2.2.2.2++[(List.getD b.1 (Int.toNat v.1) ((0:Int),(0:Int),(0:Int),(0:Int),
 (0:Int),(0:Int),[],(0:Int),(0:Int),[]))]))) none)) none) (some (Sum.inr v.2))) ((0:Int),x,(false,(0:Int),[],((0:Int),(0:Int),(0:Int),
 (0:Int),(0:Int),(0:Int),[],(0:Int),(0:Int),(0:Int),(0:Int),(0:Int),[]),((0:Int),(0:Int),[],[],[],(0:Int),(0:Int)),(0:Int)),b.2,
 [])) fun(b:A0_×A0_×A2_×List (M_))=>cnd (decide
 (b.2.2.1.2.2.2.1=(0:Int))) (some (b.2.2.2,b.1.1,b.1.2.1,b.1.2.2.1,b.2.2.1,b.1.2.2.2.2)) (obind (w_aT (b.1.2.2.2.2.1,
 b.2.2.1.2.2.1)) fun b_1=>obind (cnd b_1.1 (obind (w_b (b.2.2.1,(8:Int),b.2.2.1.2.2.2.1)) fun b_2=>cnd (decide ((List.length b.2.2.2
 + List.length [(b_2.1,b_2.2.1,b_2.2.2.1,b_2.2.2.2.1,b_2.2.2.2.2.1,b_2.2.2.2.2.2.1,b_2.2.2.2.2.2.2.1,b_1.2.2.1,b_1.2.2.2,
 b_2.2.2.2.2.2.2.2.2.2)])*(104:Nat)≤(140737488355328:Nat))) (some ((b.1.1,b.1.2.1,b.1.2.2.1,b.2.2.1,b.1.2.2.2.2),b.2.1,b.2.2.1,b.2.2.2++
 [(b_2.1,b_2.2.1,b_2.2.2.1,b_2.2.2.2.1,b_2.2.2.2.2.1,b_2.2.2.2.2.2.1,b_2.2.2.2.2.2.2.1,b_1.2.2.1,b_1.2.2.2,b_2.2.2.2.2.2.2.2.2.2)],
 b_1.2.1)) none) (some ((b.1.1,b.1.2.1,b.1.2.2.1,b.2.2.1,b.1.2.2.2.2),b.2.1,b.2.2.1,b.2.2.2,b_1.2.1))) fun(b:A0_×A0_×A2_×List (M_)×A3_)=>cnd (decide ((0:Int)≤(↑(List.length b.1.2.2.2.2.1.2.2.2.2.1):Int))&&decide
 ((↑(List.length b.1.2.2.2.2.1.2.2.2.2.1):Int)≤(↑(List.length b.2.2.2.2.2.2.2.2.1):Int))) (obind (w_p (b.2.2.1,List.drop (Int.toNat
 (↑(List.length b.1.2.2.2.2.1.2.2.2.2.1):Int)) (List.take (List.length b.2.2.2.2.2.2.2.2.1) b.2.2.2.2.2.2.2.2.1))) fun b_2=>cnd (decide
 ((List.length b.2.2.2.1+List.length b_2)*(104:Nat)≤(140737488355328:Nat))) (some (b.2.2.2.1++b_2,b.1.1,b.1.2.1,b.1.2.2.1,b.1.2.2.2.1,
 b.2.2.2.2,b.1.2.2.2.2.2)) none) none))
theorem q_ae:∀w_am w_aT w_b w_p N x,u_ae.F L0 P0 (orcOf [u_am.con w_am,u_aT.con w_aT,u_b.con w_b,u_p.con w_p]) N x=V_ae w_am w_aT w_b w_p N x:=by intros;kernel_rfl
noncomputable def W_ae (N:Nat):=V_ae (W_am N) (W_aT N) (W_b N) (W_p N) N
theorem con_ae_ok (N:Nat):(u_ae.con (W_ae N)).ok P0:=Uf.ok mixed (q_ae (W_am N) (W_aT N) (W_b N) (W_p N) N) ⟨con_am_ok N,con_aT_ok N,con_b_ok N,con_p_ok N,trivial⟩ Tryz.func62 (by kernel_rfl) fun x y=>by kernel_rfl
noncomputable def u_z:Uf:=⟨63,12,Tryz.f63,[.val (.agg T0_)],[],
⟨[(2,.ptr 600002 0)],[(600002,.box 48 (.val T0_))]⟩,[],
[],
[],fun y=>(valW (.agg T0_) y,[],[])⟩
noncomputable def V_z (N:Nat) (x:A0_):Option A0_:=
 cnd (!x.1) (some x) (some (false,x.2.1,[],((0:Int),(0:Int),(0:Int),(0:Int),(0:Int),(0:Int),[],(0:Int),(0:Int),(0:Int),(0:Int),(0:Int),[]),((0:Int),(0:Int),[],[],[],(0:Int),(0:Int)),x.2.2.2.2.2))
theorem q_z:∀N x,u_z.F L0 P0 (orcOf []) N x=V_z N x:=by intros;kernel_rfl
noncomputable def W_z (N:Nat):=V_z N
theorem con_z_ok (N:Nat):(u_z.con (W_z N)).ok P0:=Uf.ok mixed (q_z N) trivial Tryz.func63 (by kernel_rfl) fun x y=>by kernel_rfl
noncomputable def u_aJ:Uf:=⟨83,34,Tryz.f83,[.val (.agg T1_)],[],
⟨[(2,.val (.list (.agg T_)))],[]⟩,[],
[(5,.loop [] ⟨[(1,.ptr 600001 0),(3,.acc 700003),(4,.val (.int .i64))],[(600001,.box 46 (.val T1_)),(700003,.nrow 133 (.agg T_) true true)]⟩ [(.exit 0,⟨[(3,.val (.list (.agg T_)))],[]⟩)])],
[(4,.cut [] [(.normal,⟨[(1,.ptr 600001 0),(3,.acc 700003)],[(600001,.box 46 (.val T1_)),(700003,.nrow 133 (.agg T_) true true)]⟩)])],fun y=>(valW (.list (.agg T_)) y,[],[])⟩
noncomputable def V_aJ (w_b:A2_×Int×Int→Option A4_) (N:Nat) (x:A2_):Option (List A4_):=
 obind (cnd (decide (x.2.2.2.1≠(0:Int))) (obind (w_b (x,(6:Int),x.2.2.2.1)) fun b=>some (x,[b])) (some (x,[]))) fun(b:A2_×List A4_)=>obind (loopN N (fun(v:Int×A2_×List (M_))=>cnd (decide (v.1<(↑(List.length
 v.2.1.2.2.2.2.2.2.2.2.2.2.2.2):Int))) (cnd (decide ((0:Int)≤v.1)&&decide (v.1<(↑(List.length v.2.1.2.2.2.2.2.2.2.2.2.2.2.2):Int))) (obind
 (w_b (v.2.1,(3:Int),Prod.fst (List.getD v.2.1.2.2.2.2.2.2.2.2.2.2.2.2 (Int.toNat v.1) ((0:Int),(0:Int),(0:Int))))) fun b=>cnd
 (decide ((List.length v.2.2+List.length [b])*(104:Nat)≤(140737488355328:Nat))) (some (Sum.inl (wr .i64 (v.1+(1:Int)),v.2.1,v.2.2++[b])))
 none) none) (some (Sum.inr v.2.2))) ((0:Int),b)) fun(b:List (M_))=>some b
theorem q_aJ:∀w_b N x,u_aJ.F L0 P0 (orcOf [u_b.con w_b]) N x=V_aJ w_b N x:=by intros;kernel_rfl
noncomputable def W_aJ (N:Nat):=V_aJ (W_b N) N
theorem con_aJ_ok (N:Nat):(u_aJ.con (W_aJ N)).ok P0:=Uf.ok mixed (q_aJ (W_b N) N) ⟨con_b_ok N,trivial⟩ Tryz.func83 (by kernel_rfl) fun x y=>by kernel_rfl
noncomputable def u_ar:Uf:=⟨64,13,Tryz.f64,[.val (.agg T0_)],[],
⟨[(2,.ptr 600002 0),(3,.val (.list (.agg T_)))],[(600002,.box 48 (.val T0_))]⟩,[],
[],
[],fun y=>(.tup [valW (.agg T0_) y.2,valW (.list (.agg T_)) y.1],[],[])⟩
noncomputable def V_ar (w_z:A0_→Option A0_) (w_aJ:A2_→Option (List A4_)) (N:Nat) (x:A0_):Option (List A4_×A0_):=
 cnd (!x.1) (some ([],x)) (obind (w_z x) fun b=>obind (w_aJ x.2.2.2.1) fun b_1=>some (b_1,b))
theorem q_ar:∀w_z w_aJ N x,u_ar.F L0 P0 (orcOf [u_z.con w_z,u_aJ.con w_aJ]) N x=V_ar w_z w_aJ N x:=by intros;kernel_rfl
noncomputable def W_ar (N:Nat):=V_ar (W_z N) (W_aJ N) N
theorem con_ar_ok (N:Nat):(u_ar.con (W_ar N)).ok P0:=Uf.ok mixed (q_ar (W_z N) (W_aJ N) N) ⟨con_z_ok N,con_aJ_ok N,trivial⟩ Tryz.func64 (by kernel_rfl) fun x y=>by kernel_rfl
noncomputable def u_Y:Uf:=⟨84,131,Tryz.f84,[.val (.list (.list (.int .i64))),.val T7_,.val (.int .i64),.val (.int .i64)],[],
⟨[(8,.val T7_)],[]⟩,[],
[(13,.loop [11] ⟨[(10,.acc 700129),(12,.acc 700012),(13,.val (.int .i64))],[(700129,.nrow 119 (.agg (.pair (.list (.int .i64)) (.int .i64))) false true),(700012,.nrow 3 (.int .i64) true true)]⟩ [(.exit 0,⟨[(10,.acc 700129),(12,.val (.list (.int .i64)))],[(700129,.nrow 119 (.agg (.pair (.list (.int .i64)) (.int .i64))) false true)]⟩)])],
[(22,.cut [10] [(.normal,⟨[(9,.val (.int .i64))],[]⟩)]),
(20,.cut [] [(.normal,⟨[(10,.val T7_)],[]⟩)])],fun y=>(valW T7_ y,[],[])⟩
noncomputable def V_Y (w_d:List (List Int×Int)×Int→Option (Int)) (w_u:List Int×Int→Option (List Int)) (w_g:List (List Int)×List Int→Option (List Int×Int)) (w_k:List (List Int)×Int×List Int→Option (Int)) (w_f:List Int→Option (List Int)) (w_m:List (List Int)×List (List Int×Int)×Int×Int→Option (List (List Int×Int))) (N:Nat) (x:List (List Int)×List (List Int×Int)×Int×Int):Option (List (List Int×Int)):=
 obind (w_d (x.2.1,x.2.2.1)) fun b=>cnd (decide (List.length x.2.1*(32:Nat)≤(140737488355328:Nat))) (cnd (decide (b<(0:Int))) (some
 x.2.1) (cnd (decide ((0:Int)≤b)&&decide (b<(↑(List.length x.2.1):Int))) (obind (w_u (Prod.fst (List.getD x.2.1 (Int.toNat b)
 ([],(0:Int))),x.2.2.1)) fun b_1=>cnd (decide ((↑(List.length b_1):Int)=(0:Int))) (cnd (decide (Option.getD none (0:Int)≤b)) (cnd (decide
 ((↑(0:Nat):Int)+b≤(↑(List.length x.2.1):Int))) (cnd (decide ((0:Int)≤Option.getD (some (wr .i64 (b+(1:Int)))) (0:Int))) (cnd (decide
 (Option.getD (some (wr .i64 (b+(1:Int)))) (0:Int)≤(↑(List.length x.2.1):Int))) (cnd (decide (Prod.snd (Prod.snd (cutT (0:Nat) (List.length
 x.2.1) (List.length x.2.1) none (some b)))-Prod.fst (Prod.snd (cutT (0:Nat) (List.length x.2.1) (List.length x.2.1) none (some b)))+List.length
 (List.drop ((0:Nat)+Prod.fst (Prod.snd (cutT (0:Nat) (List.length x.2.1) (List.length x.2.1) (some (wr .i64 (b+(1:Int)))) none))) (List.take
 ((0:Nat)+Prod.fst (Prod.snd (cutT (0:Nat) (List.length x.2.1) (List.length x.2.1) (some (wr .i64 (b+(1:Int)))) none))+(Prod.snd (Prod.snd
 (cutT (0:Nat) (List.length x.2.1) (List.length x.2.1) (some (wr .i64 (b+(1:Int)))) none))-Prod.fst (Prod.snd (cutT (0:Nat) (List.length x.2.1)
 (List.length x.2.1) (some (wr .i64 (b+(1:Int)))) none)))) x.2.1))≤List.length x.2.1)) (some (List.drop (0:Nat) (List.take ((0:Nat)+(Prod.snd
 (Prod.snd (cutT (0:Nat) (List.length x.2.1) (List.length x.2.1) none (some b)))-Prod.fst (Prod.snd (cutT (0:Nat) (List.length x.2.1) (List.length
 x.2.1) none (some b)))+List.length (List.drop ((0:Nat)+Prod.fst (Prod.snd (cutT (0:Nat) (List.length x.2.1) (List.length x.2.1) (some (wr .i64
 (b+(1:Int)))) none))) (List.take ((0:Nat)+Prod.fst (Prod.snd (cutT (0:Nat) (List.length x.2.1) (List.length x.2.1) (some (wr .i64 (b +
 (1:Int)))) none))+(Prod.snd (Prod.snd (cutT (0:Nat) (List.length x.2.1) (List.length x.2.1) (some (wr .i64 (b+(1:Int)))) none))-Prod.fst
 (Prod.snd (cutT (0:Nat) (List.length x.2.1) (List.length x.2.1) (some (wr .i64 (b+(1:Int)))) none)))) x.2.1)))) (List.take (Prod.snd (Prod.snd
 (cutT (0:Nat) (List.length x.2.1) (List.length x.2.1) none (some b)))-Prod.fst (Prod.snd (cutT (0:Nat) (List.length x.2.1) (List.length x.2.1)
 none (some b)))) x.2.1++(List.drop ((0:Nat)+Prod.fst (Prod.snd (cutT (0:Nat) (List.length x.2.1) (List.length x.2.1) (some (wr .i64 (b +
 (1:Int)))) none))) (List.take ((0:Nat)+Prod.fst (Prod.snd (cutT (0:Nat) (List.length x.2.1) (List.length x.2.1) (some (wr .i64 (b+(1:Int))))
 none))+(Prod.snd (Prod.snd (cutT (0:Nat) (List.length x.2.1) (List.length x.2.1) (some (wr .i64 (b+(1:Int)))) none))-Prod.fst (Prod.snd (cutT
 (0:Nat) (List.length x.2.1) (List.length x.2.1) (some (wr .i64 (b+(1:Int)))) none)))) x.2.1)++List.drop (Prod.snd (Prod.snd (cutT (0:Nat)
 (List.length x.2.1) (List.length x.2.1) none (some b)))-Prod.fst (Prod.snd (cutT (0:Nat) (List.length x.2.1) (List.length x.2.1) none (some b))) +
 List.length (List.drop ((0:Nat)+Prod.fst (Prod.snd (cutT (0:Nat) (List.length x.2.1) (List.length x.2.1) (some (wr .i64 (b+(1:Int)))) none)))
 (List.take ((0:Nat)+Prod.fst (Prod.snd (cutT (0:Nat) (List.length x.2.1) (List.length x.2.1) (some (wr .i64 (b+(1:Int)))) none))+(Prod.snd
 (Prod.snd (cutT (0:Nat) (List.length x.2.1) (List.length x.2.1) (some (wr .i64 (b+(1:Int)))) none))-Prod.fst (Prod.snd (cutT (0:Nat)
 (List.length x.2.1) (List.length x.2.1) (some (wr .i64 (b+(1:Int)))) none)))) x.2.1))) x.2.1))))) none) none) none) none) none) (obind (w_g (x.1,b_1)) fun b_2=>cnd (decide ((0:Int)≤b)&&decide (b<(↑(List.length x.2.1):Int))) (cnd (decide (x.2.2.2≤(↑(List.length b_1):
 Int))) (some (putL x.2.1 [b_2] (Int.toNat b))) (cnd (decide ((↑(List.length (putL x.2.1 [b_2] (Int.toNat b))):Int)=(1:Int))) (some (putL x.2.1
 [b_2] (Int.toNat b))) (obind (loopN N (fun(v:Int×List (List Int×Int)×List Int)=>cnd (decide (v.1<(↑(List.length v.2.1):Int))) (cnd
 (decide (v.1≠b)) (cnd (decide ((0:Int)≤v.1)&&decide (v.1<(↑(List.length v.2.1):Int))) (cnd (decide ((List.length v.2.2+(1:Nat)) *
 (8:Nat)≤(140737488355328:Nat))) (some (Sum.inl (wr .i64 (v.1+(1:Int)),v.2.1,v.2.2++[Prod.snd (List.getD v.2.1 (Int.toNat v.1) ([],
 (0:Int)))]))) none) none) (some (Sum.inl (wr .i64 (v.1+(1:Int)),v.2)))) (some (Sum.inr (v.2.2,v.2.1)))) ((0:Int),putL x.2.1 [b_2] (Int.toNat
 b),[])) fun(b_3:List Int×List (List Int×Int))=>cnd (decide ((0:Int)≤b)&&decide (b<(↑(List.length b_3.2):Int))) (obind (w_k (x.1,Prod.snd (List.getD b_3.2 (Int.toNat b) ([],(0:Int))),b_3.1)) fun b_4=>obind (w_d (b_3.2,b_4)) fun b_5=>cnd (decide
 (List.length b_1*(8:Nat)≤(140737488355328:Nat))) (cnd (decide ((0:Int)≤b_5)&&decide (b_5<(↑(List.length b_3.2):Int))) (cnd (decide
 ((List.length b_1+List.length (Prod.fst (List.getD b_3.2 (Int.toNat b_5) ([],(0:Int)))))*(8:Nat)≤(140737488355328:Nat))) (obind
 (w_f (b_1++Prod.fst (List.getD b_3.2 (Int.toNat b_5) ([],(0:Int))))) fun b_6=>obind (w_g (x.1,b_6)) fun b_7=>cnd (decide
 ((0:Int)≤b)&&decide (b<(↑(List.length b_3.2):Int))) (obind (cnd (decide (Option.getD none (0:Int)≤b_5)) (cnd (decide ((↑(0:Nat):Int) +
 b_5≤(↑(List.length (putL b_3.2 [b_7] (Int.toNat b))):Int))) (cnd (decide (List.length (List.drop ((0:Nat)+Prod.fst (Prod.snd (cutT (0:Nat)
 (List.length (putL b_3.2 [b_7] (Int.toNat b))) (List.length (putL b_3.2 [b_7] (Int.toNat b))) none (some b_5)))) (List.take ((0:Nat)+Prod.fst
 (Prod.snd (cutT (0:Nat) (List.length (putL b_3.2 [b_7] (Int.toNat b))) (List.length (putL b_3.2 [b_7] (Int.toNat b))) none (some b_5)))+(Prod.snd
 (Prod.snd (cutT (0:Nat) (List.length (putL b_3.2 [b_7] (Int.toNat b))) (List.length (putL b_3.2 [b_7] (Int.toNat b))) none (some b_5)))-Prod.fst
 (Prod.snd (cutT (0:Nat) (List.length (putL b_3.2 [b_7] (Int.toNat b))) (List.length (putL b_3.2 [b_7] (Int.toNat b))) none (some b_5))))) (putL
 b_3.2 [b_7] (Int.toNat b))))*(32:Nat)≤(140737488355328:Nat))) (cnd (decide ((0:Int)≤Option.getD (some (wr .i64 (b_5+(1:Int)))) (0:Int)))
 (cnd (decide (Option.getD (some (wr .i64 (b_5+(1:Int)))) (0:Int)≤(↑(List.length (putL b_3.2 [b_7] (Int.toNat b))):Int))) (cnd (decide
 ((List.length (List.drop ((0:Nat)+Prod.fst (Prod.snd (cutT (0:Nat) (List.length (putL b_3.2 [b_7] (Int.toNat b))) (List.length (putL b_3.2 [b_7]
 (Int.toNat b))) none (some b_5)))) (List.take ((0:Nat)+Prod.fst (Prod.snd (cutT (0:Nat) (List.length (putL b_3.2 [b_7] (Int.toNat b)))
 (List.length (putL b_3.2 [b_7] (Int.toNat b))) none (some b_5)))+(Prod.snd (Prod.snd (cutT (0:Nat) (List.length (putL b_3.2 [b_7] (Int.toNat b)))
 (List.length (putL b_3.2 [b_7] (Int.toNat b))) none (some b_5)))-Prod.fst (Prod.snd (cutT (0:Nat) (List.length (putL b_3.2 [b_7] (Int.toNat b)))
 (List.length (putL b_3.2 [b_7] (Int.toNat b))) none (some b_5))))) (putL b_3.2 [b_7] (Int.toNat b))))+List.length (List.drop ((0:Nat)+Prod.fst
 (Prod.snd (cutT (0:Nat) (List.length (putL b_3.2 [b_7] (Int.toNat b))) (List.length (putL b_3.2 [b_7] (Int.toNat b))) (some (wr .i64 (b_5 +
 (1:Int)))) none))) (List.take ((0:Nat)+Prod.fst (Prod.snd (cutT (0:Nat) (List.length (putL b_3.2 [b_7] (Int.toNat b))) (List.length (putL b_3.2
 [b_7] (Int.toNat b))) (some (wr .i64 (b_5+(1:Int)))) none))+(Prod.snd (Prod.snd (cutT (0:Nat) (List.length (putL b_3.2 [b_7] (Int.toNat b)))
 (List.length (putL b_3.2 [b_7] (Int.toNat b))) (some (wr .i64 (b_5+(1:Int)))) none))-Prod.fst (Prod.snd (cutT (0:Nat) (List.length (putL b_3.2
 [b_7] (Int.toNat b))) (List.length (putL b_3.2 [b_7] (Int.toNat b))) (some (wr .i64 (b_5+(1:Int)))) none)))) (putL b_3.2 [b_7] (Int.toNat b))))) *
 (32:Nat)≤(140737488355328:Nat))) (some (List.drop ((0:Nat)+Prod.fst (Prod.snd (cutT (0:Nat) (List.length (putL b_3.2 [b_7] (Int.toNat b)))
 (List.length (putL b_3.2 [b_7] (Int.toNat b))) none (some b_5)))) (List.take ((0:Nat)+Prod.fst (Prod.snd (cutT (0:Nat) (List.length (putL b_3.2
 [b_7] (Int.toNat b))) (List.length (putL b_3.2 [b_7] (Int.toNat b))) none (some b_5)))+(Prod.snd (Prod.snd (cutT (0:Nat) (List.length (putL b_3.2
 [b_7] (Int.toNat b))) (List.length (putL b_3.2 [b_7] (Int.toNat b))) none (some b_5)))-Prod.fst (Prod.snd (cutT (0:Nat) (List.length (putL b_3.2
 [b_7] (Int.toNat b))) (List.length (putL b_3.2 [b_7] (Int.toNat b))) none (some b_5))))) (putL b_3.2 [b_7] (Int.toNat b)))++List.drop ((0:Nat) +
 Prod.fst (Prod.snd (cutT (0:Nat) (List.length (putL b_3.2 [b_7] (Int.toNat b))) (List.length (putL b_3.2 [b_7] (Int.toNat b))) (some (wr .i64 (b_5 +
 (1:Int)))) none))) (List.take ((0:Nat)+Prod.fst (Prod.snd (cutT (0:Nat) (List.length (putL b_3.2 [b_7] (Int.toNat b))) (List.length (putL b_3.2
 [b_7] (Int.toNat b))) (some (wr .i64 (b_5+(1:Int)))) none))+(Prod.snd (Prod.snd (cutT (0:Nat) (List.length (putL b_3.2 [b_7] (Int.toNat b)))
 (List.length (putL b_3.2 [b_7] (Int.toNat b))) (some (wr .i64 (b_5+(1:Int)))) none))-Prod.fst (Prod.snd (cutT (0:Nat) (List.length (putL b_3.2
 [b_7] (Int.toNat b))) (List.length (putL b_3.2 [b_7] (Int.toNat b))) (some (wr .i64 (b_5+(1:Int)))) none)))) (putL b_3.2 [b_7] (Int.toNat b)))))
 none) none) none) none) none) none) fun(b_8:List (List Int×Int))=>obind (cnd (decide (b_5<b)) (some (wr .i64 (b-(1:Int)))) (some b)) fun
 (b:Int)=>cnd (decide ((0:Int)≤b)&&decide (b<(↑(List.length b_8):Int))) (cnd (decide (wr .i64 (wr .i64 ((3:Int)*x.2.2.2)-(1:Int)) <
 (↑(List.length (Prod.fst (List.getD b_8 (Int.toNat b) ([],(0:Int))))):Int))) (obind (w_m (x.1,b_8,b,x.2.2.2)) fun b=>some b)
 (some b_8)) none) none) none) none) none) none))) none)) none)) none
theorem q_Y:∀w_d w_u w_g w_k w_f w_m N x,u_Y.F L0 P0 (orcOf [u_d.con w_d,u_u.con w_u,u_g.con w_g,u_k.con w_k,u_f.con w_f,u_m.con w_m]) N x=V_Y w_d w_u w_g w_k w_f w_m N x:=by intros;kernel_rfl
noncomputable def W_Y (N:Nat):=V_Y (W_d N) (W_u N) (W_g N) (W_k N) (W_f N) (W_m N) N
theorem con_Y_ok (N:Nat):(u_Y.con (W_Y N)).ok P0:=Uf.ok mixed (q_Y (W_d N) (W_u N) (W_g N) (W_k N) (W_f N) (W_m N) N) ⟨con_d_ok N,con_u_ok N,con_g_ok N,con_k_ok N,con_f_ok N,con_m_ok N,trivial⟩ Tryz.func84 (by kernel_rfl) fun x y=>by kernel_rfl
noncomputable def u_aV:Uf:=⟨65,37,Tryz.f65,[.val (.agg T4_),.val (.int .i64)],[],
⟨[(4,.ptr 600004 0)],[(600004,.box 30 (.val T4_))]⟩,[],
[],
[(1000001,.reg [(10,[],⟨[(2,.ptr 600002 0),(4,.ptr 600004 0),(14,.val .bool)],[(600002,.box 30 (.val T4_)),(600004,.box 30 (.val T4_))]⟩)])],fun y=>(valW (.agg T4_) y,[],[])⟩
noncomputable def V_aV (w_o:List (List Int)→Option (Bool)) (w_d:List (List Int×Int)×Int→Option (Int)) (w_Y:List (List Int)×List (List Int×Int)×Int×Int→Option (List (List Int×Int))) (w_w:A5_×List (List Int×Int)→Option A5_) (N:Nat) (x:A5_×Int):Option A5_:=
 obind (obind (w_o x.1.2.1) fun b=>cnd (!b) (some (true,x.1,(0:Int),[],[])) (some (decide ((↑(List.length x.1.2.2):Int)=
 (0:Int)),x.1,(0:Int),[],[]))) fun(b:Bool×A5_×A5_)=>cnd b.1 (some b.2.1) (cnd (decide ((0:Int)≤(0:Int))&&decide ((0:Int)<(↑(List.length b.2.1.2.2):Int))) (obind (w_d
 (List.getD b.2.1.2.2 (0:Nat) [],x.2)) fun b_1=>cnd (decide (b_1<(0:Int))) (some b.2.1) (cnd (decide ((0:Int)≤(0:Int))&&decide ((0:Int) <
 (↑(List.length b.2.1.2.2):Int))) (obind (w_Y (b.2.1.2.1,List.getD b.2.1.2.2 (0:Nat) [],x.2,b.2.1.1)) fun b_2=>obind
 (w_w (b.2.1,b_2)) fun b=>some b) none)) none)
theorem q_aV:∀w_o w_d w_Y w_w N x,u_aV.F L0 P0 (orcOf [u_o.con w_o,u_d.con w_d,u_Y.con w_Y,u_w.con w_w]) N x=V_aV w_o w_d w_Y w_w N x:=by intros;kernel_rfl
noncomputable def W_aV (N:Nat):=V_aV (W_o N) (W_d N) (W_Y N) (W_w N) N
theorem con_aV_ok (N:Nat):(u_aV.con (W_aV N)).ok P0:=Uf.ok mixed (q_aV (W_o N) (W_d N) (W_Y N) (W_w N) N) ⟨con_o_ok N,con_d_ok N,con_Y_ok N,con_w_ok N,trivial⟩ Tryz.func65 (by kernel_rfl) fun x y=>by kernel_rfl
noncomputable def u_a5:Uf:=⟨41,100,Tryz.f41,[.val (.agg T2_),.val (.agg T12_)],[],
⟨[(4,.ptr 600004 0),(5,.val (.int .i64))],[(600004,.box 32 (.val T2_))]⟩,[],
[],
[],fun y=>(.tup [valW (.agg T2_) y.2,valW (.int .i64) y.1],[],[])⟩
noncomputable def V_a5 (w_V:A5_×Int→Option A5_) (w_a1:A5_×Int→Option (Int)) (w_D:A0_×Int×List UInt8×Int→Option (Bool×A0_)) (w_l:(List A0_×A1_)×Int×A0_×List A4_→Option (List A0_×A1_)) (w_ae:A0_→Option (List A4_×A0_)) (w_z:A0_→Option A0_) (w_ar:A0_→Option (List A4_×A0_)) (w_aV:A5_×Int→Option A5_) (N:Nat) (x:(List A0_×A1_)×Int×Int×Int×Int×List UInt8):Option (Int×List A0_×A1_):=
 cnd (decide ((0:Int)≤wr .i64 (x.2.2.1-(1:Int)))&&decide (wr .i64 (x.2.2.1-(1:Int))<(↑(List.length x.1.1):Int))) (cnd (decide (x.2.1=
 (1:Int))) (cnd (Prod.fst (List.getD x.1.1 (Int.toNat (wr .i64 (x.2.2.1-(1:Int)))) (false,(0:Int),[],((0:Int),(0:Int),(0:Int),(0:Int),
 (0:Int),(0:Int),[],(0:Int),(0:Int),(0:Int),(0:Int),(0:Int),[]),((0:Int),(0:Int),[],[],[],(0:Int),(0:Int)),(0:Int)))) (some ((4:Int),
 x.1)) (obind (w_V (x.1.2.2.2,x.2.2.1)) fun b=>obind (w_a1 (b,x.2.2.1)) fun b_1=>obind (w_D ((List.getD x.1.1
 (Int.toNat (wr .i64 (x.2.2.1-(1:Int)))) (false,(0:Int),[],((0:Int),(0:Int),(0:Int),(0:Int),(0:Int),(0:Int),[],(0:Int),(0:Int),(0:Int),
 (0:Int),(0:Int),[]),((0:Int),(0:Int),[],[],[],(0:Int),(0:Int)),(0:Int))),x.2.2.1,x.2.2.2.2.2,b_1)) fun b_2=>cnd (!b_2.1) (some
 ((1:Int),x.1)) (obind (w_l ((x.1.1,x.1.2.1,x.1.2.2.1,b),wr .i64 (x.2.2.1-(1:Int)),b_2.2,[])) fun b=>some ((0:Int),b)))) (cnd
 (!Prod.fst (List.getD x.1.1 (Int.toNat (wr .i64 (x.2.2.1-(1:Int)))) (false,(0:Int),[],((0:Int),(0:Int),(0:Int),(0:Int),(0:Int),(0:Int),
 [],(0:Int),(0:Int),(0:Int),(0:Int),(0:Int),[]),((0:Int),(0:Int),[],[],[],(0:Int),(0:Int)),(0:Int)))) (some ((3:Int),x.1)) (cnd
 (decide (x.2.1=(5:Int))) (obind (w_ae (List.getD x.1.1 (Int.toNat (wr .i64 (x.2.2.1-(1:Int)))) (false,(0:Int),[],((0:Int),
 (0:Int),(0:Int),(0:Int),(0:Int),(0:Int),[],(0:Int),(0:Int),(0:Int),(0:Int),(0:Int),[]),((0:Int),(0:Int),[],[],[],(0:Int),(0:Int)),
 (0:Int)))) fun b=>obind (w_l (x.1,wr .i64 (x.2.2.1-(1:Int)),b.2,b.1)) fun b=>some ((0:Int),b)) (cnd (decide (wr .i64 (x.2.2.1 -
 (1:Int))=(0:Int))) (some ((1:Int),x.1)) (cnd (decide (x.2.1=(3:Int))) (obind (w_z (List.getD x.1.1 (Int.toNat (wr .i64 (x.2.2.1 -
 (1:Int)))) (false,(0:Int),[],((0:Int),(0:Int),(0:Int),(0:Int),(0:Int),(0:Int),[],(0:Int),(0:Int),(0:Int),(0:Int),(0:Int),[]),
 ((0:Int),(0:Int),[],[],[],(0:Int),(0:Int)),(0:Int)))) fun b=>obind (w_l (x.1,wr .i64 (x.2.2.1-(1:Int)),b,[])) fun b=>some
 ((0:Int),b)) (obind (w_ar (List.getD x.1.1 (Int.toNat (wr .i64 (x.2.2.1-(1:Int)))) (false,(0:Int),[],((0:Int),(0:Int),(0:Int),
 (0:Int),(0:Int),(0:Int),[],(0:Int),(0:Int),(0:Int),(0:Int),(0:Int),[]),((0:Int),(0:Int),[],[],[],(0:Int),(0:Int)),(0:Int)))) fun b
 => obind (w_aV (x.1.2.2.2,x.2.2.1)) fun b_1=>obind (w_l ((x.1.1,x.1.2.1,x.1.2.2.1,b_1),wr .i64 (x.2.2.1-(1:Int)),b.2,
 b.1)) fun b=>some ((0:Int),b))))))) none
theorem q_a5:∀w_V w_a1 w_D w_l w_ae w_z w_ar w_aV N x,u_a5.F L0 P0 (orcOf [u_V.con w_V,u_a1.con w_a1,u_D.con w_D,u_l.con w_l,u_ae.con w_ae,u_z.con w_z,u_ar.con w_ar,u_aV.con w_aV]) N x=V_a5 w_V w_a1 w_D w_l w_ae w_z w_ar w_aV N x:=by intros;kernel_rfl
noncomputable def W_a5 (N:Nat):=V_a5 (W_V N) (W_a1 N) (W_D N) (W_l N) (W_ae N) (W_z N) (W_ar N) (W_aV N) N
theorem con_a5_ok (N:Nat):(u_a5.con (W_a5 N)).ok P0:=Uf.ok mixed (q_a5 (W_V N) (W_a1 N) (W_D N) (W_l N) (W_ae N) (W_z N) (W_ar N) (W_aV N) N) ⟨con_V_ok N,con_a1_ok N,con_D_ok N,con_l_ok N,con_ae_ok N,con_z_ok N,con_ar_ok N,con_aV_ok N,trivial⟩ Tryz.func41 (by kernel_rfl) fun x y=>by kernel_rfl
noncomputable def u_bc:Uf:=⟨66,37,Tryz.f66,[.val (.agg T3_),.val .str],[],
⟨[(4,.ptr 600004 0),(5,.val .bool)],[(600004,.box 42 (.val T3_))]⟩,[],
[],
[],fun y=>(.tup [valW (.agg T3_) y.2,valW .bool y.1],[],[])⟩
noncomputable def V_bc (w_Q:List (Int×A6_)×Int×List UInt8→Option (List (Int×A6_))) (w_G:List (Int×List UInt8)×Int×List UInt8→Option (List (Int×List UInt8))) (N:Nat) (x:A3_×List UInt8):Option (Bool×A3_):=
 cnd (decide ((12:Int)<(↑(List.length x.2):Int))) (some (false,x.1)) (cnd (decide ((1000000:Int)<max x.1.1 (1:Int))) (some (false,x.1)) (obind
 (w_Q (x.1.2.2.2.2.1,max x.1.1 (1:Int),x.2)) fun b=>obind (w_G (x.1.2.2.1,max x.1.1 (1:Int),x.2)) fun b_1=>some
 (true,wr .i64 (max x.1.1 (1:Int)+(1:Int)),max x.1.1 (1:Int),b_1,x.1.2.2.2.1,b,x.1.2.2.2.2.2)))
theorem q_bc:∀w_Q w_G N x,u_bc.F L0 P0 (orcOf [u_Q.con w_Q,u_G.con w_G]) N x=V_bc w_Q w_G N x:=by intros;kernel_rfl
noncomputable def W_bc (N:Nat):=V_bc (W_Q N) (W_G N) N
theorem con_bc_ok (N:Nat):(u_bc.con (W_bc N)).ok P0:=Uf.ok mixed (q_bc (W_Q N) (W_G N) N) ⟨con_Q_ok N,con_G_ok N,trivial⟩ Tryz.func66 (by kernel_rfl) fun x y=>by kernel_rfl
noncomputable def u_aZ:Uf:=⟨42,45,Tryz.f42,[.val (.agg T0_),.val .str],[],
⟨[(4,.ptr 600004 0),(5,.val (.list (.agg T_))),(6,.val .bool)],[(600004,.box 48 (.val T0_))]⟩,[],
[],
[(1000002,.reg [(9,[],⟨[(2,.ptr 600002 0),(4,.ptr 600004 0),(7,.ptr 600007 0),(25,.val .bool)],[(600002,.box 48 (.val T0_)),(600004,.box 48 (.val T0_)),(600007,.box 42 (.val T3_))]⟩)])],fun y=>(.tup [valW (.agg T0_) y.2.2,valW (.list (.agg T_)) y.1,valW .bool y.2.1],[],[])⟩
noncomputable def V_aZ (w_bc:A3_×List UInt8→Option (Bool×A3_)) (w_p:A2_×List (Int×A6_)→Option (List A4_)) (N:Nat) (x:A0_×List UInt8):Option (List A4_×Bool×A0_):=
 obind (w_bc (x.1.2.2.2.2.1,x.2)) fun b=>obind (cnd (!x.1.1) (some (true,x.1,(false,(0:Int),[],((0:Int),(0:Int),(0:Int),(0:Int),
 (0:Int),(0:Int),[],(0:Int),(0:Int),(0:Int),(0:Int),(0:Int),[]),((0:Int),(0:Int),[],[],[],(0:Int),(0:Int)),(0:Int)),b.2)) (some
 (decide (x.1.2.2.2.1.1≠(1:Int)),x.1,(false,(0:Int),[],((0:Int),(0:Int),(0:Int),(0:Int),(0:Int),(0:Int),[],(0:Int),(0:Int),(0:Int),
 (0:Int),(0:Int),[]),((0:Int),(0:Int),[],[],[],(0:Int),(0:Int)),(0:Int)),b.2))) fun(b_1:Bool×A0_×A0_×A3_)=>cnd b_1.1 (some ([],false,b_1.2.1)) (cnd (!b.1) (some ([],false,b_1.2.1)) (cnd (decide ((0:Int)≤(↑(List.length
 b_1.2.1.2.2.2.2.1.2.2.2.2.1):Int))&&decide ((↑(List.length b_1.2.1.2.2.2.2.1.2.2.2.2.1):Int)≤(↑(List.length b_1.2.2.2.2.2.2.2.1):Int)))
 (obind (w_p (b_1.2.1.2.2.2.1,List.drop (Int.toNat (↑(List.length b_1.2.1.2.2.2.2.1.2.2.2.2.1):Int)) (List.take (List.length
 b_1.2.2.2.2.2.2.2.1) b_1.2.2.2.2.2.2.2.1))) fun b=>some (b,true,b_1.2.1.1,b_1.2.1.2.1,b_1.2.1.2.2.1,b_1.2.1.2.2.2.1,b_1.2.2.2,
 b_1.2.1.2.2.2.2.2)) none))
theorem q_aZ:∀w_bc w_p N x,u_aZ.F L0 P0 (orcOf [u_bc.con w_bc,u_p.con w_p]) N x=V_aZ w_bc w_p N x:=by intros;kernel_rfl
noncomputable def W_aZ (N:Nat):=V_aZ (W_bc N) (W_p N) N
theorem con_aZ_ok (N:Nat):(u_aZ.con (W_aZ N)).ok P0:=Uf.ok mixed (q_aZ (W_bc N) (W_p N) N) ⟨con_bc_ok N,con_p_ok N,trivial⟩ Tryz.func42 (by kernel_rfl) fun x y=>by kernel_rfl
noncomputable def u_0:Uf:=⟨44,31,Tryz.f44,[.val (.list T10_),.val (.int .i64)],[],
⟨[(4,.val (.list T10_)),(5,.ptr 600005 0),(6,.val .bool)],[(600005,.box 98 (.val (.pair (.int .i64) (.pair .str .bool))))]⟩,[],
[],
[],fun y=>(.tup [valW (.list T10_) y.1,valW T10_ y.2.2,valW .bool y.2.1],[],[])⟩
noncomputable def V_0 (N:Nat) (x:List (Int×List UInt8×Bool)×Int):Option (List (Int×List UInt8×Bool)×Bool×Int×List UInt8×Bool):=
 cnd (decide (x.2<(0:Int))) (some (x.1,false,(0:Int),[],false)) (cnd (decide ((↑(List.length x.1):Int)≤x.2)) (some (x.1,false,(0:Int),[],
 false)) (cnd (decide ((0:Int)≤x.2)&&decide (x.2≤(↑(List.length x.1):Int))) (cnd (decide (List.length (List.drop (0:Nat) (List.take
 (Int.toNat x.2) x.1))*(32:Nat)≤(140737488355328:Nat))) (cnd (decide ((0:Int)≤wr .i64 (x.2+(1:Int)))&&decide (wr .i64 (x.2+(1:Int)) ≤
 (↑(List.length x.1):Int))) (cnd (decide ((List.length (List.drop (0:Nat) (List.take (Int.toNat x.2) x.1))+List.length (List.drop (Int.toNat (wr
 .i64 (x.2+(1:Int)))) (List.take (List.length x.1) x.1)))*(32:Nat)≤(140737488355328:Nat))) (cnd (decide ((0:Int)≤x.2)&&decide (x.2 <
 (↑(List.length x.1):Int))) (some (List.drop (0:Nat) (List.take (Int.toNat x.2) x.1)++List.drop (Int.toNat (wr .i64 (x.2+(1:Int)))) (List.take
 (List.length x.1) x.1),true,List.getD x.1 (Int.toNat x.2) ((0:Int),[],false))) none) none) none) none) none))
theorem q_0:∀N x,u_0.F L0 P0 (orcOf []) N x=V_0 N x:=by intros;kernel_rfl
noncomputable def W_0 (N:Nat):=V_0 N
theorem con_0_ok (N:Nat):(u_0.con (W_0 N)).ok P0:=Uf.ok mixed (q_0 N) trivial Tryz.func44 (by kernel_rfl) fun x y=>by kernel_rfl
noncomputable def u_x:Uf:=⟨129,51,Tryz.f129,[.val (.list (.int .u8))],[],
⟨[(2,.val (.int .i64)),(3,.val (.int .i64)),(4,.val .bool)],[]⟩,[],
[(3,.loop [] ⟨[(5,.val (.int .i64)),(6,.val (.int .i64)),(7,.val (.int .i64))],[]⟩ [(.exit 0,⟨[],[]⟩),(.ret,⟨[(2,.val (.int .i64)),(3,.val (.int .i64)),(4,.val .bool)],[]⟩)])],
[(1000008,.reg [(9,[],⟨[(43,.val .bool)],[]⟩)])],fun y=>(.tup [valW (.int .i64) y.1,valW (.int .i64) y.2.1,valW .bool y.2.2],[],[])⟩
noncomputable def V_x (N:Nat) (x:List Int):Option (Int×Int×Bool):=
 obind (loopN N (fun(v:Int×Int×Int)=>cnd (decide (v.2.2<(↑(List.length x):Int))) (cnd (decide (v.2.2<(5:Int))) (cnd (decide ((0:Int) ≤
 v.2.2)&&decide (v.2.2<(↑(List.length x):Int))) (cnd (decide ((0:Int)≤v.2.2)&&decide (v.2.2<(↑(List.length x):Int))) (cnd (decide
 (List.getD x (Int.toNat v.2.2) (0:Int)<(128:Int))) (obind (cnd (decide ((0:Int)<v.2.2)) (cnd (decide ((0:Int)≤v.2.2)&&decide (v.2.2 <
 (↑(List.length x):Int))) (some (decide (List.getD x (Int.toNat v.2.2) (0:Int)=(0:Int)))) none) (some false)) fun(b:Bool)=>cnd b (some
 (Sum.inr (Sum.inr ((0:Int),(0:Int),false)))) (cnd (decide ((1073741824:Int)<wr .i64 (v.1+wr .i64 (wr .i64 (Int.tmod (List.getD x (Int.toNat
 v.2.2) (0:Int)) (128:Int))*v.2.1)))) (some (Sum.inr (Sum.inr ((0:Int),(0:Int),false)))) (some (Sum.inr (Sum.inr (wr .i64 (v.1+wr .i64 (wr .i64
 (Int.tmod (List.getD x (Int.toNat v.2.2) (0:Int)) (128:Int))*v.2.1)),wr .i64 (v.2.2+(1:Int)),true)))))) (some (Sum.inl (wr .i64 (v.1+wr .i64
 (wr .i64 (Int.tmod (List.getD x (Int.toNat v.2.2) (0:Int)) (128:Int))*v.2.1)),wr .i64 (v.2.1*(128:Int)),wr .i64 (v.2.2+(1:Int)))))) none)
 none) (some (Sum.inr (Sum.inl ())))) (some (Sum.inr (Sum.inl ())))) ((0:Int),(1:Int),(0:Int))) fun(b:PUnit⊕Int×Int×Bool)=>selim (fun(b
 : PUnit)=>some ((0:Int),(0:Int),false)) (fun(c:Int×Int×Bool)=>some c) b
theorem q_x:∀N x,u_x.F L0 P0 (orcOf []) N x=V_x N x:=by intros;kernel_rfl
noncomputable def W_x (N:Nat):=V_x N
theorem con_x_ok (N:Nat):(u_x.con (W_x N)).ok P0:=Uf.ok mixed (q_x N) trivial Tryz.func129 (by kernel_rfl) fun x y=>by kernel_rfl
noncomputable def u_q:Uf:=⟨115,34,Tryz.f115,[.ptr 0 0],[.box 197 T13_],
⟨[(0,.ptr 1000000 0),(2,.val (.int .i64))],[(1000000,.box 197 (.val T13_))]⟩,[true],
[],
[(4,.cut [] [(.normal,⟨[(0,.ptr 1000000 0)],[(1000000,.box 197 (.val T13_))]⟩)])],fun y=>(valW (.int .i64) y.1,[.box 197 (cellsW T13_ y.2)],[])⟩
noncomputable def V_q (w_x:List Int→Option (Int×Int×Bool)) (N:Nat) (x:List Int×Bool):Option (Int×List Int×Bool):=
 obind (w_x x.1) fun b=>obind (cnd (!b.2.2) (some (x.1,true)) (some x)) fun(b_1:List Int×Bool)=>cnd b_1.2 (some ((0:Int),b_1))
 (cnd (decide ((0:Int)≤b.2.1)&&decide (b.2.1≤(↑(List.length b_1.1):Int))) (some (b.1,List.drop (Int.toNat b.2.1) (List.take (List.length
 b_1.1) b_1.1),b_1.2)) none)
theorem q_q:∀w_x N x,u_q.F L0 P0 (orcOf [u_x.con w_x]) N x=V_q w_x N x:=by intros;kernel_rfl
noncomputable def W_q (N:Nat):=V_q (W_x N) N
theorem con_q_ok (N:Nat):(u_q.con (W_q N)).ok P0:=Uf.ok mixed (q_q (W_x N) N) ⟨con_x_ok N,trivial⟩ Tryz.func115 (by kernel_rfl) fun x y=>by kernel_rfl
noncomputable def u_ax:Uf:=⟨130,34,Tryz.f130,[.val (.list (.int .u8))],[],
⟨[(2,.val .str),(3,.val (.int .i64)),(4,.val .bool)],[]⟩,[],
[],
[],fun y=>(.tup [valW .str y.1,valW (.int .i64) y.2.1,valW .bool y.2.2],[],[])⟩
noncomputable def V_ax (w_x:List Int→Option (Int×Int×Bool)) (N:Nat) (x:List Int):Option (List UInt8×Int×Bool):=
 obind (w_x x) fun b=>cnd (!b.2.2) (some ([],(0:Int),false)) (cnd (decide (wr .i64 ((↑(List.length x):Int)-b.2.1)<b.1)) (some
 ([],(0:Int),false)) (cnd (decide ((0:Int)≤b.2.1)&&decide (b.2.1≤wr .i64 (b.2.1+b.1))&&decide (wr .i64 (b.2.1+b.1)≤(↑(List.length x)
 : Int))) (cnd (List.all (List.drop (Int.toNat b.2.1) (List.take (Int.toNat (wr .i64 (b.2.1+b.1))) x)) fun(n:Int)=>decide ((0:Int)≤n) &&
 decide (n<(256:Int))) (some (List.map (fun(n:Int)=>UInt8.ofNat (Int.toNat n)) (List.drop (Int.toNat b.2.1) (List.take (Int.toNat (wr .i64
 (b.2.1+b.1))) x)),wr .i64 (b.2.1+b.1),true)) none) none))
theorem q_ax:∀w_x N x,u_ax.F L0 P0 (orcOf [u_x.con w_x]) N x=V_ax w_x N x:=by intros;kernel_rfl
noncomputable def W_ax (N:Nat):=V_ax (W_x N) N
theorem con_ax_ok (N:Nat):(u_ax.con (W_ax N)).ok P0:=Uf.ok mixed (q_ax (W_x N) N) ⟨con_x_ok N,trivial⟩ Tryz.func130 (by kernel_rfl) fun x y=>by kernel_rfl
noncomputable def u_6:Uf:=⟨116,34,Tryz.f116,[.ptr 0 0],[.box 197 T13_],
⟨[(0,.ptr 1000000 0),(2,.val .str)],[(1000000,.box 197 (.val T13_))]⟩,[true],
[],
[(4,.cut [] [(.normal,⟨[(0,.ptr 1000000 0)],[(1000000,.box 197 (.val T13_))]⟩)])],fun y=>(valW .str y.1,[.box 197 (cellsW T13_ y.2)],[])⟩
noncomputable def V_6 (w_ax:List Int→Option (List UInt8×Int×Bool)) (N:Nat) (x:List Int×Bool):Option (List UInt8×List Int×Bool):=
 obind (w_ax x.1) fun b=>obind (cnd (!b.2.2) (some (x.1,true)) (some x)) fun(b_1:List Int×Bool)=>cnd b_1.2 (some ([],b_1))
 (cnd (decide ((0:Int)≤b.2.1)&&decide (b.2.1≤(↑(List.length b_1.1):Int))) (some (b.1,List.drop (Int.toNat b.2.1) (List.take (List.length
 b_1.1) b_1.1),b_1.2)) none)
theorem q_6:∀w_ax N x,u_6.F L0 P0 (orcOf [u_ax.con w_ax]) N x=V_6 w_ax N x:=by intros;kernel_rfl
noncomputable def W_6 (N:Nat):=V_6 (W_ax N) N
theorem con_6_ok (N:Nat):(u_6.con (W_6 N)).ok P0:=Uf.ok mixed (q_6 (W_ax N) N) ⟨con_ax_ok N,trivial⟩ Tryz.func116 (by kernel_rfl) fun x y=>by kernel_rfl
noncomputable def u_8:Uf:=⟨91,79,Tryz.f91,[.val (.list (.int .u8))],[],
⟨[(2,.ptr 600002 0),(3,.val .bool)],[(600002,.box 133 (.val T_))]⟩,[],
[(11,.loop [] ⟨[(2,.ptr 600002 0),(4,.ptr 600017 0),(5,.ptr 600005 0),(6,.val (.int .i64))],[(600002,.box 133 (.pair (.val (.int .i64)) (.pair (.val (.int .i64)) (.pair (.val (.int .i64)) (.pair (.val (.int .i64)) (.pair (.val (.int .i64)) (.pair (.val (.int .i64)) (.pair (.acc 607002) (.pair (.val (.int .i64)) (.pair (.val (.int .i64)) (.val .str))))))))))),(607002,.nrow 3 (.int .i64) true true),(600017,.box 197 (.val T13_)),(600005,.box 133 (.pair (.val (.int .i64)) (.pair (.val (.int .i64)) (.pair (.val (.int .i64)) (.pair (.val (.int .i64)) (.pair (.val (.int .i64)) (.pair (.val (.int .i64)) (.pair (.acc 607005) (.pair (.val (.int .i64)) (.pair (.val (.int .i64)) (.val .str))))))))))),(607005,.nrow 3 (.int .i64) true true)]⟩ [(.exit 0,⟨[(2,.ptr 600002 0),(4,.ptr 600017 0),(5,.ptr 600005 0)],[(600002,.box 133 (.pair (.val (.int .i64)) (.pair (.val (.int .i64)) (.pair (.val (.int .i64)) (.pair (.val (.int .i64)) (.pair (.val (.int .i64)) (.pair (.val (.int .i64)) (.pair (.acc 607002) (.pair (.val (.int .i64)) (.pair (.val (.int .i64)) (.val .str))))))))))),(607002,.nrow 3 (.int .i64) true true),(600017,.box 197 (.val T13_)),(600005,.box 133 (.pair (.val (.int .i64)) (.pair (.val (.int .i64)) (.pair (.val (.int .i64)) (.pair (.val (.int .i64)) (.pair (.val (.int .i64)) (.pair (.val (.int .i64)) (.pair (.acc 607005) (.pair (.val (.int .i64)) (.pair (.val (.int .i64)) (.val .str))))))))))),(607005,.nrow 3 (.int .i64) true true)]⟩)])],
[],fun y=>(.tup [valW (.agg T_) y.2,valW .bool y.1],[],[])⟩
noncomputable def V_8 (w_q:List Int×Bool→Option (Int×List Int×Bool)) (w_6:List Int×Bool→Option (List UInt8×List Int×Bool)) (w_y:A4_→Option (List Int)) (N:Nat) (x:List Int):Option (Bool×A4_):=
 cnd (decide ((↑(List.length x):Int)<(4:Int))) (some (false,(0:Int),(0:Int),(0:Int),(0:Int),(0:Int),(0:Int),[],(0:Int),(0:Int),[])) (cnd
 (decide ((0:Int)≤wr .i64 ((↑(List.length x):Int)-(4:Int)))&&decide (wr .i64 ((↑(List.length x):Int)-(4:Int))≤(↑(List.length x):
 Int))) (obind (w_q (List.drop (0:Nat) (List.take (Int.toNat (wr .i64 ((↑(List.length x):Int)-(4:Int)))) x),false)) fun b=>
 obind (w_q b.2) fun b_1=>obind (w_q b_1.2) fun b_2=>obind (w_q b_2.2) fun b_3=>obind
 (w_q b_3.2) fun b_4=>obind (w_q b_4.2) fun b_5=>obind (w_q b_5.2) fun b_6=>obind (loopN N
 (fun(v:Int×Int×Int×Int×Int×Int×Int×Int×Int×List UInt8×List Int×(List Int×Bool)×Int×Int×Int×Int×Int×Int×Int×Int×List UInt8×List Int)=>cnd (decide ((0:Int)<v.1)) (cnd (!v.2.2.2.2.2.2.2.2.2.2.2.1.2) (obind (w_q
 v.2.2.2.2.2.2.2.2.2.2.2.1) fun b=>cnd (decide ((List.length v.2.2.2.2.2.2.2.2.2.2.2.2.2.2.2.2.2.2.2.2.2+List.length [b.1])*(8:Nat) ≤
 (140737488355328:Nat))) (some (Sum.inl (wr .i64 (v.1-(1:Int)),v.2.1,v.2.2.1,v.2.2.2.1,v.2.2.2.2.1,v.2.2.2.2.2.1,v.2.2.2.2.2.2.1,
 v.2.2.2.2.2.2.2.1,v.2.2.2.2.2.2.2.2.1,v.2.2.2.2.2.2.2.2.2.1,v.2.2.2.2.2.2.2.2.2.2.1,b.2,v.2.2.2.2.2.2.2.2.2.2.2.2.1,
 v.2.2.2.2.2.2.2.2.2.2.2.2.2.1,v.2.2.2.2.2.2.2.2.2.2.2.2.2.2.1,v.2.2.2.2.2.2.2.2.2.2.2.2.2.2.2.1,v.2.2.2.2.2.2.2.2.2.2.2.2.2.2.2.2.1,
 v.2.2.2.2.2.2.2.2.2.2.2.2.2.2.2.2.2.1,v.2.2.2.2.2.2.2.2.2.2.2.2.2.2.2.2.2.2.1,v.2.2.2.2.2.2.2.2.2.2.2.2.2.2.2.2.2.2.2.1,
 v.2.2.2.2.2.2.2.2.2.2.2.2.2.2.2.2.2.2.2.2.1,v.2.2.2.2.2.2.2.2.2.2.2.2.2.2.2.2.2.2.2.2.2++[b.1]))) none) (some (Sum.inr v.2))) (some (Sum.inr
 v.2))) (b_6.1,(0:Int),(0:Int),(0:Int),(0:Int),(0:Int),(0:Int),(0:Int),(0:Int),[],[],b_6.2,b.1,b_1.1,b_2.1,b_3.1,b_4.1,b_5.1,
 (0:Int),(0:Int),[],[])) fun(b:Int×Int×Int×Int×Int×Int×Int×Int×List UInt8×List Int×(List Int×Bool)×Int×Int×Int×Int×Int×Int×Int×Int×List UInt8×List Int)=>obind (w_q b.2.2.2.2.2.2.2.2.2.2.1) fun b_7=>obind (w_q
 b_7.2) fun b_8=>obind (w_6 b_8.2) fun b_9=>cnd b_9.2.2 (some (false,(0:Int),(0:Int),(0:Int),(0:Int),(0:Int),(0:Int),[],
 (0:Int),(0:Int),[])) (obind (w_y (b.2.2.2.2.2.2.2.2.2.2.2.1,b.2.2.2.2.2.2.2.2.2.2.2.2.1,b.2.2.2.2.2.2.2.2.2.2.2.2.2.1,
 b.2.2.2.2.2.2.2.2.2.2.2.2.2.2.1,b.2.2.2.2.2.2.2.2.2.2.2.2.2.2.2.1,b.2.2.2.2.2.2.2.2.2.2.2.2.2.2.2.2.1,b.2.2.2.2.2.2.2.2.2.2.2.2.2.2.2.2.2.2.2.2,
 b_7.1,b_8.1,b_9.1)) fun b_10=>cnd (List.all b_10 fun(n:Int)=>decide ((0:Int)≤n)&&decide (n<(256:Int))) (cnd (List.all x fun(n:Int)
 => decide ((0:Int)≤n)&&decide (n<(256:Int))) (cnd (!bytesI b_10==bytesI x) (some (false,(0:Int),(0:Int),(0:Int),(0:Int),(0:Int),
 (0:Int),[],(0:Int),(0:Int),[])) (some (true,b.2.2.2.2.2.2.2.2.2.2.2.1,b.2.2.2.2.2.2.2.2.2.2.2.2.1,b.2.2.2.2.2.2.2.2.2.2.2.2.2.1,
 b.2.2.2.2.2.2.2.2.2.2.2.2.2.2.1,b.2.2.2.2.2.2.2.2.2.2.2.2.2.2.2.1,b.2.2.2.2.2.2.2.2.2.2.2.2.2.2.2.2.1,b.2.2.2.2.2.2.2.2.2.2.2.2.2.2.2.2.2.2.2.2,
 b_7.1,b_8.1,b_9.1))) none) none)) none)
theorem q_8:∀w_q w_6 w_y N x,u_8.F L0 P0 (orcOf [u_q.con w_q,u_6.con w_6,u_y.con w_y]) N x=V_8 w_q w_6 w_y N x:=by intros;kernel_rfl
noncomputable def W_8 (N:Nat):=V_8 (W_q N) (W_6 N) (W_y N) N
theorem con_8_ok (N:Nat):(u_8.con (W_8 N)).ok P0:=Uf.ok mixed (q_8 (W_q N) (W_6 N) (W_y N) N) ⟨con_q_ok N,con_6_ok N,con_y_ok N,trivial⟩ Tryz.func91 (by kernel_rfl) fun x y=>by kernel_rfl
noncomputable def u_n:Uf:=⟨97,25,Tryz.f97,[.val (.list T11_),.val (.int .i64)],[],
⟨[(4,.ptr 600004 0),(5,.val .bool)],[(600004,.box 159 (.val (.pair (.int .i64) T5_)))]⟩,[],
[(2,.loop [] ⟨[(4,.ptr 600004 0),(6,.val (.int .i64))],[(600004,.box 159 (.val (.pair (.int .i64) T5_)))]⟩ [(.exit 0,⟨[(4,.ptr 600004 0)],[(600004,.box 159 (.val (.pair (.int .i64) T5_)))]⟩),(.ret,⟨[(4,.ptr 600004 0),(5,.val .bool)],[(600004,.box 159 (.val (.pair (.int .i64) T5_)))]⟩)])],
[],fun y=>(.tup [valW T11_ y.2,valW .bool y.1],[],[])⟩
noncomputable def V_n (N:Nat) (x:List (Int×Int×Int)×Int):Option (Bool×Int×Int×Int):=
 obind (loopN N (fun(v:Int×Int×Int×Int)=>cnd (decide (v.1<(↑(List.length x.1):Int))) (cnd (decide ((0:Int)≤v.1)&&decide (v.1 <
 (↑(List.length x.1):Int))) (cnd (decide (Prod.fst (List.getD x.1 (Int.toNat v.1) ((0:Int),(0:Int),(0:Int)))=x.2)) (cnd (decide ((0:Int)≤v.1)
 && decide (v.1<(↑(List.length x.1):Int))) (some (Sum.inr (Sum.inr (true,List.getD x.1 (Int.toNat v.1) ((0:Int),(0:Int),(0:Int)))))) none)
 (some (Sum.inl (wr .i64 (v.1+(1:Int)),v.2)))) none) (some (Sum.inr (Sum.inl v.2)))) ((0:Int),(0:Int),(0:Int),(0:Int))) fun(b:Int×Int×Int⊕Bool×Int×Int×Int)=>selim (fun(b:Int×Int×Int)=>some (false,(0:Int),(0:Int),(0:Int))) (fun(c:Bool×Int×Int×Int)=>
 some c) b
theorem q_n:∀N x,u_n.F L0 P0 (orcOf []) N x=V_n N x:=by intros;kernel_rfl
noncomputable def W_n (N:Nat):=V_n N
theorem con_n_ok (N:Nat):(u_n.con (W_n N)).ok P0:=Uf.ok mixed (q_n N) trivial Tryz.func97 (by kernel_rfl) fun x y=>by kernel_rfl
noncomputable def u_W:Uf:=⟨117,22,Tryz.f117,[.val (.list T11_),.val (.int .i64),.val (.int .i64)],[],
⟨[(6,.val .bool)],[]⟩,[],
[],
[],fun y=>(valW .bool y,[],[])⟩
noncomputable def V_W (w_n:List (Int×Int×Int)×Int→Option (Bool×Int×Int×Int)) (N:Nat) (x:List (Int×Int×Int)×Int×Int):Option (Bool):=
 obind (w_n (x.1,x.2.1)) fun b=>cnd b.1 (some (decide (x.2.2<b.2.2.1))) (some false)
theorem q_W:∀w_n N x,u_W.F L0 P0 (orcOf [u_n.con w_n]) N x=V_W w_n N x:=by intros;kernel_rfl
noncomputable def W_W (N:Nat):=V_W (W_n N) N
theorem con_W_ok (N:Nat):(u_W.con (W_W N)).ok P0:=Uf.ok mixed (q_W (W_n N) N) ⟨con_n_ok N,trivial⟩ Tryz.func117 (by kernel_rfl) fun x y=>by kernel_rfl
noncomputable def u_T:Uf:=⟨122,28,Tryz.f122,[.val (.list T11_),.val (.int .i64)],[],
⟨[(4,.acc 700005)],[(700005,.nrow 159 T11_ false true)]⟩,[],
[(3,.loop [] ⟨[(5,.acc 700005),(6,.val (.int .i64))],[(700005,.nrow 159 T11_ false true)]⟩ [(.exit 0,⟨[(5,.acc 700005)],[(700005,.nrow 159 T11_ false true)]⟩)])],
[],fun y=>(.acc 2000000 0,[],[.nrow 159 false true ⟨T11_,y⟩])⟩
noncomputable def V_T (N:Nat) (x:List (Int×Int×Int)×Int):Option (List (Int×Int×Int)):=
 obind (loopN N (fun(v:Int×List (Int×Int×Int))=>cnd (decide (v.1<(↑(List.length x.1):Int))) (cnd (decide ((0:Int)≤v.1)&&decide (v.1
 < (↑(List.length x.1):Int))) (cnd (decide (Prod.fst (List.getD x.1 (Int.toNat v.1) ((0:Int),(0:Int),(0:Int)))≠x.2)) (cnd (decide ((0:Int) ≤
 v.1)&&decide (v.1<(↑(List.length x.1):Int))) (cnd (decide ((List.length v.2+List.length [(List.getD x.1 (Int.toNat v.1) ((0:Int),(0:Int),
 (0:Int)))])*(24:Nat)≤(140737488355328:Nat))) (some (Sum.inl (wr .i64 (v.1+(1:Int)),v.2++[(List.getD x.1 (Int.toNat v.1) ((0:Int),(0:Int),
 (0:Int)))]))) none) none) (some (Sum.inl (wr .i64 (v.1+(1:Int)),v.2)))) none) (some (Sum.inr v.2))) ((0:Int),[])) fun(b:List (Int×Int×Int))=>some b
theorem q_T:∀N x,u_T.F L0 P0 (orcOf []) N x=V_T N x:=by intros;kernel_rfl
noncomputable def W_T (N:Nat):=V_T N
theorem con_T_ok (N:Nat):(u_T.con (W_T N)).ok P0:=Uf.ok mixed (q_T N) trivial Tryz.func122 (by kernel_rfl) fun x y=>by kernel_rfl
noncomputable def u_aj:Uf:=⟨118,49,Tryz.f118,[.val (.list T11_),.val T11_],[],
⟨[(4,.val (.list T11_)),(5,.val .bool)],[]⟩,[],
[(5,.loop [] ⟨[(3,.ptr 600003 0),(6,.acc 700018),(7,.val (.int .i64))],[(600003,.box 159 (.val (.pair (.int .i64) T5_))),(700018,.nrow 159 T11_ true true)]⟩ [(.exit 0,⟨[(3,.ptr 600003 0),(6,.acc 700018)],[(600003,.box 159 (.val (.pair (.int .i64) T5_))),(700018,.nrow 159 T11_ true true)]⟩),(.ret,⟨[(4,.val (.list T11_)),(5,.val .bool)],[]⟩)])],
[],fun y=>(.tup [valW (.list T11_) y.1,valW .bool y.2],[],[])⟩
noncomputable def V_aj (w_W:List (Int×Int×Int)×Int×Int→Option (Bool)) (w_T:List (Int×Int×Int)×Int→Option (List (Int×Int×Int))) (N:Nat) (x:List (Int×Int×Int)×Int×Int×Int):Option (List (Int×Int×Int)×Bool):=
 obind (w_W (x.1,x.2.1,x.2.2.1)) fun b=>cnd b (some (x.1,false)) (obind (w_T (x.1,x.2.1)) fun b=>obind (loopN N (fun(v:
 Int×(Int×Int×Int)×List (Int×Int×Int))=>cnd (decide (v.1<(↑(List.length v.2.2):Int))) (cnd (decide ((0:Int)≤v.1)&&decide (v.1 <
 (↑(List.length v.2.2):Int))) (cnd (decide (v.2.1.1<Prod.fst (List.getD v.2.2 (Int.toNat v.1) ((0:Int),(0:Int),(0:Int))))) (cnd (decide
 (Option.getD none (0:Int)≤v.1)) (cnd (decide ((↑(0:Nat):Int)+v.1≤(↑(List.length v.2.2):Int))) (cnd (decide (List.length (List.drop
 ((0:Nat)+Prod.fst (Prod.snd (cutT (0:Nat) (List.length v.2.2) (List.length v.2.2) none (some v.1)))) (List.take ((0:Nat)+Prod.fst (Prod.snd
 (cutT (0:Nat) (List.length v.2.2) (List.length v.2.2) none (some v.1)))+(Prod.snd (Prod.snd (cutT (0:Nat) (List.length v.2.2) (List.length v.2.2)
 none (some v.1)))-Prod.fst (Prod.snd (cutT (0:Nat) (List.length v.2.2) (List.length v.2.2) none (some v.1))))) v.2.2))*(24:Nat) ≤
 (140737488355328:Nat))) (cnd (decide ((List.length (List.drop ((0:Nat)+Prod.fst (Prod.snd (cutT (0:Nat) (List.length v.2.2) (List.length v.2.2)
 none (some v.1)))) (List.take ((0:Nat)+Prod.fst (Prod.snd (cutT (0:Nat) (List.length v.2.2) (List.length v.2.2) none (some v.1)))+(Prod.snd
 (Prod.snd (cutT (0:Nat) (List.length v.2.2) (List.length v.2.2) none (some v.1)))-Prod.fst (Prod.snd (cutT (0:Nat) (List.length v.2.2)
 (List.length v.2.2) none (some v.1))))) v.2.2))+List.length [v.2.1])*(24:Nat)≤(140737488355328:Nat))) (cnd (decide ((0:Int)≤Option.getD
 (some v.1) (0:Int))) (cnd (decide (Option.getD (some v.1) (0:Int)≤(↑(List.length v.2.2):Int))) (cnd (decide ((List.length (List.drop ((0:Nat) +
 Prod.fst (Prod.snd (cutT (0:Nat) (List.length v.2.2) (List.length v.2.2) none (some v.1)))) (List.take ((0:Nat)+Prod.fst (Prod.snd (cutT (0:Nat)
 (List.length v.2.2) (List.length v.2.2) none (some v.1)))+(Prod.snd (Prod.snd (cutT (0:Nat) (List.length v.2.2) (List.length v.2.2) none (some
 v.1)))-Prod.fst (Prod.snd (cutT (0:Nat) (List.length v.2.2) (List.length v.2.2) none (some v.1))))) v.2.2)++[v.2.1])+List.length (List.drop
 ((0:Nat)+Prod.fst (Prod.snd (cutT (0:Nat) (List.length v.2.2) (List.length v.2.2) (some v.1) none))) (List.take ((0:Nat)+Prod.fst (Prod.snd
 (cutT (0:Nat) (List.length v.2.2) (List.length v.2.2) (some v.1) none))+(Prod.snd (Prod.snd (cutT (0:Nat) (List.length v.2.2) (List.length v.2.2)
 (some v.1) none))-Prod.fst (Prod.snd (cutT (0:Nat) (List.length v.2.2) (List.length v.2.2) (some v.1) none)))) v.2.2)))*(24:Nat) ≤
 (140737488355328:Nat))) (some (Sum.inr (Sum.inr (List.drop ((0:Nat)+Prod.fst (Prod.snd (cutT (0:Nat) (List.length v.2.2) (List.length v.2.2) none
 (some v.1)))) (List.take ((0:Nat)+Prod.fst (Prod.snd (cutT (0:Nat) (List.length v.2.2) (List.length v.2.2) none (some v.1)))+(Prod.snd (Prod.snd
 (cutT (0:Nat) (List.length v.2.2) (List.length v.2.2) none (some v.1)))-Prod.fst (Prod.snd (cutT (0:Nat) (List.length v.2.2) (List.length v.2.2)
 none (some v.1))))) v.2.2)++[v.2.1]++List.drop ((0:Nat)+Prod.fst (Prod.snd (cutT (0:Nat) (List.length v.2.2) (List.length v.2.2) (some v.1)
 none))) (List.take ((0:Nat)+Prod.fst (Prod.snd (cutT (0:Nat) (List.length v.2.2) (List.length v.2.2) (some v.1) none))+(Prod.snd (Prod.snd (cutT
 (0:Nat) (List.length v.2.2) (List.length v.2.2) (some v.1) none))-Prod.fst (Prod.snd (cutT (0:Nat) (List.length v.2.2) (List.length v.2.2) (some
 v.1) none)))) v.2.2),true)))) none) none) none) none) none) none) none) (some (Sum.inl (wr .i64 (v.1+(1:Int)),v.2)))) none) (some (Sum.inr
 (Sum.inl v.2)))) ((0:Int),x.2,b)) fun(b:(Int×Int×Int)×List (Int×Int×Int)⊕List (Int×Int×Int)×Bool)=>selim (fun(b:(Int×Int×Int)×List (Int×Int×Int))=>cnd (decide ((List.length b.2+List.length [b.1])*(24:Nat)≤(140737488355328:Nat))) (some (b.2++[b.1],
 true)) none) (fun(c:List (Int×Int×Int)×Bool)=>some c) b)
theorem q_aj:∀w_W w_T N x,u_aj.F L0 P0 (orcOf [u_W.con w_W,u_T.con w_T]) N x=V_aj w_W w_T N x:=by intros;kernel_rfl
noncomputable def W_aj (N:Nat):=V_aj (W_W N) (W_T N) N
theorem con_aj_ok (N:Nat):(u_aj.con (W_aj N)).ok P0:=Uf.ok mixed (q_aj (W_W N) (W_T N) N) ⟨con_W_ok N,con_T_ok N,trivial⟩ Tryz.func118 (by kernel_rfl) fun x y=>by kernel_rfl
noncomputable def u_K:Uf:=⟨120,17,Tryz.f120,[.val (.list (.int .i64)),.val (.int .i64)],[],
⟨[(4,.val (.list (.int .i64))),(5,.val .bool)],[]⟩,[],
[],
[],fun y=>(.tup [valW (.list (.int .i64)) y.1,valW .bool y.2],[],[])⟩
noncomputable def V_K (w_J:List Int→Option (Bool)) (N:Nat) (x:List Int×Int):Option (List Int×Bool):=
 cnd (decide (List.length x.1*(8:Nat)≤(140737488355328:Nat))) (cnd (decide ((List.length x.1+List.length [x.2])*(8:Nat)≤(140737488355328:Nat))) (obind (w_J (x.1++[x.2])) fun b=>cnd (!b) (some ([],false)) (some (x.1++[x.2],true))) none) none
theorem q_K:∀w_J N x,u_K.F L0 P0 (orcOf [u_J.con w_J]) N x=V_K w_J N x:=by intros;kernel_rfl
noncomputable def W_K (N:Nat):=V_K (W_J N) N
theorem con_K_ok (N:Nat):(u_K.con (W_K N)).ok P0:=Uf.ok mixed (q_K (W_J N) N) ⟨con_J_ok N,trivial⟩ Tryz.func120 (by kernel_rfl) fun x y=>by kernel_rfl
noncomputable def u_aQ:Uf:=⟨131,12,Tryz.f131,[.val (.list (.int .i64))],[],
⟨[(2,.val (.int .i64))],[]⟩,[],
[],
[],fun y=>(valW (.int .i64) y,[],[])⟩
noncomputable def V_aQ (N:Nat) (x:List Int):Option (Int):=
 cnd (decide ((↑(List.length x):Int)<(2:Int))) (some (0:Int)) (cnd (decide ((0:Int)≤wr .i64 ((↑(List.length x):Int)-(2:Int)))&&decide (wr
 .i64 ((↑(List.length x):Int)-(2:Int))<(↑(List.length x):Int))) (some (List.getD x (Int.toNat (wr .i64 ((↑(List.length x):Int)-(2:Int))))
 (0:Int))) none)
theorem q_aQ:∀N x,u_aQ.F L0 P0 (orcOf []) N x=V_aQ N x:=by intros;kernel_rfl
noncomputable def W_aQ (N:Nat):=V_aQ N
theorem con_aQ_ok (N:Nat):(u_aQ.con (W_aQ N)).ok P0:=Uf.ok mixed (q_aQ N) trivial Tryz.func131 (by kernel_rfl) fun x y=>by kernel_rfl
noncomputable def u_N:Uf:=⟨121,9,Tryz.f121,[.val (.list (.int .i64))],[],
⟨[(2,.val (.int .i64))],[]⟩,[],
[],
[],fun y=>(valW (.int .i64) y,[],[])⟩
noncomputable def V_N (w_aQ:List Int→Option (Int)) (N:Nat) (x:List Int):Option (Int):=
 obind (w_aQ x) fun b=>cnd (decide (b=(0:Int))) (some (1:Int)) (some b)
theorem q_N:∀w_aQ N x,u_N.F L0 P0 (orcOf [u_aQ.con w_aQ]) N x=V_N w_aQ N x:=by intros;kernel_rfl
noncomputable def W_N (N:Nat):=V_N (W_aQ N) N
theorem con_N_ok (N:Nat):(u_N.con (W_N N)).ok P0:=Uf.ok mixed (q_N (W_aQ N) N) ⟨con_aQ_ok N,trivial⟩ Tryz.func121 (by kernel_rfl) fun x y=>by kernel_rfl
noncomputable def u_ay:Uf:=⟨119,89,Tryz.f119,[.val (.agg T1_),.val (.agg T_)],[],
⟨[(4,.ptr 600004 0),(5,.acc 700065)],[(600004,.box 46 (.val T1_)),(700065,.nrow 133 (.agg T_) false true)]⟩,[],
[],
[(1000003,.reg [(10,[],⟨[(2,.ptr 600002 0),(3,.ptr 600003 0),(4,.ptr 600004 0),(28,.val .bool)],[(600002,.box 46 (.val T1_)),(600003,.box 133 (.val T_)),(600004,.box 46 (.val T1_))]⟩)]),
(5,.cut [] [(.normal,⟨[(2,.ptr 600002 0),(3,.ptr 600003 0),(4,.ptr 600004 0)],[(600002,.box 46 (.val T1_)),(600003,.box 133 (.val T_)),(600004,.box 46 (.val T1_))]⟩),(.ret,⟨[(4,.ptr 600004 0),(5,.acc 700065)],[(600004,.box 46 (.val T1_)),(700065,.nrow 133 (.agg T_) false true)]⟩)]),
(3,.cut [] [(.normal,⟨[(2,.ptr 600002 0),(3,.ptr 600003 0),(4,.ptr 600004 0)],[(600002,.box 46 (.val T1_)),(600003,.box 133 (.val T_)),(600004,.box 46 (.val T1_))]⟩),(.ret,⟨[(4,.ptr 600004 0),(5,.acc 700065)],[(600004,.box 46 (.val T1_)),(700065,.nrow 133 (.agg T_) false true)]⟩)])],fun y=>(.tup [valW (.agg T1_) y.1,.acc 2000000 0],[],[.nrow 133 false true ⟨(.agg T_),y.2⟩])⟩
noncomputable def V_ay (w_b:A2_×Int×Int→Option A4_) (w_K:List Int×Int→Option (List Int×Bool)) (w_N:List Int→Option (Int)) (N:Nat) (x:A2_×A4_):Option (A2_×List A4_):=
 obind (cnd (decide (x.1.2.2.2.1≠(0:Int))) (cnd (decide (x.2.2.1=x.1.2.2.2.1)) (some (Sum.inr (x.1,[]))) (some (Sum.inl (x.1,x.2,(0:Int),
 (0:Int),(0:Int),(0:Int),(0:Int),(0:Int),[],(0:Int),(0:Int),(0:Int),(0:Int),(0:Int),[])))) (some (Sum.inl (x.1,x.2,(0:Int),(0:Int),
 (0:Int),(0:Int),(0:Int),(0:Int),[],(0:Int),(0:Int),(0:Int),(0:Int),(0:Int),[])))) fun(b:A2_×(M_)×Int×Int×Int×Int×Int×Int×List Int×Int×Int×Int×Int×Int×List (Int×Int×Int)⊕A2_×List (M_))=>selim (fun(b:A2_×A4_×A2_)=>obind (obind (cnd
 (decide (b.1.2.2.2.2.2.2.2.2.2.1=(0:Int))) (some (true,b)) (some (decide (b.1.2.2.2.2.2.2.2.2.2.1≠b.2.1.2.1),b))) fun(b:Bool×A2_×A4_×A2_)=>cnd b.1 (obind (w_b (b.2.1,(6:Int),b.2.2.1.2.1)) fun b_1=>some (Sum.inr (b.2.1,[b_1]))) (cnd (decide (b.2.1.2.2.2.1≠(0:Int))) (obind (w_b (b.2.1,
 (6:Int),b.2.2.1.2.1)) fun b_1=>some (Sum.inr (b.2.1,[b_1]))) (some (Sum.inl b.2)))) fun(b:A2_×(M_)×Int×Int×Int×Int×Int×Int×List Int×Int×Int×Int×Int×Int×List (Int×Int×Int)⊕A2_×List (M_))=>selim (fun(b:A2_×A4_×A2_)=>obind (w_K
 (b.2.1.2.2.2.2.2.2.1,b.1.1)) fun b_1=>cnd (!b_1.2) (obind (w_b ((b.1.1,b.1.2.1,b.1.2.2.1,b.1.2.2.2.1,b.1.2.2.2.2.1,
 b.1.2.2.2.2.2.1,b.1.2.2.2.2.2.2.1,b.1.2.2.2.2.2.2.2.1,b.1.2.2.2.2.2.2.2.2.1,(0:Int),b.1.2.2.2.2.2.2.2.2.2.2.1,wr .i64
 (b.1.2.2.2.2.2.2.2.2.2.2.2.1+(1:Int)),b.1.2.2.2.2.2.2.2.2.2.2.2.2),(6:Int),b.2.1.2.1)) fun b_2=>some ((b.1.1,b.1.2.1,b.1.2.2.1,
 b.1.2.2.2.1,b.1.2.2.2.2.1,b.1.2.2.2.2.2.1,b.1.2.2.2.2.2.2.1,b.1.2.2.2.2.2.2.2.1,b.1.2.2.2.2.2.2.2.2.1,(0:Int),b.1.2.2.2.2.2.2.2.2.2.2.1,wr
 .i64 (b.1.2.2.2.2.2.2.2.2.2.2.2.1+(1:Int)),b.1.2.2.2.2.2.2.2.2.2.2.2.2),[b_2])) (cnd (decide ((20:Int)<b.2.1.2.2.2.2.2.1)) (obind
 (w_b ((b.1.1,b.1.2.1,b.1.2.2.1,b.1.2.2.2.1,b.1.2.2.2.2.1,b.1.2.2.2.2.2.1,b.1.2.2.2.2.2.2.1,b.1.2.2.2.2.2.2.2.1,
 b.1.2.2.2.2.2.2.2.2.1,(0:Int),b.1.2.2.2.2.2.2.2.2.2.2.1,wr .i64 (b.1.2.2.2.2.2.2.2.2.2.2.2.1+(1:Int)),b.1.2.2.2.2.2.2.2.2.2.2.2.2),(6:Int),
 b.2.1.2.1)) fun b_2=>some ((b.1.1,b.1.2.1,b.1.2.2.1,b.1.2.2.2.1,b.1.2.2.2.2.1,b.1.2.2.2.2.2.1,b.1.2.2.2.2.2.2.1,b.1.2.2.2.2.2.2.2.1,
 b.1.2.2.2.2.2.2.2.2.1,(0:Int),b.1.2.2.2.2.2.2.2.2.2.2.1,wr .i64 (b.1.2.2.2.2.2.2.2.2.2.2.2.1+(1:Int)),b.1.2.2.2.2.2.2.2.2.2.2.2.2),[b_2]))
 (obind (w_N b.2.1.2.2.2.2.2.2.1) fun b_2=>some ((b.1.1,b.1.2.1,b.1.2.2.1,b.2.1.2.1,b.2.1.2.2.2.1,b_2,b_1.1,b.2.1.2.2.2.2.1,wr
 .i64 (b.1.2.2.1-b.2.1.2.2.2.2.2.1),(0:Int),b.1.2.2.2.2.2.2.2.2.2.2.1,(0:Int),b.1.2.2.2.2.2.2.2.2.2.2.2.2),[])))) (fun(c:A2_×List A4_)=>some c) b) (fun(c:A2_×List (M_))=>some c) b
theorem q_ay:∀w_b w_K w_N N x,u_ay.F L0 P0 (orcOf [u_b.con w_b,u_K.con w_K,u_N.con w_N]) N x=V_ay w_b w_K w_N N x:=by intros;kernel_rfl
noncomputable def W_ay (N:Nat):=V_ay (W_b N) (W_K N) (W_N N) N
theorem con_ay_ok (N:Nat):(u_ay.con (W_ay N)).ok P0:=Uf.ok mixed (q_ay (W_b N) (W_K N) (W_N N) N) ⟨con_b_ok N,con_K_ok N,con_N_ok N,trivial⟩ Tryz.func119 (by kernel_rfl) fun x y=>by kernel_rfl
noncomputable def u_aI:Uf:=⟨92,246,Tryz.f92,[.val (.agg T1_),.val (.agg T_),.val (.int .i64)],[],
⟨[(6,.ptr 600006 0),(7,.acc 700213)],[(600006,.box 46 (.val T1_)),(700213,.nrow 133 (.agg T_) false true)]⟩,[],
[],
[(1000012,.reg [(10,[],⟨[(3,.ptr 600003 0),(4,.ptr 600004 0),(6,.ptr 600006 0),(87,.val .bool)],[(600003,.box 46 (.val T1_)),(600004,.box 133 (.val T_)),(600006,.box 46 (.val T1_))]⟩)]),
(14,.cut [] [(.normal,⟨[(3,.ptr 600003 0),(4,.ptr 600004 0),(6,.ptr 600006 0)],[(600003,.box 46 (.val T1_)),(600004,.box 133 (.val T_)),(600006,.box 46 (.val T1_))]⟩),(.ret,⟨[(6,.ptr 600006 0),(7,.acc 700213)],[(600006,.box 46 (.val T1_)),(700213,.nrow 133 (.agg T_) false true)]⟩)]),
(12,.cut [] [(.normal,⟨[(3,.ptr 600003 0),(4,.ptr 600004 0),(6,.ptr 600006 0),(11,.val (.int .i64))],[(600003,.box 46 (.val T1_)),(600004,.box 133 (.val T_)),(600006,.box 46 (.val T1_))]⟩)]),
(23,.cut [] [(.normal,⟨[(3,.ptr 600003 0),(6,.ptr 600006 0)],[(600003,.box 46 (.val T1_)),(600006,.box 46 (.val T1_))]⟩)]),
(6,.cut [] [(.normal,⟨[(3,.ptr 600003 0),(4,.ptr 600004 0),(6,.ptr 600006 0),(8,.val .bool)],[(600003,.box 46 (.val T1_)),(600004,.box 133 (.val T_)),(600006,.box 46 (.val T1_))]⟩)]),
(5,.cut [] [(.normal,⟨[(3,.ptr 600003 0),(4,.ptr 600004 0),(6,.ptr 600006 0)],[(600003,.box 46 (.val T1_)),(600004,.box 133 (.val T_)),(600006,.box 46 (.val T1_))]⟩)]),
(3,.cut [] [(.normal,⟨[(3,.ptr 600003 0),(4,.ptr 600004 0),(6,.ptr 600006 0)],[(600003,.box 46 (.val T1_)),(600004,.box 133 (.val T_)),(600006,.box 46 (.val T1_))]⟩),(.ret,⟨[(6,.ptr 600006 0),(7,.acc 700213)],[(600006,.box 46 (.val T1_)),(700213,.nrow 133 (.agg T_) false true)]⟩)])],fun y=>(.tup [valW (.agg T1_) y.1,.acc 2000000 0],[],[.nrow 133 false true ⟨(.agg T_),y.2⟩])⟩
noncomputable def V_aI (w_W:List (Int×Int×Int)×Int×Int→Option (Bool)) (w_R:A2_×Int→Option A2_) (w_n:List (Int×Int×Int)×Int→Option (Bool×Int×Int×Int)) (w_C:A2_→Option (Bool)) (w_c:List Int×Int→Option (Bool)) (w_b:A2_×Int×Int→Option A4_) (w_aj:List (Int×Int×Int)×Int×Int×Int→Option (List (Int×Int×Int)×Bool)) (w_E:A2_×Int×Int→Option A4_) (w_ay:A2_×A4_→Option (A2_×List A4_)) (w_K:List Int×Int→Option (List Int×Bool)) (w_N:List Int→Option (Int)) (w_T:List (Int×Int×Int)×Int→Option (List (Int×Int×Int))) (N:Nat) (x:A2_×A4_×Int):Option (A2_×List A4_):=
 obind (obind (w_W (x.1.2.2.2.2.2.2.2.2.2.2.2.2,x.2.1.2.1,x.2.1.2.2.2.1)) fun b=>cnd b (some (Sum.inr (x.1,[]))) (cnd (decide (x.2.1.2.1
 = x.1.2.2.2.1)) (cnd (decide (x.2.1.2.2.2.1<x.1.2.2.2.2.1)) (some (Sum.inr (x.1,[]))) (some (Sum.inl (x.1,x.2.1,(0:Int),(0:Int),(0:Int),
 (0:Int),(0:Int),(0:Int),[],(0:Int),(0:Int),(0:Int),(0:Int),(0:Int),[])))) (some (Sum.inl (x.1,x.2.1,(0:Int),(0:Int),(0:Int),(0:Int),
 (0:Int),(0:Int),[],(0:Int),(0:Int),(0:Int),(0:Int),(0:Int),[]))))) fun(b:A2_×(M_)×Int×Int×Int×Int×Int×Int×List Int×Int×Int×Int×Int×Int×List (Int×Int×Int)⊕A2_×List (M_))=>selim (fun(b:A2_×A4_×A2_)=>obind (cnd (decide (b.2.1.2.1=
 b.1.2.2.2.1)) (cnd (decide (b.1.2.2.2.2.1<b.2.1.2.2.2.1)) (obind (w_R (b.1,(0:Int))) fun b_1=>some (b_1,b.2)) (some b)) (some b))
 fun(b:A2_×A4_×A2_)=>obind
 (cnd (decide (b.1.2.2.2.1≠(0:Int))) (some (decide (b.2.1.2.1=b.1.2.2.2.1),b)) (some (false,b))) fun(b:Bool×A2_×(M_)×A2_)=>cnd (decide (b.2.2.1.1=(1:Int))) (obind
 (w_n (b.2.1.2.2.2.2.2.2.2.2.2.2.2.2,b.2.2.1.2.1)) fun b_1=>obind (cnd (decide (b.2.1.1=(1:Int))) (some ((8:Int),b.2)) (some
 ((3:Int),b.2))) fun(b:Int×A2_×A4_×A2_)=>obind (obind (obind (w_C b.2.1) fun b_2=>cnd (!b_2) (some (true,b.2)) (obind (w_c (b.2.1.2.2.2.2.2.2.1,
 b.2.2.1.2.1)) fun b_3=>some (b_3,b.2))) fun(b_2:Bool×A2_×(M_)×A2_)=>cnd b_2.1 (obind (w_b (b_2.2.1,(3:Int),b_2.2.2.1.2.1)) fun b=>some (Sum.inr (b_2.2.1,
 [b]))) (cnd (!b_1.1) (cnd (decide (b.1≤(↑(List.length b_2.2.1.2.2.2.2.2.2.2.2.2.2.2.2):Int))) (obind (w_b (b_2.2.1,(3:Int),
 b_2.2.2.1.2.1)) fun b=>some (Sum.inr (b_2.2.1,[b]))) (some (Sum.inl b_2.2))) (some (Sum.inl b_2.2)))) fun(b:A2_×(M_)×Int×Int×Int×Int×Int×Int×List Int×Int×Int×Int×Int×Int×List (Int×Int×Int)⊕A2_×List (M_))=>selim (fun(b:
 A2_×A4_×A2_)=>obind
 (w_aj (b.1.2.2.2.2.2.2.2.2.2.2.2.2,b.2.1.2.1,b.2.1.2.2.2.1,b.1.2.2.1)) fun b_2=>obind (w_E ((b.1.1,b.1.2.1,b.1.2.2.1,
 b.1.2.2.2.1,b.1.2.2.2.2.1,b.1.2.2.2.2.2.1,b.1.2.2.2.2.2.2.1,b.1.2.2.2.2.2.2.2.1,b.1.2.2.2.2.2.2.2.2.1,b.1.2.2.2.2.2.2.2.2.2.1,
 b.1.2.2.2.2.2.2.2.2.2.2.1,b.1.2.2.2.2.2.2.2.2.2.2.2.1,b_2.1),(2:Int),b.2.1.2.1)) fun b_3=>some ((b.1.1,b.1.2.1,b.1.2.2.1,b.1.2.2.2.1,
 b.1.2.2.2.2.1,b.1.2.2.2.2.2.1,b.1.2.2.2.2.2.2.1,b.1.2.2.2.2.2.2.2.1,b.1.2.2.2.2.2.2.2.2.1,b.1.2.2.2.2.2.2.2.2.2.1,b.1.2.2.2.2.2.2.2.2.2.2.1,
 b.1.2.2.2.2.2.2.2.2.2.2.2.1,b_2.1),[(b_3.1,b_3.2.1,b_3.2.2.1,b_3.2.2.2.1,b_3.2.2.2.2.1,b_3.2.2.2.2.2.1,b_3.2.2.2.2.2.2.1,x.2.2,
 b_3.2.2.2.2.2.2.2.2)])) (fun(c:A2_×List A4_)=>some c) b) (cnd (decide (b.2.2.1.1=(2:Int))) (obind (w_ay
 (b.2.1,b.2.2.1)) fun b=>some b) (cnd (decide (b.2.2.1.1=(3:Int))) (obind (cnd (decide (b.2.1.2.2.2.2.2.2.2.2.2.1≠(0:Int))) (cnd (decide
 (b.2.1.2.2.2.2.2.2.2.2.2.1=b.2.2.1.2.1)) (some ((b.2.1.1,b.2.1.2.1,b.2.1.2.2.1,b.2.1.2.2.2.1,b.2.1.2.2.2.2.1,b.2.1.2.2.2.2.2.1,
 b.2.1.2.2.2.2.2.2.1,b.2.1.2.2.2.2.2.2.2.1,b.2.1.2.2.2.2.2.2.2.2.1,(0:Int),b.2.1.2.2.2.2.2.2.2.2.2.2.1,wr .i64 (b.2.1.2.2.2.2.2.2.2.2.2.2.2.1 +
 (1:Int)),b.2.1.2.2.2.2.2.2.2.2.2.2.2.2),b.2.2.2)) (some (b.2.1,b.2.2.2))) (some (b.2.1,b.2.2.2))) fun(b_1:A2_×A2_)=>cnd b.1 (obind (w_R (b_1.1,(0:Int))) fun b=>some (b,[])) (some (b_1.1,[]))) (cnd (decide (b.2.2.1.1=
 (4:Int))) (obind (w_n (b.2.1.2.2.2.2.2.2.2.2.2.2.2.2,b.2.2.1.2.1)) fun b_1=>cnd (!b_1.1) (obind (w_b (b.2.1,(3:Int),
 b.2.2.1.2.1)) fun b_2=>some (b.2.1,[b_2])) (obind (w_aj (b.2.1.2.2.2.2.2.2.2.2.2.2.2.2,b.2.2.1.2.1,b.2.2.1.2.2.2.1,b.2.1.2.2.1)) fun
 b_2=>some ((b.2.1.1,b.2.1.2.1,b.2.1.2.2.1,b.2.1.2.2.2.1,b.2.1.2.2.2.2.1,b.2.1.2.2.2.2.2.1,b.2.1.2.2.2.2.2.2.1,b.2.1.2.2.2.2.2.2.2.1,
 b.2.1.2.2.2.2.2.2.2.2.1,b.2.1.2.2.2.2.2.2.2.2.2.1,b.2.1.2.2.2.2.2.2.2.2.2.2.1,b.2.1.2.2.2.2.2.2.2.2.2.2.2.1,b_2.1),[]))) (cnd (decide
 (b.2.2.1.1=(5:Int))) (cnd (!b.1) (obind (w_b (b.2.1,(6:Int),b.2.2.1.2.1)) fun b_1=>some (b.2.1,[b_1])) (obind (w_K
 (b.2.2.1.2.2.2.2.2.2.1,b.2.1.1)) fun b_1=>cnd (!b_1.2) (obind (w_R (b.2.1,(1:Int))) fun b_2=>obind (w_b (b.2.1,(6:Int),
 b.2.2.1.2.1)) fun b=>some (b_2,[b])) (obind (w_N b.2.2.1.2.2.2.2.2.2.1) fun b_2=>cnd (decide (b.2.1.2.2.2.2.2.2.2.2.1<wr .i64
 (b.2.1.2.2.1-b.2.2.1.2.2.2.2.2.1))) (some ((b.2.1.1,b.2.1.2.1,b.2.1.2.2.1,b.2.1.2.2.2.1,b.2.1.2.2.2.2.1,b_2,b_1.1,b.2.2.1.2.2.2.2.1,wr
 .i64 (b.2.1.2.2.1-b.2.2.1.2.2.2.2.2.1),b.2.1.2.2.2.2.2.2.2.2.2),[])) (some ((b.2.1.1,b.2.1.2.1,b.2.1.2.2.1,b.2.1.2.2.2.1,b.2.1.2.2.2.2.1,
 b_2,b_1.1,b.2.1.2.2.2.2.2.2.2),[]))))) (cnd (decide (b.2.2.1.1=(6:Int))) (obind (w_T (b.2.1.2.2.2.2.2.2.2.2.2.2.2.2,b.2.2.1.2.1))
 fun b_1=>some ((b.2.1.1,b.2.1.2.1,b.2.1.2.2.1,b.2.1.2.2.2.1,b.2.1.2.2.2.2.1,b.2.1.2.2.2.2.2.1,b.2.1.2.2.2.2.2.2.1,b.2.1.2.2.2.2.2.2.2.1,
 b.2.1.2.2.2.2.2.2.2.2.1,b.2.1.2.2.2.2.2.2.2.2.2.1,b.2.1.2.2.2.2.2.2.2.2.2.2.1,b.2.1.2.2.2.2.2.2.2.2.2.2.2.1,b_1),[])) (some (b.2.1,[]))))))))
 (fun(c:A2_×List A4_)=>some c) b
theorem q_aI:∀w_W w_R w_n w_C w_c w_b w_aj w_E w_ay w_K w_N w_T N x,u_aI.F L0 P0 (orcOf [u_W.con w_W,u_R.con w_R,u_n.con w_n,u_C.con w_C,u_c.con w_c,u_b.con w_b,u_aj.con w_aj,u_E.con w_E,u_ay.con w_ay,u_K.con w_K,u_N.con w_N,u_T.con w_T]) N x=V_aI w_W w_R w_n w_C w_c w_b w_aj w_E w_ay w_K w_N w_T N x:=by intros;kernel_rfl
noncomputable def W_aI (N:Nat):=V_aI (W_W N) (W_R N) (W_n N) (W_C N) (W_c N) (W_b N) (W_aj N) (W_E N) (W_ay N) (W_K N) (W_N N) (W_T N) N
theorem con_aI_ok (N:Nat):(u_aI.con (W_aI N)).ok P0:=Uf.ok mixed (q_aI (W_W N) (W_R N) (W_n N) (W_C N) (W_c N) (W_b N) (W_aj N) (W_E N) (W_ay N) (W_K N) (W_N N) (W_T N) N) ⟨con_W_ok N,con_R_ok N,con_n_ok N,con_C_ok N,con_c_ok N,con_b_ok N,con_aj_ok N,con_E_ok N,con_ay_ok N,con_K_ok N,con_N_ok N,con_T_ok N,trivial⟩ Tryz.func92 (by kernel_rfl) fun x y=>by kernel_rfl
noncomputable def u_h:Uf:=⟨93,18,Tryz.f93,[.val (.agg T3_),.val (.int .i64)],[],
⟨[(4,.ptr 600004 0)],[(600004,.box 42 (.val T3_))]⟩,[],
[],
[],fun y=>(valW (.agg T3_) y,[],[])⟩
noncomputable def V_h (N:Nat) (x:A3_×Int):Option A3_:=
 cnd (decide ((0:Int)<x.1.1)) (cnd (decide (x.2≤(1000000:Int))) (some (x.1.1,max x.1.2.1 x.2,x.1.2.2)) (some x.1)) (some x.1)
theorem q_h:∀N x,u_h.F L0 P0 (orcOf []) N x=V_h N x:=by intros;kernel_rfl
noncomputable def W_h (N:Nat):=V_h N
theorem con_h_ok (N:Nat):(u_h.con (W_h N)).ok P0:=Uf.ok mixed (q_h N) trivial Tryz.func93 (by kernel_rfl) fun x y=>by kernel_rfl
noncomputable def u_aG:Uf:=⟨94,21,Tryz.f94,[.val (.agg T3_),.val (.int .i64)],[],
⟨[(4,.ptr 600004 0)],[(600004,.box 42 (.val T3_))]⟩,[],
[],
[],fun y=>(valW (.agg T3_) y,[],[])⟩
noncomputable def V_aG (w_h:A3_×Int→Option A3_) (N:Nat) (x:A3_×Int):Option A3_:=
 cnd (decide ((0:Int)<x.1.1)) (obind (w_h (x.1,wr .i64 (x.2-(1:Int)))) fun b=>some b) (cnd (decide ((1:Int)≤x.2)) (cnd (decide (x.2≤(1000000:Int))) (some (x.2,x.1.2)) (some x.1)) (some x.1))
theorem q_aG:∀w_h N x,u_aG.F L0 P0 (orcOf [u_h.con w_h]) N x=V_aG w_h N x:=by intros;kernel_rfl
noncomputable def W_aG (N:Nat):=V_aG (W_h N) N
theorem con_aG_ok (N:Nat):(u_aG.con (W_aG N)).ok P0:=Uf.ok mixed (q_aG (W_h N) N) ⟨con_h_ok N,trivial⟩ Tryz.func94 (by kernel_rfl) fun x y=>by kernel_rfl
noncomputable def u_U:Uf:=⟨132,25,Tryz.f132,[.val (.list T9_),.val (.int .i64)],[],
⟨[(4,.val .str),(5,.val .bool)],[]⟩,[],
[(2,.loop [] ⟨[(6,.val (.int .i64))],[]⟩ [(.exit 0,⟨[],[]⟩),(.ret,⟨[(4,.val .str),(5,.val .bool)],[]⟩)])],
[],fun y=>(.tup [valW .str y.1,valW .bool y.2],[],[])⟩
noncomputable def V_U (N:Nat) (x:List (Int×List UInt8)×Int):Option (List UInt8×Bool):=
 obind (loopN N (fun(v:Int)=>cnd (decide (v<(↑(List.length x.1):Int))) (cnd (decide ((0:Int)≤v)&&decide (v<(↑(List.length x.1):Int)))
 (cnd (decide (Prod.fst (List.getD x.1 (Int.toNat v) ((0:Int),[]))=x.2)) (cnd (decide ((0:Int)≤v)&&decide (v<(↑(List.length x.1):Int)))
 (some (Sum.inr (Sum.inr (Prod.snd (List.getD x.1 (Int.toNat v) ((0:Int),[])),true)))) none) (some (Sum.inl (wr .i64 (v+(1:Int)))))) none) (some
 (Sum.inr (Sum.inl ())))) (Int.ofNat (0:Nat))) fun(b:PUnit⊕List UInt8×Bool)=>selim (fun(b:PUnit)=>some ([],false)) (fun(c:List UInt8×Bool)=>some c) b
theorem q_U:∀N x,u_U.F L0 P0 (orcOf []) N x=V_U N x:=by intros;kernel_rfl
noncomputable def W_U (N:Nat):=V_U N
theorem con_U_ok (N:Nat):(u_U.con (W_U N)).ok P0:=Uf.ok mixed (q_U N) trivial Tryz.func132 (by kernel_rfl) fun x y=>by kernel_rfl
noncomputable def u_ak:Uf:=⟨123,71,Tryz.f123,[.val (.list T9_),.val (.int .i64),.val T9_],[],
⟨[(6,.val (.list T9_)),(7,.val .bool)],[]⟩,[],
[(7,.loop [] ⟨[(5,.ptr 600005 0),(10,.acc 700010),(11,.val .bool),(12,.val (.int .i64))],[(600005,.box 157 (.val (.pair (.int .i64) .str))),(700010,.nrow 157 T9_ true true)]⟩ [(.exit 0,⟨[(5,.ptr 600005 0),(10,.acc 700010),(11,.val .bool)],[(600005,.box 157 (.val (.pair (.int .i64) .str))),(700010,.nrow 157 T9_ true true)]⟩)])],
[(11,.cut [] [(.normal,⟨[(5,.ptr 600005 0),(10,.acc 700010),(11,.val .bool)],[(600005,.box 157 (.val (.pair (.int .i64) .str))),(700010,.nrow 157 T9_ true true)]⟩)])],fun y=>(.tup [valW (.list T9_) y.1,valW .bool y.2],[],[])⟩
noncomputable def V_ak (w_U:List (Int×List UInt8)×Int→Option (List UInt8×Bool)) (N:Nat) (x:List (Int×List UInt8)×Int×Int×List UInt8):Option (List (Int×List UInt8)×Bool):=
 obind (w_U (x.1,x.2.2.1)) fun b=>cnd (decide (x.2.2.1<x.2.1)) (some (x.1,false)) (cnd (decide ((8:Int)≤wr .i64 (x.2.2.1-x.2.1)))
 (some (x.1,false)) (cnd b.2 (some (x.1,false)) (obind (loopN N (fun(v:Bool×Int×(Int×List UInt8)×List (Int×List UInt8))=>cnd (decide
 (v.2.1<(↑(List.length x.1):Int))) (obind (cnd (!v.1) (cnd (decide ((0:Int)≤v.2.1)&&decide (v.2.1<(↑(List.length x.1):Int))) (cnd (decide
 (v.2.2.1.1<Prod.fst (List.getD x.1 (Int.toNat v.2.1) ((0:Int),[])))) (cnd (decide ((List.length v.2.2.2+List.length [v.2.2.1])*(24:Nat) ≤
 (140737488355328:Nat))) (some (true,v.2.2.1,v.2.2.2++[v.2.2.1])) none) (some (v.1,v.2.2))) none) (some (v.1,v.2.2))) fun(b:Bool×(Int×List UInt8)×List (Int×List UInt8))=>cnd (decide ((0:Int)≤v.2.1)&&decide (v.2.1<(↑(List.length x.1):Int))) (cnd (decide ((List.length
 b.2.2+(1:Nat))*(24:Nat)≤(140737488355328:Nat))) (some (Sum.inl (b.1,wr .i64 (v.2.1+(1:Int)),b.2.1,b.2.2++[(List.getD x.1 (Int.toNat
 v.2.1) ((0:Int),[]))]))) none) none) (some (Sum.inr (v.1,v.2.2)))) (false,(0:Int),x.2.2,[])) fun(b:Bool×(Int×List UInt8)×List (Int×List UInt8))=>cnd (!b.1) (cnd (decide ((List.length b.2.2+List.length [b.2.1])*(24:Nat)≤(140737488355328:Nat))) (some (b.2.2++[b.2.1],
 true)) none) (some (b.2.2,true)))))
theorem q_ak:∀w_U N x,u_ak.F L0 P0 (orcOf [u_U.con w_U]) N x=V_ak w_U N x:=by intros;kernel_rfl
noncomputable def W_ak (N:Nat):=V_ak (W_U N) N
theorem con_ak_ok (N:Nat):(u_ak.con (W_ak N)).ok P0:=Uf.ok mixed (q_ak (W_U N) N) ⟨con_U_ok N,trivial⟩ Tryz.func123 (by kernel_rfl) fun x y=>by kernel_rfl
noncomputable def u_aL:Uf:=⟨95,45,Tryz.f95,[.val (.agg T3_),.val T9_],[],
⟨[(4,.ptr 600004 0)],[(600004,.box 42 (.val T3_))]⟩,[],
[],
[(1000001,.reg [(8,[],⟨[(2,.ptr 600002 0),(3,.ptr 600003 0),(4,.ptr 600004 0),(12,.val .bool)],[(600002,.box 42 (.val T3_)),(600003,.box 157 (.val (.pair (.int .i64) .str))),(600004,.box 42 (.val T3_))]⟩),(5,[],⟨[(2,.ptr 600002 0),(3,.ptr 600003 0),(4,.ptr 600004 0),(17,.val .bool)],[(600002,.box 42 (.val T3_)),(600003,.box 157 (.val (.pair (.int .i64) .str))),(600004,.box 42 (.val T3_))]⟩)])],fun y=>(valW (.agg T3_) y,[],[])⟩
noncomputable def V_aL (w_h:A3_×Int→Option A3_) (w_ak:List (Int×List UInt8)×Int×Int×List UInt8→Option (List (Int×List UInt8)×Bool)) (w_e:A3_→Option (List (Int×List UInt8)×A3_)) (N:Nat) (x:A3_×Int×List UInt8):Option A3_:=
 obind (cnd (decide (x.1.1=(0:Int))) (some (true,x.1,x.2,(0:Int),(0:Int),[],[],[],(0:Int),(0:Int))) (some (decide (x.2.1<(1:Int)),x.1,
 x.2,(0:Int),(0:Int),[],[],[],(0:Int),(0:Int)))) fun(b:Bool×A3_×(Int×List UInt8)×A3_)=>obind (cnd b.1 (some (true,b.2)) (some (decide ((1000000:Int)<b.2.2.1.1),b.2))) fun(b:Bool×A3_×(Int×List UInt8)×A3_)=>cnd b.1 (some b.2.1) (cnd (decide
 ((12:Int)<(↑(List.length b.2.2.1.2):Int))) (some b.2.1) (obind (w_h (b.2.1,b.2.2.1.1)) fun b_1=>obind (w_ak
 (b_1.2.2.2.1,b_1.1,b.2.2.1)) fun b=>obind (w_e (b_1.1,b_1.2.1,b_1.2.2.1,b.1,b_1.2.2.2.2)) fun b=>some b.2))
theorem q_aL:∀w_h w_ak w_e N x,u_aL.F L0 P0 (orcOf [u_h.con w_h,u_ak.con w_ak,u_e.con w_e]) N x=V_aL w_h w_ak w_e N x:=by intros;kernel_rfl
noncomputable def W_aL (N:Nat):=V_aL (W_h N) (W_ak N) (W_e N) N
theorem con_aL_ok (N:Nat):(u_aL.con (W_aL N)).ok P0:=Uf.ok mixed (q_aL (W_h N) (W_ak N) (W_e N) N) ⟨con_h_ok N,con_ak_ok N,con_e_ok N,trivial⟩ Tryz.func95 (by kernel_rfl) fun x y=>by kernel_rfl
noncomputable def u_aM:Uf:=⟨96,44,Tryz.f96,[.val (.agg T3_),.val (.int .i64),.val (.int .i64)],[],
⟨[(6,.ptr 600006 0)],[(600006,.box 42 (.val T3_))]⟩,[],
[],
[],fun y=>(valW (.agg T3_) y,[],[])⟩
noncomputable def V_aM (w_j:Int×Int→Option (Bool)) (w_h:A3_×Int→Option A3_) (w_L:A3_×Int×Int→Option (List (Int×Int)×A3_)) (w_e:A3_→Option (List (Int×List UInt8)×A3_)) (N:Nat) (x:A3_×Int×Int):Option A3_:=
 cnd (decide (x.1.1=(0:Int))) (some x.1) (obind (w_j x.2) fun b=>cnd (!b) (some x.1) (obind (w_h (x.1,x.2.2)) fun b=>
 cnd (decide (b.1<x.2.1)) (some b) (cnd (decide (x.2.2<b.1)) (some b) (obind (w_L (b,x.2.2,(1:Int))) fun b=>obind (w_e
 b.2) fun b=>some b.2))))
theorem q_aM:∀w_j w_h w_L w_e N x,u_aM.F L0 P0 (orcOf [u_j.con w_j,u_h.con w_h,u_L.con w_L,u_e.con w_e]) N x=V_aM w_j w_h w_L w_e N x:=by intros;kernel_rfl
noncomputable def W_aM (N:Nat):=V_aM (W_j N) (W_h N) (W_L N) (W_e N) N
theorem con_aM_ok (N:Nat):(u_aM.con (W_aM N)).ok P0:=Uf.ok mixed (q_aM (W_j N) (W_h N) (W_L N) (W_e N) N) ⟨con_j_ok N,con_h_ok N,con_L_ok N,con_e_ok N,trivial⟩ Tryz.func96 (by kernel_rfl) fun x y=>by kernel_rfl
noncomputable def u_I:Uf:=⟨53,77,Tryz.f53,[.val (.list (.agg T5_)),.val (.agg T5_)],[],
⟨[(4,.val (.list (.agg T5_)))],[]⟩,[],
[(5,.loop [] ⟨[(3,.ptr 600003 0),(5,.acc 700005),(6,.acc 700006),(7,.val (.int .i64))],[(600003,.box 76 (.val T5_)),(700005,.nrow 76 (.agg T5_) true true),(700006,.nrow 76 (.agg T5_) true true)]⟩ [(.exit 0,⟨[(3,.ptr 600003 0),(5,.acc 700005),(6,.val (.list (.agg T5_)))],[(600003,.box 76 (.val T5_)),(700005,.nrow 76 (.agg T5_) true true)]⟩)])],
[],fun y=>(valW (.list (.agg T5_)) y,[],[])⟩
noncomputable def V_I (w_j:Int×Int→Option (Bool)) (N:Nat) (x:List (Int×Int)×Int×Int):Option (List (Int×Int)):=
 obind (w_j x.2) fun b=>cnd (!b) (cnd (decide (List.length x.1*(16:Nat)≤(140737488355328:Nat))) (some x.1) none) (obind (loopN N
 (fun(v:Int×(Int×Int)×List (Int×Int)×List (Int×Int))=>cnd (decide (v.1<(↑(List.length x.1):Int))) (cnd (decide ((0:Int)≤v.1)
 && decide (v.1<(↑(List.length x.1):Int))) (cnd (decide (wr .i64 (Prod.snd (List.getD x.1 (Int.toNat v.1) ((0:Int),(0:Int)))+(1:Int)) <
 v.2.1.1)) (cnd (decide ((0:Int)≤v.1)&&decide (v.1<(↑(List.length x.1):Int))) (cnd (decide ((List.length v.2.2.1+List.length [(List.getD
 x.1 (Int.toNat v.1) ((0:Int),(0:Int)))])*(16:Nat)≤(140737488355328:Nat))) (some (Sum.inl (wr .i64 (v.1+(1:Int)),v.2.1,v.2.2.1++
 [(List.getD x.1 (Int.toNat v.1) ((0:Int),(0:Int)))],v.2.2.2))) none) none) (cnd (decide ((0:Int)≤v.1)&&decide (v.1<(↑(List.length x.1):
 Int))) (cnd (decide (wr .i64 (v.2.1.2+(1:Int))<Prod.fst (List.getD x.1 (Int.toNat v.1) ((0:Int),(0:Int))))) (cnd (decide ((0:Int)≤v.1) &&
 decide (v.1<(↑(List.length x.1):Int))) (cnd (decide ((List.length v.2.2.2+List.length [(List.getD x.1 (Int.toNat v.1) ((0:Int),(0:Int)))]) *
 (16:Nat)≤(140737488355328:Nat))) (some (Sum.inl (wr .i64 (v.1+(1:Int)),v.2.1,v.2.2.1,v.2.2.2++[(List.getD x.1 (Int.toNat v.1) ((0:Int),
 (0:Int)))]))) none) none) (cnd (decide ((0:Int)≤v.1)&&decide (v.1<(↑(List.length x.1):Int))) (cnd (decide ((0:Int)≤v.1)&&decide (v.1 <
 (↑(List.length x.1):Int))) (some (Sum.inl (wr .i64 (v.1+(1:Int)),(min v.2.1.1 (Prod.fst (List.getD x.1 (Int.toNat v.1) ((0:Int),(0:Int)))),
 max v.2.1.2 (Prod.snd (List.getD x.1 (Int.toNat v.1) ((0:Int),(0:Int))))),v.2.2))) none) none)) none)) none) (some (Sum.inr (v.2.2.2,v.2.1,
 v.2.2.1)))) ((0:Int),x.2,[],[])) fun(b:List (Int×Int)×(Int×Int)×List (Int×Int))=>cnd (decide ((List.length b.2.2+List.length
 [b.2.1])*(16:Nat)≤(140737488355328:Nat))) (cnd (decide ((List.length (b.2.2++[b.2.1])+List.length b.1)*(16:Nat)≤(140737488355328:Nat)))
 (some (b.2.2++[b.2.1]++b.1)) none) none)
theorem q_I:∀w_j N x,u_I.F L0 P0 (orcOf [u_j.con w_j]) N x=V_I w_j N x:=by intros;kernel_rfl
noncomputable def W_I (N:Nat):=V_I (W_j N) N
theorem con_I_ok (N:Nat):(u_I.con (W_I N)).ok P0:=Uf.ok mixed (q_I (W_j N) N) ⟨con_j_ok N,trivial⟩ Tryz.func53 (by kernel_rfl) fun x y=>by kernel_rfl
noncomputable def u_9:Uf:=⟨124,56,Tryz.f124,[.val (.agg T3_),.val (.int .i64),.val (.int .i64)],[],
⟨[(6,.val (.list T9_)),(7,.val (.list (.agg T5_)))],[]⟩,[],
[(4,.loop [] ⟨[(3,.ptr 600003 0),(8,.acc 700008),(9,.val (.list (.agg T5_))),(10,.val (.int .i64))],[(600003,.box 42 (.val T3_)),(700008,.nrow 157 T9_ true true)]⟩ [(.exit 0,⟨[(8,.val (.list T9_)),(9,.val (.list (.agg T5_)))],[]⟩)])],
[(1000007,.reg [(8,[9],⟨[(3,.ptr 600003 0),(8,.acc 700008),(28,.val .bool)],[(600003,.box 42 (.val T3_)),(700008,.nrow 157 T9_ true true)]⟩)])],fun y=>(.tup [valW (.list T9_) y.1,valW (.list (.agg T5_)) y.2],[],[])⟩
noncomputable def V_9 (w_U:List (Int×List UInt8)×Int→Option (List UInt8×Bool)) (w_I:List (Int×Int)×Int×Int→Option (List (Int×Int))) (N:Nat) (x:A3_×Int×Int):Option (List (Int×List UInt8)×List (Int×Int)):=
 obind (loopN N (fun(v:List (Int×Int)×Int×A3_×List (Int×List UInt8))=>cnd (decide (v.2.1<(8:Int))) (obind (cnd (decide (v.2.2.1.1=(0:Int))) (some (true,v.2.2))
 (some (decide (x.2.2<wr .i64 (x.2.1+v.2.1)),v.2.2))) fun(b:Bool×A3_×List (Int×List UInt8))=>cnd b.1 (some (Sum.inr (b.2.2,v.1))) (cnd (decide (b.2.1.1≤wr .i64
 (x.2.1+v.2.1))) (some (Sum.inr (b.2.2,v.1))) (obind (w_U (b.2.1.2.2.1,wr .i64 (x.2.1+v.2.1))) fun b_1=>cnd b_1.2 (cnd (decide
 ((List.length b.2.2+List.length [(wr .i64 (x.2.1+v.2.1),b_1.1)])*(24:Nat)≤(140737488355328:Nat))) (some (Sum.inl (v.1,wr .i64 (v.2.1 +
 (1:Int)),b.2.1,b.2.2++[(wr .i64 (x.2.1+v.2.1),b_1.1)]))) none) (obind (w_I (v.1,wr .i64 (x.2.1+v.2.1),wr .i64 (x.2.1 +
 v.2.1))) fun b_2=>some (Sum.inl (b_2,wr .i64 (v.2.1+(1:Int)),b.2)))))) (some (Sum.inr (v.2.2.2,v.1)))) ([],(0:Int),x.1,[])) fun(b:List (Int×List UInt8)×List (Int×Int))=>some b
theorem q_9:∀w_U w_I N x,u_9.F L0 P0 (orcOf [u_U.con w_U,u_I.con w_I]) N x=V_9 w_U w_I N x:=by intros;kernel_rfl
noncomputable def W_9 (N:Nat):=V_9 (W_U N) (W_I N) N
theorem con_9_ok (N:Nat):(u_9.con (W_9 N)).ok P0:=Uf.ok mixed (q_9 (W_U N) (W_I N) N) ⟨con_U_ok N,con_I_ok N,trivial⟩ Tryz.func124 (by kernel_rfl) fun x y=>by kernel_rfl
noncomputable def u_aD:Uf:=⟨98,76,Tryz.f98,[.val (.agg T1_),.val (.agg T3_),.val (.agg T_)],[],
⟨[(6,.val (.list (.agg T_)))],[]⟩,[],
[(4,.loop [8,9] ⟨[(3,.ptr 600003 0),(5,.ptr 600005 0),(7,.acc 700007),(10,.val (.int .i64))],[(600003,.box 46 (.val T1_)),(600005,.box 133 (.val T_)),(700007,.nrow 133 (.agg T_) true true)]⟩ [(.exit 0,⟨[(3,.ptr 600003 0),(5,.ptr 600005 0),(7,.acc 700007)],[(600003,.box 46 (.val T1_)),(600005,.box 133 (.val T_)),(700007,.nrow 133 (.agg T_) true true)]⟩)]),
(10,.loop [9] ⟨[(3,.ptr 600003 0),(5,.ptr 600005 0),(7,.acc 700007),(12,.val (.int .i64))],[(600003,.box 46 (.val T1_)),(600005,.box 133 (.val T_)),(700007,.nrow 133 (.agg T_) true true)]⟩ [(.exit 2,⟨[(7,.val (.list (.agg T_)))],[]⟩)])],
[],fun y=>(valW (.list (.agg T_)) y,[],[])⟩
noncomputable def V_aD (w_9:A3_×Int×Int→Option (List (Int×List UInt8)×List (Int×Int))) (w_b:A2_×Int×Int→Option A4_) (N:Nat) (x:A2_×A3_×A4_):Option (List A4_):=
 obind (w_9 (x.2.1,x.2.2.2.2.2.2.2.2.2.1,x.2.2.2.2.2.2.2.2.2.2.1)) fun b=>obind (loopN N (fun(v:Int×A2_×(M_)×List (M_))=>cnd (decide (v.1<(↑(List.length b.1):Int))) (obind
 (w_b (v.2.1,(7:Int),v.2.2.1.2.1)) fun b_1=>cnd (decide ((0:Int)≤v.1)&&decide (v.1<(↑(List.length b.1):Int))) (cnd (decide
 ((0:Int)≤v.1)&&decide (v.1<(↑(List.length b.1):Int))) (cnd (decide ((List.length v.2.2.2+(1:Nat))*(104:Nat)≤(140737488355328:Nat)))
 (some (Sum.inl (wr .i64 (v.1+(1:Int)),v.2.1,v.2.2.1,v.2.2.2++[(b_1.1,b_1.2.1,b_1.2.2.1,b_1.2.2.2.1,b_1.2.2.2.2.1,b_1.2.2.2.2.2.1,
 b_1.2.2.2.2.2.2.1,Prod.fst (List.getD b.1 (Int.toNat v.1) ((0:Int),[])),b_1.2.2.2.2.2.2.2.2.1,Prod.snd (List.getD b.1 (Int.toNat v.1) ((0:Int),
 [])))]))) none) none) none) (some (Sum.inr v.2))) ((0:Int),x.1,x.2.2,[])) fun(b_1:A2_×(M_)×List A4_)=>obind (loopN N (fun(v:Int×A2_×(M_)×List A4_)=>cnd (decide (v.1<(↑(List.length b.2):Int))) (obind (w_b (v.2.1,(9:Int),v.2.2.1.2.1))
 fun b_2=>cnd (decide ((0:Int)≤v.1)&&decide (v.1<(↑(List.length b.2):Int))) (cnd (decide ((0:Int)≤v.1)&&decide (v.1<(↑(List.length
 b.2):Int))) (cnd (decide ((List.length v.2.2.2+List.length [(b_2.1,b_2.2.1,b_2.2.2.1,b_2.2.2.2.1,b_2.2.2.2.2.1,b_2.2.2.2.2.2.1,
 b_2.2.2.2.2.2.2.1,Prod.fst (List.getD b.2 (Int.toNat v.1) ((0:Int),(0:Int))),Prod.snd (List.getD b.2 (Int.toNat v.1) ((0:Int),(0:Int))),
 b_2.2.2.2.2.2.2.2.2.2)])*(104:Nat)≤(140737488355328:Nat))) (some (Sum.inl (wr .i64 (v.1+(1:Int)),v.2.1,v.2.2.1,v.2.2.2++[(b_2.1,b_2.2.1,
 b_2.2.2.1,b_2.2.2.2.1,b_2.2.2.2.2.1,b_2.2.2.2.2.2.1,b_2.2.2.2.2.2.2.1,Prod.fst (List.getD b.2 (Int.toNat v.1) ((0:Int),(0:Int))),Prod.snd
 (List.getD b.2 (Int.toNat v.1) ((0:Int),(0:Int))),b_2.2.2.2.2.2.2.2.2.2)]))) none) none) none) (some (Sum.inr v.2.2.2))) ((0:Int),b_1)) fun(b:
 List (M_))=>some b
theorem q_aD:∀w_9 w_b N x,u_aD.F L0 P0 (orcOf [u_9.con w_9,u_b.con w_b]) N x=V_aD w_9 w_b N x:=by intros;kernel_rfl
noncomputable def W_aD (N:Nat):=V_aD (W_9 N) (W_b N) N
theorem con_aD_ok (N:Nat):(u_aD.con (W_aD N)).ok P0:=Uf.ok mixed (q_aD (W_9 N) (W_b N) N) ⟨con_9_ok N,con_b_ok N,trivial⟩ Tryz.func98 (by kernel_rfl) fun x y=>by kernel_rfl
noncomputable def u_7:Uf:=⟨70,175,Tryz.f70,[.val (.agg T0_),.val (.list (.int .u8))],[],
⟨[(4,.ptr 600004 0),(5,.val (.list (.agg T_)))],[(600004,.box 48 (.val T0_))]⟩,[],
[],
[(6,.cut [] [(.normal,⟨[(2,.ptr 600002 0),(4,.ptr 600004 0)],[(600002,.box 48 (.val T0_)),(600004,.box 48 (.val T0_))]⟩)]),
(1000012,.reg [(10,[],⟨[(2,.ptr 600002 0),(4,.ptr 600004 0),(6,.ptr 600006 0),(9,.ptr 600009 0),(10,.acc 700054),(11,.ptr 600011 0),(71,.val .bool)],[(600002,.box 48 (.val T0_)),(600004,.box 48 (.val T0_)),(600006,.box 133 (.val T_)),(600009,.box 46 (.val T1_)),(700054,.nrow 133 (.agg T_) true true),(600011,.box 42 (.val T3_))]⟩)]),
(1000013,.reg [(6,[],⟨[(2,.ptr 600002 0),(4,.ptr 600004 0),(6,.ptr 600006 0),(9,.ptr 600009 0),(10,.acc 700054),(11,.ptr 600011 0),(85,.val .bool)],[(600002,.box 48 (.val T0_)),(600004,.box 48 (.val T0_)),(600006,.box 133 (.val T_)),(600009,.box 46 (.val T1_)),(700054,.nrow 133 (.agg T_) true true),(600011,.box 42 (.val T3_))]⟩)]),
(23,.cut [] [(.normal,⟨[(2,.ptr 600002 0),(4,.ptr 600004 0),(6,.ptr 600006 0),(9,.ptr 600009 0),(10,.acc 700054),(11,.ptr 600011 0),(14,.ptr 600014 0),(15,.val .bool)],[(600002,.box 48 (.val T0_)),(600004,.box 48 (.val T0_)),(600006,.box 133 (.val T_)),(600009,.box 46 (.val T1_)),(700054,.nrow 133 (.agg T_) true true),(600011,.box 42 (.val T3_)),(600014,.box 159 (.val (.pair (.int .i64) T5_)))]⟩)]),
(20,.cut [] [(.normal,⟨[(2,.ptr 600002 0),(4,.ptr 600004 0),(6,.ptr 600006 0),(9,.ptr 600009 0),(10,.acc 700054),(11,.ptr 600011 0),(125,.val .bool)],[(600002,.box 48 (.val T0_)),(600004,.box 48 (.val T0_)),(600006,.box 133 (.val T_)),(600009,.box 46 (.val T1_)),(700054,.nrow 133 (.agg T_) true true),(600011,.box 42 (.val T3_))]⟩)]),
(18,.cut [] [(.normal,⟨[(2,.ptr 600002 0),(4,.ptr 600004 0),(6,.ptr 600006 0),(9,.ptr 600009 0),(10,.acc 700054),(11,.ptr 600011 0),(111,.val .bool)],[(600002,.box 48 (.val T0_)),(600004,.box 48 (.val T0_)),(600006,.box 133 (.val T_)),(600009,.box 46 (.val T1_)),(700054,.nrow 133 (.agg T_) true true),(600011,.box 42 (.val T3_))]⟩)]),
(16,.cut [] [(.normal,⟨[(2,.ptr 600002 0),(4,.ptr 600004 0),(6,.ptr 600006 0),(9,.ptr 600009 0),(10,.acc 700054),(11,.ptr 600011 0),(100,.val .bool)],[(600002,.box 48 (.val T0_)),(600004,.box 48 (.val T0_)),(600006,.box 133 (.val T_)),(600009,.box 46 (.val T1_)),(700054,.nrow 133 (.agg T_) true true),(600011,.box 42 (.val T3_))]⟩)]),
(14,.cut [] [(.normal,⟨[(2,.ptr 600002 0),(4,.ptr 600004 0),(6,.ptr 600006 0),(9,.ptr 600009 0),(10,.acc 700054),(11,.ptr 600011 0),(79,.val .bool)],[(600002,.box 48 (.val T0_)),(600004,.box 48 (.val T0_)),(600006,.box 133 (.val T_)),(600009,.box 46 (.val T1_)),(700054,.nrow 133 (.agg T_) true true),(600011,.box 42 (.val T3_))]⟩)]),
(25,.cut [] [(.normal,⟨[(2,.ptr 600002 0),(4,.ptr 600004 0),(9,.ptr 600009 0),(10,.acc 700054),(11,.ptr 600011 0)],[(600002,.box 48 (.val T0_)),(600004,.box 48 (.val T0_)),(600009,.box 46 (.val T1_)),(700054,.nrow 133 (.agg T_) true true),(600011,.box 42 (.val T3_))]⟩)]),
(13,.cut [] [(.normal,⟨[(2,.ptr 600002 0),(4,.ptr 600004 0),(6,.ptr 600006 0),(9,.ptr 600009 0),(10,.acc 700054),(11,.ptr 600011 0),(13,.val .bool)],[(600002,.box 48 (.val T0_)),(600004,.box 48 (.val T0_)),(600006,.box 133 (.val T_)),(600009,.box 46 (.val T1_)),(700054,.nrow 133 (.agg T_) true true),(600011,.box 42 (.val T3_))]⟩)]),
(12,.cut [] [(.normal,⟨[(2,.ptr 600002 0),(4,.ptr 600004 0),(6,.ptr 600006 0),(9,.ptr 600009 0),(10,.acc 700054),(11,.ptr 600011 0),(12,.val (.int .i64))],[(600002,.box 48 (.val T0_)),(600004,.box 48 (.val T0_)),(600006,.box 133 (.val T_)),(600009,.box 46 (.val T1_)),(700054,.nrow 133 (.agg T_) true true),(600011,.box 42 (.val T3_))]⟩)]),
(9,.cut [] [(.normal,⟨[(2,.ptr 600002 0),(4,.ptr 600004 0),(6,.ptr 600006 0),(9,.ptr 600009 0),(10,.acc 700054)],[(600002,.box 48 (.val T0_)),(600004,.box 48 (.val T0_)),(600006,.box 133 (.val T_)),(600009,.box 46 (.val T1_)),(700054,.nrow 133 (.agg T_) true true)]⟩)]),
(3,.cut [] [(.normal,⟨[(2,.ptr 600002 0),(4,.ptr 600004 0)],[(600002,.box 48 (.val T0_)),(600004,.box 48 (.val T0_))]⟩),(.ret,⟨[(4,.ptr 600004 0),(5,.val (.list (.agg T_)))],[(600004,.box 48 (.val T0_))]⟩)])],fun y=>(.tup [valW (.agg T0_) y.2,valW (.list (.agg T_)) y.1],[],[])⟩
noncomputable def V_7 (w_8:List Int→Option (Bool×A4_)) (w_aI:A2_×A4_×Int→Option (A2_×List A4_)) (w_aG:A3_×Int→Option A3_) (w_h:A3_×Int→Option A3_) (w_aL:A3_×Int×List UInt8→Option A3_) (w_aM:A3_×Int×Int→Option A3_) (w_n:List (Int×Int×Int)×Int→Option (Bool×Int×Int×Int)) (w_aD:A2_×A3_×A4_→Option (List A4_)) (w_p:A2_×List (Int×A6_)→Option (List A4_)) (N:Nat) (x:A0_×List Int):Option (List A4_×A0_):=
 obind (cnd (!x.1.1) (some (Sum.inr ([],x.1))) (some (Sum.inl (x.1,false,(0:Int),[],((0:Int),(0:Int),(0:Int),(0:Int),(0:Int),(0:Int),[],
 (0:Int),(0:Int),(0:Int),(0:Int),(0:Int),[]),((0:Int),(0:Int),[],[],[],(0:Int),(0:Int)),(0:Int))))) fun(b:A0_×Bool×Int×List UInt8×A2_×A3_×Int⊕List (M_)×A0_)=>selim (fun(b:A0_×A0_)=>obind (w_8 x.2) fun b_1=>cnd (!b_1.1) (some ([],b.1.1,b.1.2.1,b.1.2.2.1,b.1.2.2.2.1,
 b.1.2.2.2.2.1,min (wr .i64 (b.1.2.2.2.2.2+(1:Int))) (1073741824:Int))) (cnd (decide (b_1.2.2.2.1≠b.1.2.2.2.1.1)) (some ([],b.1.1,b.1.2.1,
 b.1.2.2.1,b.1.2.2.2.1,b.1.2.2.2.2.1,min (wr .i64 (b.1.2.2.2.2.2+(1:Int))) (1073741824:Int))) (obind (obind (w_aI (b.1.2.2.2.1,
 b_1.2,max b.1.2.2.2.2.1.1 (1:Int))) fun b_2=>some (b.1,b.2,b_1.2,b_2)) fun(b_2:A0_×A0_×(M_)×A2_×List (M_))=>obind (obind (cnd
 (decide (b_2.2.2.2.1.2.2.2.1≠(0:Int))) (some (decide (b_2.2.2.2.1.2.2.2.1=b_2.2.2.1.2.1),(b_2.1.1,b_2.1.2.1,b_2.1.2.2.1,b_2.2.2.2.1,
 b_2.1.2.2.2.2),b_2.2.1,b_2.2.2.1,b_2.2.2.2.1,b_2.2.2.2.2,b_2.1.2.2.2.2.1)) (some (false,(b_2.1.1,b_2.1.2.1,b_2.1.2.2.1,b_2.2.2.2.1,
 b_2.1.2.2.2.2),b_2.2.1,b_2.2.2.1,b_2.2.2.2.1,b_2.2.2.2.2,b_2.1.2.2.2.2.1))) fun(b:Bool×A0_×A0_×(M_)×A2_×List (M_)×A3_)=>cnd b.1 (some (decide
 (b.2.2.2.2.1.2.2.2.2.1=b.2.2.2.1.2.2.2.1),b.2)) (some (false,b.2))) fun(b_3:Bool×A0_×A0_×(M_)×A2_×List (M_)×A3_)=>obind (obind (obind (cnd (decide
 (b_3.2.2.2.1.1=(2:Int))) (some b_3) (some (false,b_3.2))) fun(b_4:Bool×A0_×A0_×(M_)×A2_×List (M_)×A3_)=>cnd b_4.1 (some (decide (b.1.2.2.2.1.2.2.2.1 ≠
 b_4.2.2.2.1.2.1),b_4.2)) (some (false,b_4.2))) fun(b:Bool×A0_×A0_×(M_)×A2_×List (M_)×A3_)=>cnd b.1 (obind (w_aG (b.2.2.2.2.2.2,
 b.2.2.2.1.2.2.2.2.2.2.2.1)) fun b_4=>obind (w_h (b_4,wr .i64 (b.2.2.2.1.2.2.2.2.2.2.2.1-(1:Int)))) fun b_5=>some (b.2.1,b.2.2.1,
 b.2.2.2.2.1,b.2.2.2.2.2.1,b_5)) (obind (cnd (decide (b.2.2.2.1.1=(5:Int))) (some (b_3.1,b.2)) (some (false,b.2))) fun(b:Bool×A0_×A0_×(M_)×A2_×List A4_×A3_)=>
 cnd b.1 (obind (w_h (b.2.2.2.2.2.2,b.2.2.2.1.2.2.2.2.2.2.2.2.1)) fun b_4=>some (b.2.1,b.2.2.1,b.2.2.2.2.1,b.2.2.2.2.2.1,b_4))
 (obind (cnd (decide (b.2.2.2.1.1=(7:Int))) (some (b_3.1,b.2)) (some (false,b.2))) fun(b:Bool×A0_×A0_×(M_)×A2_×List (M_)×A3_)=>cnd b.1 (obind
 (w_aL (b.2.2.2.2.2.2,b.2.2.2.1.2.2.2.2.2.2.2.1,b.2.2.2.1.2.2.2.2.2.2.2.2.2)) fun b_4=>some (b.2.1,b.2.2.1,b.2.2.2.2.1,
 b.2.2.2.2.2.1,b_4)) (obind (cnd (decide (b.2.2.2.1.1=(9:Int))) (some (b_3.1,b.2)) (some (false,b.2))) fun(b:Bool×A0_×A0_×(M_)×A2_×List A4_×A3_)=>cnd b.1
 (obind (w_aM (b.2.2.2.2.2.2,b.2.2.2.1.2.2.2.2.2.2.2.1,b.2.2.2.1.2.2.2.2.2.2.2.2.1)) fun b_4=>some (b.2.1,b.2.2.1,b.2.2.2.2.1,
 b.2.2.2.2.2.1,b_4)) (cnd (decide (b.2.2.2.1.1=(8:Int))) (obind (obind (w_n (b.2.2.2.2.1.2.2.2.2.2.2.2.2.2.2.2.2,b.2.2.2.1.2.1)) fun
 b_4=>some (b_4.1,b.2.1,b.2.2.1,b.2.2.2.1,b.2.2.2.2.1,b.2.2.2.2.2.1,b.2.2.2.2.2.2,b_4.2)) fun(b:Bool×A0_×A0_×(M_)×A2_×List A4_×A3_×Int×Int×Int)
 => cnd b.1 (cnd (decide (b.2.2.2.2.2.2.2.2.1=b.2.2.2.1.2.2.2.1)) (obind (w_aD (b.2.2.2.2.1,b.2.2.2.2.2.2.1,b.2.2.2.1)) fun b_4=>
 cnd (decide ((List.length b.2.2.2.2.2.1+List.length b_4)*(104:Nat)≤(140737488355328:Nat))) (some (b.2.1,b.2.2.1,b.2.2.2.2.1,b.2.2.2.2.2.1
 ++ b_4,b.2.2.2.2.2.2.1)) none) (some (b.2.1,b.2.2.1,b.2.2.2.2.1,b.2.2.2.2.2.1,b.2.2.2.2.2.2.1))) (some (b.2.1,b.2.2.1,b.2.2.2.2.1,
 b.2.2.2.2.2.1,b.2.2.2.2.2.2.1))) (some (b.2.1,b.2.2.1,b.2.2.2.2))))))) fun(b:A0_×A0_×A2_×List A4_×A3_)=>cnd (decide ((0:Int)≤(↑(List.length b_2.1.2.2.2.2.1.2.2.2.2.1):Int))&&decide ((↑(List.length b_2.1.2.2.2.2.1.2.2.2.2.1)
 : Int)≤(↑(List.length b.2.2.2.2.2.2.2.2.1):Int))) (obind (w_p (b.2.2.1,List.drop (Int.toNat (↑(List.length
 b_2.1.2.2.2.2.1.2.2.2.2.1):Int)) (List.take (List.length b.2.2.2.2.2.2.2.2.1) b.2.2.2.2.2.2.2.2.1))) fun b_4=>cnd (decide ((List.length
 b.2.2.2.1+List.length b_4)*(104:Nat)≤(140737488355328:Nat))) (some (b.2.2.2.1++b_4,b.1.1,b.1.2.1,b.1.2.2.1,b.1.2.2.2.1,b.2.2.2.2,
 b.1.2.2.2.2.2)) none) none))) (fun(c:List (M_)×A0_)=>some c) b
theorem q_7:∀w_8 w_aI w_aG w_h w_aL w_aM w_n w_aD w_p N x,u_7.F L0 P0 (orcOf [u_8.con w_8,u_aI.con w_aI,u_aG.con w_aG,u_h.con w_h,u_aL.con w_aL,u_aM.con w_aM,u_n.con w_n,u_aD.con w_aD,u_p.con w_p]) N x=V_7 w_8 w_aI w_aG w_h w_aL w_aM w_n w_aD w_p N x:=by intros;kernel_rfl
noncomputable def W_7 (N:Nat):=V_7 (W_8 N) (W_aI N) (W_aG N) (W_h N) (W_aL N) (W_aM N) (W_n N) (W_aD N) (W_p N) N
theorem con_7_ok (N:Nat):(u_7.con (W_7 N)).ok P0:=Uf.ok mixed (q_7 (W_8 N) (W_aI N) (W_aG N) (W_h N) (W_aL N) (W_aM N) (W_n N) (W_aD N) (W_p N) N) ⟨con_8_ok N,con_aI_ok N,con_aG_ok N,con_h_ok N,con_aL_ok N,con_aM_ok N,con_n_ok N,con_aD_ok N,con_p_ok N,trivial⟩ Tryz.func70 (by kernel_rfl) fun x y=>by kernel_rfl
noncomputable def u_aS:Uf:=⟨45,40,Tryz.f45,[.val (.agg T2_),.val T10_],[],
⟨[(4,.ptr 600004 0)],[(600004,.box 32 (.val T2_))]⟩,[],
[],
[],fun y=>(valW (.agg T2_) y,[],[])⟩
noncomputable def V_aS (w_7:A0_×List Int→Option (List A4_×A0_)) (w_l:(List A0_×A1_)×Int×A0_×List A4_→Option (List A0_×A1_)) (N:Nat) (x:(List A0_×A1_)×Int×List UInt8×Bool):Option (List A0_×A1_):=
 cnd (decide (x.2.1<(1:Int))) (some x.1) (cnd (decide ((↑(List.length x.1.1):Int)<x.2.1)) (some x.1) (cnd (decide ((0:Int)≤wr .i64 (x.2.1 -
 (1:Int)))&&decide (wr .i64 (x.2.1-(1:Int))<(↑(List.length x.1.1):Int))) (obind (w_7 ((List.getD x.1.1 (Int.toNat (wr .i64
 (x.2.1-(1:Int)))) (false,(0:Int),[],((0:Int),(0:Int),(0:Int),(0:Int),(0:Int),(0:Int),[],(0:Int),(0:Int),(0:Int),(0:Int),(0:Int),
 []),((0:Int),(0:Int),[],[],[],(0:Int),(0:Int)),(0:Int))),List.map (fun(b:UInt8)=>(↑(UInt8.toNat b):Int)) x.2.2.1)) fun b=>obind
 (w_l (x.1,wr .i64 (x.2.1-(1:Int)),b.2,b.1)) fun b=>some b) none))
theorem q_aS:∀w_7 w_l N x,u_aS.F L0 P0 (orcOf [u_7.con w_7,u_l.con w_l]) N x=V_aS w_7 w_l N x:=by intros;kernel_rfl
noncomputable def W_aS (N:Nat):=V_aS (W_7 N) (W_l N) N
theorem con_aS_ok (N:Nat):(u_aS.con (W_aS N)).ok P0:=Uf.ok mixed (q_aS (W_7 N) (W_l N) N) ⟨con_7_ok N,con_l_ok N,trivial⟩ Tryz.func45 (by kernel_rfl) fun x y=>by kernel_rfl
noncomputable def u_3:Uf:=⟨46,26,Tryz.f46,[.val (.list T10_),.val (.int .i64)],[],
⟨[(4,.val (.list T10_)),(5,.val .bool)],[]⟩,[],
[],
[(1000001,.reg [(8,[],⟨[(13,.val .bool)],[]⟩)])],fun y=>(.tup [valW (.list T10_) y.1,valW .bool y.2],[],[])⟩
noncomputable def V_3 (w_O:List (Int×List UInt8×Bool)×Int×List UInt8×Bool→Option (List (Int×List UInt8×Bool))) (N:Nat) (x:List (Int×List UInt8×Bool)×Int):Option (List (Int×List UInt8×Bool)×Bool):=
 obind (cnd (decide (x.2<(0:Int))) (some true) (some (decide ((↑(List.length x.1):Int)≤x.2)))) fun(b:Bool)=>cnd b (some (x.1,false)) (cnd
 (decide ((60:Int)≤(↑(List.length x.1):Int))) (some (x.1,false)) (cnd (decide ((0:Int)≤x.2)&&decide (x.2<(↑(List.length x.1):Int)))
 (obind (w_O (x.1,List.getD x.1 (Int.toNat x.2) ((0:Int),[],false))) fun b=>some (b,true)) none))
theorem q_3:∀w_O N x,u_3.F L0 P0 (orcOf [u_O.con w_O]) N x=V_3 w_O N x:=by intros;kernel_rfl
noncomputable def W_3 (N:Nat):=V_3 (W_O N) N
theorem con_3_ok (N:Nat):(u_3.con (W_3 N)).ok P0:=Uf.ok mixed (q_3 (W_O N) N) ⟨con_O_ok N,trivial⟩ Tryz.func46 (by kernel_rfl) fun x y=>by kernel_rfl
noncomputable def u_1:Uf:=⟨47,81,Tryz.f47,[.val (.list T10_),.val (.int .i64),.val (.int .i64)],[],
⟨[(6,.val (.list T10_)),(7,.val .bool)],[]⟩,[],
[],
[(1000001,.reg [(8,[],⟨[(18,.val .bool)],[]⟩),(7,[],⟨[(25,.val .bool)],[]⟩),(9,[],⟨[(34,.val .bool)],[]⟩),(4,[],⟨[(38,.val .bool)],[]⟩)])],fun y=>(.tup [valW (.list T10_) y.1,valW .bool y.2],[],[])⟩
noncomputable def V_1 (N:Nat) (x:List (Int×List UInt8×Bool)×Int×Int):Option (List (Int×List UInt8×Bool)×Bool):=
 obind (cnd (decide (x.2.1<(0:Int))) (some true) (some (decide ((↑(List.length x.1):Int)≤x.2.1)))) fun(b:Bool)=>obind (cnd b (some true)
 (cnd (decide ((0:Int)≤x.2.1)&&decide (x.2.1<(↑(List.length x.1):Int))) (some (Prod.snd (Prod.snd (List.getD x.1 (Int.toNat x.2.1) ((0:Int),
 [],false))))) none)) fun(b:Bool)=>obind (cnd b (some true) (cnd (decide ((0:Int)≤x.2.1)&&decide (x.2.1<(↑(List.length x.1):Int)))
 (some (decide ((↑(List.length (Prod.fst (Prod.snd (List.getD x.1 (Int.toNat x.2.1) ((0:Int),[],false))))):Int)=(0:Int)))) none)) fun(b:
 Bool)=>obind (cnd b (some true) (some (decide (x.2.2<(0:Int))))) fun(b:Bool)=>cnd b (some (x.1,false)) (cnd (decide (Int.tmod x.2.2
 (256:Int)=(0:Int))) (some (x.1,false)) (cnd (decide (List.length x.1*(32:Nat)≤(140737488355328:Nat))) (cnd (decide ((0:Int)≤x.2.1) &&
 decide (x.2.1<(↑(List.length x.1):Int))) (cnd (!decide ((↑(List.length (List.map (fun(b:UInt8)=>(↑(UInt8.toNat b):Int)) (Prod.fst
 (Prod.snd (List.getD x.1 (Int.toNat x.2.1) ((0:Int),[],false)))))):Int)=(0:Int))) (cnd (decide ((0:Int)≤Int.tmod (wr .i64 (Int.tdiv x.2.2
 (256:Int))) (↑(List.length (List.map (fun(b:UInt8)=>(↑(UInt8.toNat b):Int)) (Prod.fst (Prod.snd (List.getD x.1 (Int.toNat x.2.1) ((0:Int),
 [],false)))))):Int))&&decide (Int.tmod (wr .i64 (Int.tdiv x.2.2 (256:Int))) (↑(List.length (List.map (fun(b:UInt8)=>(↑(UInt8.toNat b):
 Int)) (Prod.fst (Prod.snd (List.getD x.1 (Int.toNat x.2.1) ((0:Int),[],false)))))):Int)<(↑(List.length (List.map (fun(b:UInt8)=>
 (↑(UInt8.toNat b):Int)) (Prod.fst (Prod.snd (List.getD x.1 (Int.toNat x.2.1) ((0:Int),[],false)))))):Int))) (cnd (decide ((0:Int)≤Int.tmod
 (wr .i64 (Int.tdiv x.2.2 (256:Int))) (↑(List.length (List.map (fun(b:UInt8)=>(↑(UInt8.toNat b):Int)) (Prod.fst (Prod.snd (List.getD x.1
 (Int.toNat x.2.1) ((0:Int),[],false)))))):Int))&&decide (Int.tmod (wr .i64 (Int.tdiv x.2.2 (256:Int))) (↑(List.length (List.map (fun(b:
 UInt8)=>(↑(UInt8.toNat b):Int)) (Prod.fst (Prod.snd (List.getD x.1 (Int.toNat x.2.1) ((0:Int),[],false)))))):Int)<(↑(List.length (List.map
 (fun(b:UInt8)=>(↑(UInt8.toNat b):Int)) (Prod.fst (Prod.snd (List.getD x.1 (Int.toNat x.2.1) ((0:Int),[],false)))))):Int))) (cnd (List.all
 (putL (List.map (fun(b:UInt8)=>(↑(UInt8.toNat b):Int)) (Prod.fst (Prod.snd (List.getD x.1 (Int.toNat x.2.1) ((0:Int),[],false))))) [wr .u8
 (↑(BitVec.toNat (BitVec.ofInt (8:Nat) (List.getD (List.map (fun(b:UInt8)=>(↑(UInt8.toNat b):Int)) (Prod.fst (Prod.snd (List.getD x.1
 (Int.toNat x.2.1) ((0:Int),[],false))))) (Int.toNat (Int.tmod (wr .i64 (Int.tdiv x.2.2 (256:Int))) (↑(List.length (List.map (fun(b:UInt8)=>
 (↑(UInt8.toNat b):Int)) (Prod.fst (Prod.snd (List.getD x.1 (Int.toNat x.2.1) ((0:Int),[],false)))))):Int))) (0:Int)) ^^^ BitVec.ofInt (8:Nat)
 (wr .u8 (Int.tmod x.2.2 (256:Int))))):Int)] (Int.toNat (Int.tmod (wr .i64 (Int.tdiv x.2.2 (256:Int))) (↑(List.length (List.map (fun(b:UInt8)=>
 (↑(UInt8.toNat b):Int)) (Prod.fst (Prod.snd (List.getD x.1 (Int.toNat x.2.1) ((0:Int),[],false)))))):Int)))) fun(n:Int)=>decide ((0:Int)
 ≤ n)&&decide (n<(256:Int))) (cnd (decide ((0:Int)≤x.2.1)&&decide (x.2.1<(↑(List.length x.1):Int))) (cnd (decide ((0:Int)≤x.2.1) &&
 decide (x.2.1<(↑(List.length (putL x.1 [(Prod.fst (List.getD x.1 (Int.toNat x.2.1) ((0:Int),[],false)),List.map (fun(n:Int)=>UInt8.ofNat
 (Int.toNat n)) (putL (List.map (fun(b:UInt8)=>(↑(UInt8.toNat b):Int)) (Prod.fst (Prod.snd (List.getD x.1 (Int.toNat x.2.1) ((0:Int),[],
 false))))) [wr .u8 (↑(BitVec.toNat (BitVec.ofInt (8:Nat) (List.getD (List.map (fun(b:UInt8)=>(↑(UInt8.toNat b):Int)) (Prod.fst (Prod.snd
 (List.getD x.1 (Int.toNat x.2.1) ((0:Int),[],false))))) (Int.toNat (Int.tmod (wr .i64 (Int.tdiv x.2.2 (256:Int))) (↑(List.length (List.map (fun(b
 : UInt8)=>(↑(UInt8.toNat b):Int)) (Prod.fst (Prod.snd (List.getD x.1 (Int.toNat x.2.1) ((0:Int),[],false)))))):Int))) (0:Int)) ^^^
 BitVec.ofInt (8:Nat) (wr .u8 (Int.tmod x.2.2 (256:Int))))):Int)] (Int.toNat (Int.tmod (wr .i64 (Int.tdiv x.2.2 (256:Int))) (↑(List.length
 (List.map (fun(b:UInt8)=>(↑(UInt8.toNat b):Int)) (Prod.fst (Prod.snd (List.getD x.1 (Int.toNat x.2.1) ((0:Int),[],false)))))):Int)))),
 Prod.snd (Prod.snd (List.getD x.1 (Int.toNat x.2.1) ((0:Int),[],false))))] (Int.toNat x.2.1))):Int))) (some (putL (putL x.1 [(Prod.fst
 (List.getD x.1 (Int.toNat x.2.1) ((0:Int),[],false)),List.map (fun(n:Int)=>UInt8.ofNat (Int.toNat n)) (putL (List.map (fun(b:UInt8)=>
 (↑(UInt8.toNat b):Int)) (Prod.fst (Prod.snd (List.getD x.1 (Int.toNat x.2.1) ((0:Int),[],false))))) [wr .u8 (↑(BitVec.toNat (BitVec.ofInt
 (8:Nat) (List.getD (List.map (fun(b:UInt8)=>(↑(UInt8.toNat b):Int)) (Prod.fst (Prod.snd (List.getD x.1 (Int.toNat x.2.1) ((0:Int),[],
 false))))) (Int.toNat (Int.tmod (wr .i64 (Int.tdiv x.2.2 (256:Int))) (↑(List.length (List.map (fun(b:UInt8)=>(↑(UInt8.toNat b):Int))
 (Prod.fst (Prod.snd (List.getD x.1 (Int.toNat x.2.1) ((0:Int),[],false)))))):Int))) (0:Int)) ^^^ BitVec.ofInt (8:Nat) (wr .u8 (Int.tmod x.2.2
 (256:Int))))):Int)] (Int.toNat (Int.tmod (wr .i64 (Int.tdiv x.2.2 (256:Int))) (↑(List.length (List.map (fun(b:UInt8)=>(↑(UInt8.toNat b):
 Int)) (Prod.fst (Prod.snd (List.getD x.1 (Int.toNat x.2.1) ((0:Int),[],false)))))):Int)))),Prod.snd (Prod.snd (List.getD x.1 (Int.toNat x.2.1)
 ((0:Int),[],false))))] (Int.toNat x.2.1)) [(Prod.fst (List.getD (putL x.1 [(Prod.fst (List.getD x.1 (Int.toNat x.2.1) ((0:Int),[],false)),
 List.map (fun(n:Int)=>UInt8.ofNat (Int.toNat n)) (putL (List.map (fun(b:UInt8)=>(↑(UInt8.toNat b):Int)) (Prod.fst (Prod.snd (List.getD
 x.1 (Int.toNat x.2.1) ((0:Int),[],false))))) [wr .u8 (↑(BitVec.toNat (BitVec.ofInt (8:Nat) (List.getD (List.map (fun(b:UInt8)=>(↑(UInt8.toNat
 b):Int)) (Prod.fst (Prod.snd (List.getD x.1 (Int.toNat x.2.1) ((0:Int),[],false))))) (Int.toNat (Int.tmod (wr .i64 (Int.tdiv x.2.2 (256:Int)))
 (↑(List.length (List.map (fun(b:UInt8)=>(↑(UInt8.toNat b):Int)) (Prod.fst (Prod.snd (List.getD x.1 (Int.toNat x.2.1) ((0:Int),[],
 false)))))):Int))) (0:Int)) ^^^ BitVec.ofInt (8:Nat) (wr .u8 (Int.tmod x.2.2 (256:Int))))):Int)] (Int.toNat (Int.tmod (wr .i64 (Int.tdiv x.2.2
 (256:Int))) (↑(List.length (List.map (fun(b:UInt8)=>(↑(UInt8.toNat b):Int)) (Prod.fst (Prod.snd (List.getD x.1 (Int.toNat x.2.1) ((0:Int),
 [],false)))))):Int)))),Prod.snd (Prod.snd (List.getD x.1 (Int.toNat x.2.1) ((0:Int),[],false))))] (Int.toNat x.2.1)) (Int.toNat x.2.1)
 ((0:Int),[],false)),Prod.fst (Prod.snd (List.getD (putL x.1 [(Prod.fst (List.getD x.1 (Int.toNat x.2.1) ((0:Int),[],false)),List.map (fun(n:
 Int)=>UInt8.ofNat (Int.toNat n)) (putL (List.map (fun(b:UInt8)=>(↑(UInt8.toNat b):Int)) (Prod.fst (Prod.snd (List.getD x.1 (Int.toNat
 x.2.1) ((0:Int),[],false))))) [wr .u8 (↑(BitVec.toNat (BitVec.ofInt (8:Nat) (List.getD (List.map (fun(b:UInt8)=>(↑(UInt8.toNat b):Int))
 (Prod.fst (Prod.snd (List.getD x.1 (Int.toNat x.2.1) ((0:Int),[],false))))) (Int.toNat (Int.tmod (wr .i64 (Int.tdiv x.2.2 (256:Int)))
 (↑(List.length (List.map (fun(b:UInt8)=>(↑(UInt8.toNat b):Int)) (Prod.fst (Prod.snd (List.getD x.1 (Int.toNat x.2.1) ((0:Int),[],
 false)))))):Int))) (0:Int)) ^^^ BitVec.ofInt (8:Nat) (wr .u8 (Int.tmod x.2.2 (256:Int))))):Int)] (Int.toNat (Int.tmod (wr .i64 (Int.tdiv x.2.2
 (256:Int))) (↑(List.length (List.map (fun(b:UInt8)=>(↑(UInt8.toNat b):Int)) (Prod.fst (Prod.snd (List.getD x.1 (Int.toNat x.2.1) ((0:Int),
 [],false)))))):Int)))),Prod.snd (Prod.snd (List.getD x.1 (Int.toNat x.2.1) ((0:Int),[],false))))] (Int.toNat x.2.1)) (Int.toNat x.2.1)
 ((0:Int),[],false))),true)] (Int.toNat x.2.1),true)) none) none) none) none) none) none) none) none))
theorem q_1:∀N x,u_1.F L0 P0 (orcOf []) N x=V_1 N x:=by intros;kernel_rfl
noncomputable def W_1 (N:Nat):=V_1 N
theorem con_1_ok (N:Nat):(u_1.con (W_1 N)).ok P0:=Uf.ok mixed (q_1 N) trivial Tryz.func47 (by kernel_rfl) fun x y=>by kernel_rfl
noncomputable def u_i:Uf:=⟨22,136,Tryz.f22,[.val (.agg T2_),.val (.agg T12_)],[],
⟨[(4,.ptr 600004 0),(5,.val (.int .i64))],[(600004,.box 32 (.val T2_))]⟩,[],
[],
[(8,.cut [] [(.normal,⟨[(2,.ptr 600002 0),(3,.ptr 600003 0),(4,.ptr 600004 0),(21,.val .bool)],[(600002,.box 32 (.val T2_)),(600003,.box 68 (.val T12_)),(600004,.box 32 (.val T2_))]⟩)]),
(33,.cut [] [(.normal,⟨[(2,.ptr 600002 0),(4,.ptr 600004 0),(12,.val (.list T10_)),(13,.val .bool)],[(600002,.box 32 (.val T2_)),(600004,.box 32 (.val T2_))]⟩),(.ret,⟨[(4,.ptr 600004 0),(5,.val (.int .i64))],[(600004,.box 32 (.val T2_))]⟩)])],fun y=>(.tup [valW (.agg T2_) y.2,valW (.int .i64) y.1],[],[])⟩
noncomputable def V_i (w_a5:(List A0_×A1_)×Int×Int×Int×Int×List UInt8→Option (Int×List A0_×A1_)) (w_aZ:A0_×List UInt8→Option (List A4_×Bool×A0_)) (w_l:(List A0_×A1_)×Int×A0_×List A4_→Option (List A0_×A1_)) (w_0:List (Int×List UInt8×Bool)×Int→Option (List (Int×List UInt8×Bool)×Bool×Int×List UInt8×Bool)) (w_aS:(List A0_×A1_)×Int×List UInt8×Bool→Option (List A0_×A1_)) (w_3:List (Int×List UInt8×Bool)×Int→Option (List (Int×List UInt8×Bool)×Bool)) (w_1:List (Int×List UInt8×Bool)×Int×Int→Option (List (Int×List UInt8×Bool)×Bool)) (N:Nat) (x:(List A0_×A1_)×Int×Int×Int×Int×List UInt8):Option (Int×List A0_×A1_):=
 cnd (decide ((↑(List.length x.1.1):Int)≠(8:Int))) (some ((1:Int),x.1)) (obind (cnd (decide (x.2.1=(1:Int))) (some (decide (x.2.1=(1:Int)),
 x.1,x.2,[],[],[],(0:Int),[],[])) (cnd (decide (x.2.1=(2:Int))) (some (decide (x.2.1=(2:Int)),x.1,x.2,[],[],[],(0:Int),[],[]))
 (cnd (decide (x.2.1=(3:Int))) (some (decide (x.2.1=(3:Int)),x.1,x.2,[],[],[],(0:Int),[],[])) (some (decide (x.2.1=(5:Int)),x.1,x.2,
 [],[],[],(0:Int),[],[]))))) fun(b:Bool×(List A0_×A1_)×(Int×Int×Int×Int×List UInt8)×List A0_×A1_)=>cnd b.1 (cnd (decide (b.2.2.1.2.1<(1:Int)))
 (some ((1:Int),b.2.1)) (cnd (decide ((↑(List.length b.2.1.1):Int)<b.2.2.1.2.1)) (some ((1:Int),b.2.1)) (obind (w_a5 (b.2.1,b.2.2.1))
 fun b=>some b))) (cnd (decide (x.2.1=(4:Int))) (cnd (decide ((0:Int)≤(0:Int))&&decide ((0:Int)<(↑(List.length b.2.1.1):Int))) (obind
 (w_aZ ((List.getD b.2.1.1 (0:Nat) (false,(0:Int),[],((0:Int),(0:Int),(0:Int),(0:Int),(0:Int),(0:Int),[],(0:Int),(0:Int),
 (0:Int),(0:Int),(0:Int),[]),((0:Int),(0:Int),[],[],[],(0:Int),(0:Int)),(0:Int))),b.2.2.1.2.2.2.2)) fun b_1=>cnd (!b_1.2.1) (some
 ((1:Int),b.2.1)) (obind (w_l (b.2.1,(0:Int),b_1.2.2,b_1.1)) fun b_2=>cnd (decide (List.length b_2.2.2.1*(16:Nat) ≤
 (140737488355328:Nat))) (cnd (decide ((List.length b_2.2.2.1+List.length [b.2.2.1.2.2.2.2])*(16:Nat)≤(140737488355328:Nat))) (some ((0:Int),
 b_2.1,b_2.2.1,b_2.2.2.1++[b.2.2.1.2.2.2.2],b_2.2.2.2)) none) none)) none) (cnd (decide (x.2.1=(6:Int))) (obind (w_0 (b.2.1.2.1,
 b.2.2.1.2.2.1)) fun b_1=>cnd (!b_1.2.1) (some ((3:Int),b.2.1)) (obind (w_aS ((b.2.1.1,b_1.1,b.2.1.2.2),b_1.2.2)) fun b=>some
 ((0:Int),b))) (obind (cnd (decide (b.2.2.1.1=(7:Int))) (obind (w_0 (b.2.1.2.1,b.2.2.1.2.2.1)) fun b_1=>some (Sum.inl (b_1.1,
 b_1.2.1,b.2.1,b.2.2.2))) (cnd (decide (b.2.2.1.1=(8:Int))) (obind (w_3 (b.2.1.2.1,b.2.2.1.2.2.1)) fun b_1=>some (Sum.inl (b_1.1,
 b_1.2,b.2.1,b.2.2.2))) (cnd (decide (b.2.2.1.1=(9:Int))) (obind (w_1 (b.2.1.2.1,b.2.2.1.2.2.1,b.2.2.1.2.2.2.1)) fun b_1=>some
 (Sum.inl (b_1.1,b_1.2,b.2.1,b.2.2.2))) (some (Sum.inr ((1:Int),b.2.1)))))) fun(b:List (Int×List UInt8×Bool)×Bool×(List A0_×A1_)×List A0_×List (Int×List UInt8×Bool)×List (List UInt8)×Int×List (List Int)×List (List (List Int×Int))⊕Int×List A0_×A1_)=>selim (fun(b:List (Int×List UInt8×Bool)×Bool×(List A0_×A1_)×List A0_×A1_)=>cnd
 (!b.2.1) (some ((3:Int),b.2.2.1)) (some ((0:Int),b.2.2.1.1,b.1,b.2.2.1.2.2))) (fun(c:Int×List A0_×A1_)=>some c) b))))
theorem q_i:∀w_a5 w_aZ w_l w_0 w_aS w_3 w_1 N x,u_i.F L0 P0 (orcOf [u_a5.con w_a5,u_aZ.con w_aZ,u_l.con w_l,u_0.con w_0,u_aS.con w_aS,u_3.con w_3,u_1.con w_1]) N x=V_i w_a5 w_aZ w_l w_0 w_aS w_3 w_1 N x:=by intros;kernel_rfl
noncomputable def W_i (N:Nat):=V_i (W_a5 N) (W_aZ N) (W_l N) (W_0 N) (W_aS N) (W_3 N) (W_1 N) N
theorem con_i_ok (N:Nat):(u_i.con (W_i N)).ok P0:=Uf.ok mixed (q_i (W_a5 N) (W_aZ N) (W_l N) (W_0 N) (W_aS N) (W_3 N) (W_1 N) N) ⟨con_a5_ok N,con_aZ_ok N,con_l_ok N,con_0_ok N,con_aS_ok N,con_3_ok N,con_1_ok N,trivial⟩ Tryz.func22 (by kernel_rfl) fun x y=>by kernel_rfl
noncomputable def u_F:Uf:=⟨49,15,Tryz.f49,[.val (.agg T6_)],[],
⟨[(2,.val (.alt 106 (.agg T6_) (.alt 136 (.agg T6_) (.alt1 137 (.agg .unit)))))],[]⟩,[],
[],
[],fun y=>(valW (.alt 106 (.agg T6_) (.alt 136 (.agg T6_) (.alt1 137 (.agg .unit)))) y,[],[])⟩
noncomputable def V_F (N:Nat) (x:Int×A6_):Option ((Int×A6_)⊕((Int×A6_)⊕Unit)):=
 cnd (decide (x.1=(1:Int))) (some (Sum.inr (Sum.inl x))) (cnd (decide (x.1=(2:Int))) (some (Sum.inl x)) (some (Sum.inr (Sum.inr ()))))
theorem q_F:∀N x,u_F.F L0 P0 (orcOf []) N x=V_F N x:=by intros;kernel_rfl
noncomputable def W_F (N:Nat):=V_F N
theorem con_F_ok (N:Nat):(u_F.con (W_F N)).ok P0:=Uf.ok mixed (q_F N) trivial Tryz.func49 (by kernel_rfl) fun x y=>by kernel_rfl
noncomputable def u_a8:Uf:=⟨71,66,Tryz.f71,[.val (.agg T6_)],[],
⟨[(2,.val .bool)],[]⟩,[],
[],
[(1000001,.reg [(10,[],⟨[(1,.ptr 600001 0),(17,.val .bool)],[(600001,.box 52 (.val T6_))]⟩)]),
(1000006,.reg [(11,[],⟨[(4,.ptr 600004 0),(41,.val .bool)],[(600004,.box 136 (.val T6_))]⟩)])],fun y=>(valW .bool y,[],[])⟩
noncomputable def V_a8 (w_F:Int×A6_→Option ((Int×A6_)⊕((Int×A6_)⊕Unit))) (N:Nat) (x:Int×A6_):Option (Bool):=
 obind (cnd (decide (x.2.1<(1:Int))) (some (true,x)) (some (decide (x.2.2.1<x.2.1),x))) fun(b:Bool×Int×A6_)=>
 cnd b.1 (some false) (cnd (decide ((1000000:Int)<b.2.2.2.1)) (some false) (obind (w_F b.2) fun b=>selim (fun(b_1:Int×A6_)=>selim (fun(b:Int×A6_)=>cnd (b.2.2.2.1==[]) (cnd (decide (b.2.2.2.2=(1:Int))) (some true)
 (some (decide (b.2.2.2.2=(2:Int))))) (some false)) (fun(c:Int×Int×Int×List UInt8×Int⊕PUnit)=>selim (fun(b:Int×A6_)=>some false) (fun(c:PUnit)=>some false) c) b) (fun(c:Int×Int×Int×List UInt8×Int⊕PUnit)=>selim (fun(b:Int×A6_)=>obind (cnd (decide (b.2.2.1=b.2.1)) (some (decide ((↑(List.length b.2.2.2.1):Int)≤(12:Int)),b)) (some (false,
 b))) fun(b:Bool×Int×A6_)=>cnd b.1 (some (decide (b.2.2.2.2.2=(0:Int)))) (some false)) (fun(c:PUnit)=>selim
 (fun(b:Int×A6_)=>cnd (b.2.2.2.1==[]) (cnd (decide (b.2.2.2.2=(1:Int))) (some true) (some (decide (b.2.2.2.2=
 (2:Int))))) (some false)) (fun(c:Int×Int×Int×List UInt8×Int⊕PUnit)=>selim (fun(b:Int×A6_)=>some
 false) (fun(c:PUnit)=>some false) c) b) c) b))
theorem q_a8:∀w_F N x,u_a8.F L0 P0 (orcOf [u_F.con w_F]) N x=V_a8 w_F N x:=by intros;kernel_rfl
noncomputable def W_a8 (N:Nat):=V_a8 (W_F N) N
theorem con_a8_ok (N:Nat):(u_a8.con (W_a8 N)).ok P0:=Uf.ok mixed (q_a8 (W_F N) N) ⟨con_F_ok N,trivial⟩ Tryz.func71 (by kernel_rfl) fun x y=>by kernel_rfl
noncomputable def u_av:Uf:=⟨50,30,Tryz.f50,[.val (.list (.agg T6_)),.val (.int .i64)],[],
⟨[(4,.val .bool)],[]⟩,[],
[(5,.loop [11] ⟨[(5,.val (.int .i64)),(13,.val (.int .i64))],[]⟩ [(.exit 0,⟨[],[]⟩),(.ret,⟨[(4,.val .bool)],[]⟩)])],
[],fun y=>(valW .bool y,[],[])⟩
noncomputable def V_av (w_a8:Int×A6_→Option (Bool)) (N:Nat) (x:List (Int×A6_)×Int):Option (Bool):=
 cnd (decide (x.2<(1:Int))) (some false) (obind (loopN N (fun(v:Int×Int)=>cnd (decide (v.2<(↑(List.length x.1):Int))) (cnd (decide
 ((0:Int)≤v.2)&&decide (v.2<(↑(List.length x.1):Int))) (obind (w_a8 (List.getD x.1 (Int.toNat v.2) ((0:Int),(0:Int),(0:Int),[],
 (0:Int)))) fun b=>cnd (!b) (some (Sum.inr (Sum.inr false))) (cnd (decide (Prod.fst (Prod.snd (List.getD x.1 (Int.toNat v.2) ((0:Int),(0:Int),
 (0:Int),[],(0:Int))))≠v.1)) (some (Sum.inr (Sum.inr false))) (some (Sum.inl (wr .i64 (Prod.fst (Prod.snd (Prod.snd (List.getD x.1 (Int.toNat
 v.2) ((0:Int),(0:Int),(0:Int),[],(0:Int)))))+(1:Int)),wr .i64 (v.2+(1:Int))))))) none) (some (Sum.inr (Sum.inl ())))) (x.2,(0:Int))) fun
 (b:PUnit⊕Bool)=>selim (fun(b:PUnit)=>some true) (fun(c:Bool)=>some c) b)
theorem q_av:∀w_a8 N x,u_av.F L0 P0 (orcOf [u_a8.con w_a8]) N x=V_av w_a8 N x:=by intros;kernel_rfl
noncomputable def W_av (N:Nat):=V_av (W_a8 N) N
theorem con_av_ok (N:Nat):(u_av.con (W_av N)).ok P0:=Uf.ok mixed (q_av (W_a8 N) N) ⟨con_a8_ok N,trivial⟩ Tryz.func50 (by kernel_rfl) fun x y=>by kernel_rfl
noncomputable def u_au:Uf:=⟨51,17,Tryz.f51,[.val (.list (.agg T6_)),.val (.int .i64)],[],
⟨[(4,.val (.int .i64))],[]⟩,[],
[],
[],fun y=>(valW (.int .i64) y,[],[])⟩
noncomputable def V_au (N:Nat) (x:List (Int×A6_)×Int):Option (Int):=
 cnd (decide ((↑(List.length x.1):Int)=(0:Int))) (some x.2) (cnd (decide ((0:Int)≤wr .i64 ((↑(List.length x.1):Int)-(1:Int)))&&decide (wr
 .i64 ((↑(List.length x.1):Int)-(1:Int))<(↑(List.length x.1):Int))) (some (wr .i64 (Prod.fst (Prod.snd (Prod.snd (List.getD x.1 (Int.toNat
 (wr .i64 ((↑(List.length x.1):Int)-(1:Int)))) ((0:Int),(0:Int),(0:Int),[],(0:Int)))))+(1:Int)))) none)
theorem q_au:∀N x,u_au.F L0 P0 (orcOf []) N x=V_au N x:=by intros;kernel_rfl
noncomputable def W_au (N:Nat):=V_au N
theorem con_au_ok (N:Nat):(u_au.con (W_au N)).ok P0:=Uf.ok mixed (q_au N) trivial Tryz.func51 (by kernel_rfl) fun x y=>by kernel_rfl
noncomputable def u_aK:Uf:=⟨29,37,Tryz.f29,[.val (.agg T3_),.val (.int .i64)],[],
⟨[(4,.val .bool)],[]⟩,[],
[],
[],fun y=>(valW .bool y,[],[])⟩
noncomputable def V_aK (w_av:List (Int×A6_)×Int→Option (Bool)) (w_au:List (Int×A6_)×Int→Option (Int)) (N:Nat) (x:A3_×Int):Option (Bool):=
 cnd (decide (x.1.1<(1:Int))) (some false) (cnd (decide (x.2<x.1.1)) (some false) (cnd (decide ((↑(List.length x.1.2.2.2.2.1):Int)=(0:Int)))
 (some true) (cnd (decide ((0:Int)≤(0:Int))&&decide ((0:Int)<(↑(List.length x.1.2.2.2.2.1):Int))) (obind (w_av (x.1.2.2.2.2.1,
 Prod.fst (Prod.snd (List.getD x.1.2.2.2.2.1 (0:Nat) ((0:Int),(0:Int),(0:Int),[],(0:Int)))))) fun b=>cnd b (obind (w_au (x.1.2.2.2.2.1,
 Prod.fst (Prod.snd (List.getD x.1.2.2.2.2.1 (0:Nat) ((0:Int),(0:Int),(0:Int),[],(0:Int)))))) fun b=>some (decide (b=x.1.1))) (some false))
 none)))
theorem q_aK:∀w_av w_au N x,u_aK.F L0 P0 (orcOf [u_av.con w_av,u_au.con w_au]) N x=V_aK w_av w_au N x:=by intros;kernel_rfl
noncomputable def W_aK (N:Nat):=V_aK (W_av N) (W_au N) N
theorem con_aK_ok (N:Nat):(u_aK.con (W_aK N)).ok P0:=Uf.ok mixed (q_aK (W_av N) (W_au N) N) ⟨con_av_ok N,con_au_ok N,trivial⟩ Tryz.func29 (by kernel_rfl) fun x y=>by kernel_rfl
noncomputable def u_r:Uf:=⟨11,31,Tryz.f11,[.val (.agg T2_)],[],
⟨[(2,.val .bool)],[]⟩,[],
[(2,.loop [6] ⟨[(1,.ptr 600001 0),(8,.val (.int .i64))],[(600001,.box 32 (.val T2_))]⟩ [(.exit 0,⟨[],[]⟩),(.ret,⟨[(2,.val .bool)],[]⟩)])],
[(1000004,.reg [(8,[6],⟨[(1,.ptr 600001 0),(4,.ptr 600004 0),(19,.val .bool)],[(600001,.box 32 (.val T2_)),(600004,.box 48 (.val T0_))]⟩)])],fun y=>(valW .bool y,[],[])⟩
noncomputable def V_r (w_aK:A3_×Int→Option (Bool)) (N:Nat) (x:List A0_×A1_):Option (Bool):=
 obind (loopN N (fun(v:Int×List A0_×A1_)=>cnd (decide (v.1<(↑(List.length x.1)
 : Int))) (cnd (decide ((0:Int)≤v.1)&&decide (v.1<(↑(List.length x.1):Int))) (obind (cnd (Prod.fst (List.getD x.1 (Int.toNat v.1) (false,
 (0:Int),[],((0:Int),(0:Int),(0:Int),(0:Int),(0:Int),(0:Int),[],(0:Int),(0:Int),(0:Int),(0:Int),(0:Int),[]),((0:Int),(0:Int),[],[],
 [],(0:Int),(0:Int)),(0:Int)))) (some (decide (Prod.fst (Prod.fst (Prod.snd (Prod.snd (Prod.snd (Prod.snd (List.getD x.1 (Int.toNat v.1) (false,
 (0:Int),[],((0:Int),(0:Int),(0:Int),(0:Int),(0:Int),(0:Int),[],(0:Int),(0:Int),(0:Int),(0:Int),(0:Int),[]),((0:Int),(0:Int),[],[],
 [],(0:Int),(0:Int)),(0:Int))))))))≠(0:Int)),v.2,List.getD x.1 (Int.toNat v.1) (false,(0:Int),[],((0:Int),(0:Int),(0:Int),(0:Int),
 (0:Int),(0:Int),[],(0:Int),(0:Int),(0:Int),(0:Int),(0:Int),[]),((0:Int),(0:Int),[],[],[],(0:Int),(0:Int)),(0:Int)))) (some (false,
 v.2,List.getD x.1 (Int.toNat v.1) (false,(0:Int),[],((0:Int),(0:Int),(0:Int),(0:Int),(0:Int),(0:Int),[],(0:Int),(0:Int),(0:Int),
 (0:Int),(0:Int),[]),((0:Int),(0:Int),[],[],[],(0:Int),(0:Int)),(0:Int))))) fun(b:Bool×(List A0_×A1_)×A0_)=>
 cnd b.1 (obind (w_aK (b.2.2.2.2.2.2.1,castX (e:=.int .i64) (e':=.int .i64) rfl (wr .i64 ((↑(List.length b.2.1.2.2.1):Int) +
 (1:Int))))) fun b_1=>cnd (!b_1) (some (Sum.inr (Sum.inr false))) (some (Sum.inl (wr .i64 (v.1+(1:Int)),b.2.1)))) (some (Sum.inl (wr .i64 (v.1 +
 (1:Int)),b.2.1)))) none) (some (Sum.inr (Sum.inl ())))) ((0:Int),x)) fun(b:PUnit⊕Bool)=>selim (fun(b:PUnit)=>some true) (fun(c:
 Bool)=>some c) b
theorem q_r:∀w_aK N x,u_r.F L0 P0 (orcOf [u_aK.con w_aK]) N x=V_r w_aK N x:=by intros;kernel_rfl
noncomputable def W_r (N:Nat):=V_r (W_aK N) N
theorem con_r_ok (N:Nat):(u_r.con (W_r N)).ok P0:=Uf.ok mixed (q_r (W_aK N) N) ⟨con_aK_ok N,trivial⟩ Tryz.func11 (by kernel_rfl) fun x y=>by kernel_rfl
noncomputable def u_bb:Uf:=⟨32,14,Tryz.f32,[.val (.agg T6_)],[],
⟨[(2,.val (.alt 81 T9_ (.alt1 109 (.agg .unit))))],[]⟩,[],
[],
[],fun y=>(valW (.alt 81 T9_ (.alt1 109 (.agg .unit))) y,[],[])⟩
noncomputable def V_bb (N:Nat) (x:Int×A6_):Option ((Int×List UInt8)⊕Unit):=
 cnd (decide (x.1=(1:Int))) (some (Sum.inl (x.2.1,x.2.2.2.1))) (some (Sum.inr ()))
theorem q_bb:∀N x,u_bb.F L0 P0 (orcOf []) N x=V_bb N x:=by intros;kernel_rfl
noncomputable def W_bb (N:Nat):=V_bb N
theorem con_bb_ok (N:Nat):(u_bb.con (W_bb N)).ok P0:=Uf.ok mixed (q_bb N) trivial Tryz.func32 (by kernel_rfl) fun x y=>by kernel_rfl
noncomputable def u_s:Uf:=⟨13,58,Tryz.f13,[.val (.agg T2_)],[],
⟨[(2,.val .bool)],[]⟩,[],
[(5,.loop [10,18] ⟨[(1,.ptr 600001 0),(20,.val (.int .i64))],[(600001,.box 32 (.val T2_))]⟩ [(.exit 2,⟨[(1,.ptr 600001 0)],[(600001,.box 32 (.val T2_))]⟩),(.ret,⟨[(2,.val .bool)],[]⟩)]),
(2,.loop [10] ⟨[(1,.ptr 600001 0),(12,.val (.int .i64))],[(600001,.box 32 (.val T2_))]⟩ [(.exit 0,⟨[],[]⟩),(.ret,⟨[(2,.val .bool)],[]⟩)])],
[],fun y=>(valW .bool y,[],[])⟩
noncomputable def V_s (w_bb:Int×A6_→Option ((Int×List UInt8)⊕Unit)) (N:Nat) (x:List A0_×A1_):Option (Bool):=
 obind (loopN N (fun(v:Int×List A0_×A1_)=>cnd (decide (v.1<(↑(List.length x.1)
 : Int))) (cnd (decide ((0:Int)≤v.1)&&decide (v.1<(↑(List.length x.1):Int))) (obind (loopN N (fun(v_1:Int×List A0_×A1_)=>cnd (decide (v_1.1<(↑(List.length (Prod.fst (Prod.snd (Prod.snd (Prod.snd (Prod.snd (Prod.fst
 (Prod.snd (Prod.snd (Prod.snd (Prod.snd (List.getD x.1 (Int.toNat v.1) (false,(0:Int),[],((0:Int),(0:Int),(0:Int),(0:Int),(0:Int),(0:Int),
 [],(0:Int),(0:Int),(0:Int),(0:Int),(0:Int),[]),((0:Int),(0:Int),[],[],[],(0:Int),(0:Int)),(0:Int)))))))))))))):Int))) (cnd (decide
 ((0:Int)≤v_1.1)&&decide (v_1.1<(↑(List.length (Prod.fst (Prod.snd (Prod.snd (Prod.snd (Prod.snd (Prod.fst (Prod.snd (Prod.snd (Prod.snd
 (Prod.snd (List.getD x.1 (Int.toNat v.1) (false,(0:Int),[],((0:Int),(0:Int),(0:Int),(0:Int),(0:Int),(0:Int),[],(0:Int),(0:Int),(0:Int),
 (0:Int),(0:Int),[]),((0:Int),(0:Int),[],[],[],(0:Int),(0:Int)),(0:Int)))))))))))))):Int))) (obind (w_bb (List.getD (Prod.fst
 (Prod.snd (Prod.snd (Prod.snd (Prod.snd (Prod.fst (Prod.snd (Prod.snd (Prod.snd (Prod.snd (List.getD x.1 (Int.toNat v.1) (false,(0:Int),[],
 ((0:Int),(0:Int),(0:Int),(0:Int),(0:Int),(0:Int),[],(0:Int),(0:Int),(0:Int),(0:Int),(0:Int),[]),((0:Int),(0:Int),[],[],[],(0:Int),
 (0:Int)),(0:Int))))))))))))) (Int.toNat v_1.1) ((0:Int),(0:Int),(0:Int),[],(0:Int)))) fun b=>selim (fun(b:Int×List UInt8)=>cnd (decide
 (b.1<(1:Int))) (some (Sum.inr (Sum.inr false))) (cnd (decide ((↑(List.length v_1.2.2.2.1):Int)<b.1)) (some (Sum.inr (Sum.inr false))) (cnd
 (decide ((0:Int)≤wr .i64 (b.1-(1:Int)))&&decide (wr .i64 (b.1-(1:Int))<(↑(List.length v_1.2.2.2.1):Int))) (cnd (!b.2==List.getD
 v_1.2.2.2.1 (Int.toNat (wr .i64 (b.1-(1:Int)))) []) (some (Sum.inr (Sum.inr false))) (some (Sum.inl (wr .i64 (v_1.1+(1:Int)),v_1.2)))) none)))
 (fun(c:PUnit)=>some (Sum.inl (wr .i64 (v_1.1+(1:Int)),v_1.2))) b) none) (some (Sum.inr (Sum.inl v_1.2)))) ((0:Int),v.2)) fun(b:List A0_×List (Int×List UInt8×Bool)×List (List UInt8)×Int×List (List Int)×List (List (List Int×Int))⊕Bool)=>selim (fun(b:List A0_×A1_)=>some (Sum.inl (wr .i64 (v.1+(1:Int)),b))) (fun(c:Bool)=>some (Sum.inr (Sum.inr c))) b) none) (some (Sum.inr
 (Sum.inl ())))) ((0:Int),x)) fun(b:PUnit⊕Bool)=>selim (fun(b:PUnit)=>some true) (fun(c:Bool)=>some c) b
theorem q_s:∀w_bb N x,u_s.F L0 P0 (orcOf [u_bb.con w_bb]) N x=V_s w_bb N x:=by intros;kernel_rfl
noncomputable def W_s (N:Nat):=V_s (W_bb N) N
theorem con_s_ok (N:Nat):(u_s.con (W_s N)).ok P0:=Uf.ok mixed (q_s (W_bb N) N) ⟨con_bb_ok N,trivial⟩ Tryz.func13 (by kernel_rfl) fun x y=>by kernel_rfl
noncomputable def u_a7:Uf:=⟨33,33,Tryz.f33,[.val (.agg T2_)],[],
⟨[(2,.val (.list (.int .i64))),(3,.val (.list .bool))],[]⟩,[],
[(4,.loop [10] ⟨[(4,.acc 700004),(5,.acc 700005),(12,.val (.int .i64))],[(700004,.nrow 3 (.int .i64) true true),(700005,.nrow 4 .bool true true)]⟩ [(.exit 0,⟨[(4,.val (.list (.int .i64))),(5,.val (.list .bool))],[]⟩)])],
[(9,.cut [10] [(.normal,⟨[(4,.acc 700004),(5,.acc 700005),(7,.ptr 600007 0),(8,.val (.int .i64))],[(700004,.nrow 3 (.int .i64) true true),(700005,.nrow 4 .bool true true),(600007,.box 48 (.val T0_))]⟩)])],fun y=>(.tup [valW (.list (.int .i64)) y.1,valW (.list .bool) y.2],[],[])⟩
noncomputable def V_a7 (N:Nat) (x:List A0_×A1_):Option (List Int×List Bool):=
 obind (loopN N (fun(v:Int×List Int×List Bool)=>cnd (decide (v.1<(↑(List.length x.1):Int))) (cnd (decide ((0:Int)≤v.1)&&decide (v.1 <
 (↑(List.length x.1):Int))) (obind (cnd (Prod.fst (List.getD x.1 (Int.toNat v.1) (false,(0:Int),[],((0:Int),(0:Int),(0:Int),(0:Int),(0:Int),
 (0:Int),[],(0:Int),(0:Int),(0:Int),(0:Int),(0:Int),[]),((0:Int),(0:Int),[],[],[],(0:Int),(0:Int)),(0:Int)))) (some (Prod.fst
 (Prod.snd (Prod.snd (Prod.snd (Prod.fst (Prod.snd (Prod.snd (Prod.snd (List.getD x.1 (Int.toNat v.1) (false,(0:Int),[],((0:Int),(0:Int),
 (0:Int),(0:Int),(0:Int),(0:Int),[],(0:Int),(0:Int),(0:Int),(0:Int),(0:Int),[]),((0:Int),(0:Int),[],[],[],(0:Int),(0:Int)),
 (0:Int)))))))))),v.2.1,v.2.2,List.getD x.1 (Int.toNat v.1) (false,(0:Int),[],((0:Int),(0:Int),(0:Int),(0:Int),(0:Int),(0:Int),[],
 (0:Int),(0:Int),(0:Int),(0:Int),(0:Int),[]),((0:Int),(0:Int),[],[],[],(0:Int),(0:Int)),(0:Int)))) (some ((0:Int),v.2.1,v.2.2,
 List.getD x.1 (Int.toNat v.1) (false,(0:Int),[],((0:Int),(0:Int),(0:Int),(0:Int),(0:Int),(0:Int),[],(0:Int),(0:Int),(0:Int),(0:Int),
 (0:Int),[]),((0:Int),(0:Int),[],[],[],(0:Int),(0:Int)),(0:Int))))) fun(b:Int×List Int×List Bool×A0_)=>cnd (decide ((List.length b.2.1+List.length [b.1])*(8:Nat) ≤
 (140737488355328:Nat))) (cnd (decide ((List.length b.2.2.1+List.length [b.2.2.2.1])*(1:Nat)≤(140737488355328:Nat))) (some (Sum.inl (wr .i64
 (v.1+(1:Int)),b.2.1++[b.1],b.2.2.1++[b.2.2.2.1]))) none) none) none) (some (Sum.inr v.2))) ((0:Int),[],[])) fun(b:List Int×List Bool)
 => some b
theorem q_a7:∀N x,u_a7.F L0 P0 (orcOf []) N x=V_a7 N x:=by intros;kernel_rfl
noncomputable def W_a7 (N:Nat):=V_a7 N
theorem con_a7_ok (N:Nat):(u_a7.con (W_a7 N)).ok P0:=Uf.ok mixed (q_a7 N) trivial Tryz.func33 (by kernel_rfl) fun x y=>by kernel_rfl
noncomputable def u_ac:Uf:=⟨52,21,Tryz.f52,[.val (.list (.int .i64)),.val (.int .i64)],[],
⟨[(4,.val (.alt 110 (.int .i64) (.alt1 139 (.agg .unit))))],[]⟩,[],
[],
[],fun y=>(valW (.alt 110 (.int .i64) (.alt1 139 (.agg .unit))) y,[],[])⟩
noncomputable def V_ac (N:Nat) (x:List Int×Int):Option (Int⊕Unit):=
 cnd (decide (x.2<(1:Int))) (some (Sum.inr ())) (cnd (decide ((↑(List.length x.1):Int)<x.2)) (some (Sum.inr ())) (cnd (decide ((0:Int)≤wr .i64
 (x.2-(1:Int)))&&decide (wr .i64 (x.2-(1:Int))<(↑(List.length x.1):Int))) (some (Sum.inl (List.getD x.1 (Int.toNat (wr .i64 (x.2 -
 (1:Int)))) (0:Int)))) none))
theorem q_ac:∀N x,u_ac.F L0 P0 (orcOf []) N x=V_ac N x:=by intros;kernel_rfl
noncomputable def W_ac (N:Nat):=V_ac N
theorem con_ac_ok (N:Nat):(u_ac.con (W_ac N)).ok P0:=Uf.ok mixed (q_ac N) trivial Tryz.func52 (by kernel_rfl) fun x y=>by kernel_rfl
noncomputable def u_ad:Uf:=⟨34,46,Tryz.f34,[.val (.list (.int .i64)),.val (.int .i64)],[],
⟨[(4,.val (.list (.int .i64)))],[]⟩,[],
[(4,.loop [] ⟨[(5,.acc 700005),(6,.acc 700013),(7,.val (.int .i64))],[(700005,.nrow 3 (.int .i64) true true),(700013,.nrow 3 (.int .i64) false false)]⟩ [(.ret,⟨[(4,.val (.list (.int .i64)))],[]⟩)])],
[],fun y=>(valW (.list (.int .i64)) y,[],[])⟩
noncomputable def V_ad (w_ac:List Int×Int→Option (Int⊕Unit)) (N:Nat) (x:List Int×Int):Option (List Int):=
 cnd (decide ((0:Int)≤(↑(List.length x.1):Int))) (cnd (decide ((↑(List.length x.1):Int)≤(↑(List.length x.1):Int))) (cnd (decide ((↑(8:Nat):
 Int)*(↑(List.length x.1):Int)≤(140737488355328:Int))) (cnd (decide ((↑(List.length x.1):Int)≤(9223372036854775807:Int))) (obind (loopN N
 (fun(v:Int×List Int×List Int)=>obind (w_ac (x.1,v.1)) fun b=>selim (fun(b:Int)=>cnd (decide ((0:Int)≤wr .i64 (v.1 -
 (1:Int)))&&decide (wr .i64 (v.1-(1:Int))<(↑(List.length v.2.2):Int))) (cnd (decide ((0:Int)<List.getD v.2.2 (Int.toNat (wr .i64 (v.1 -
 (1:Int)))) (0:Int))) (cnd (decide ((0:Int)≤Option.getD (some (wr .i64 (List.getD v.2.2 (Int.toNat (wr .i64 (v.1-(1:Int)))) (0:Int)-(1:Int))))
 (0:Int))) (cnd (decide (Option.getD (some (wr .i64 (List.getD v.2.2 (Int.toNat (wr .i64 (v.1-(1:Int)))) (0:Int)-(1:Int)))) (0:Int) ≤
 (↑(List.length v.2.1):Int))) (some (Sum.inr (List.drop ((0:Nat)+Prod.fst (Prod.snd (cutT (0:Nat) (List.length v.2.1) (List.length v.2.1) (some
 (wr .i64 (List.getD v.2.2 (Int.toNat (wr .i64 (v.1-(1:Int)))) (0:Int)-(1:Int)))) none))) (List.take ((0:Nat)+Prod.fst (Prod.snd (cutT (0:Nat)
 (List.length v.2.1) (List.length v.2.1) (some (wr .i64 (List.getD v.2.2 (Int.toNat (wr .i64 (v.1-(1:Int)))) (0:Int)-(1:Int)))) none)) +
 (Prod.snd (Prod.snd (cutT (0:Nat) (List.length v.2.1) (List.length v.2.1) (some (wr .i64 (List.getD v.2.2 (Int.toNat (wr .i64 (v.1-(1:Int))))
 (0:Int)-(1:Int)))) none))-Prod.fst (Prod.snd (cutT (0:Nat) (List.length v.2.1) (List.length v.2.1) (some (wr .i64 (List.getD v.2.2 (Int.toNat
 (wr .i64 (v.1-(1:Int)))) (0:Int)-(1:Int)))) none)))) v.2.1)))) none) none) (cnd (decide ((List.length v.2.1+List.length [v.1])*(8:Nat) ≤
 (140737488355328:Nat))) (cnd (decide ((0:Int)≤wr .i64 (v.1-(1:Int)))&&decide (wr .i64 (v.1-(1:Int))<(↑(List.length v.2.2):Int))) (some
 (Sum.inl (b,v.2.1++[v.1],putL v.2.2 [(↑(List.length (v.2.1++[v.1])):Int)] (Int.toNat (wr .i64 (v.1-(1:Int))))))) none) none)) none) (fun
 (c:PUnit)=>some (Sum.inr [])) b) (x.2,[],List.replicate (Int.toNat (↑(List.length x.1):Int)) (0:Int))) fun(b:List Int)=>some b) none)
 none) none) none
theorem q_ad:∀w_ac N x,u_ad.F L0 P0 (orcOf [u_ac.con w_ac]) N x=V_ad w_ac N x:=by intros;kernel_rfl
noncomputable def W_ad (N:Nat):=V_ad (W_ac N) N
theorem con_ad_ok (N:Nat):(u_ad.con (W_ad N)).ok P0:=Uf.ok mixed (q_ad (W_ac N) N) ⟨con_ac_ok N,trivial⟩ Tryz.func34 (by kernel_rfl) fun x y=>by kernel_rfl
noncomputable def u_v:Uf:=⟨16,26,Tryz.f16,[.val (.agg T2_)],[],
⟨[(2,.val (.list (.int .i64)))],[]⟩,[],
[(3,.loop [3] ⟨[(14,.val (.int .i64))],[]⟩ [(.exit 0,⟨[],[]⟩),(.ret,⟨[(2,.val (.list (.int .i64)))],[]⟩)])],
[],fun y=>(valW (.list (.int .i64)) y,[],[])⟩
noncomputable def V_v (w_a7:List A0_×A1_→Option (List Int×List Bool)) (w_ad:List Int×Int→Option (List Int)) (N:Nat) (x:List A0_×A1_):Option (List Int):=
 obind (w_a7 x) fun b=>obind (loopN N (fun(v:Int)=>cnd (decide (v<(↑(List.length b.1):Int))) (obind (w_ad (b.1,wr .i64 (v
 + (1:Int)))) fun b=>cnd (decide ((0:Int)<(↑(List.length b):Int))) (some (Sum.inr (Sum.inr b))) (some (Sum.inl (wr .i64 (v+(1:Int)))))) (some
 (Sum.inr (Sum.inl ())))) (Int.ofNat (0:Nat))) fun(b:PUnit⊕List Int)=>selim (fun(b:PUnit)=>some []) (fun(c:List Int)=>some c) b
theorem q_v:∀w_a7 w_ad N x,u_v.F L0 P0 (orcOf [u_a7.con w_a7,u_ad.con w_ad]) N x=V_v w_a7 w_ad N x:=by intros;kernel_rfl
noncomputable def W_v (N:Nat):=V_v (W_a7 N) (W_ad N) N
theorem con_v_ok (N:Nat):(u_v.con (W_v N)).ok P0:=Uf.ok mixed (q_v (W_a7 N) (W_ad N) N) ⟨con_a7_ok N,con_ad_ok N,trivial⟩ Tryz.func16 (by kernel_rfl) fun x y=>by kernel_rfl
noncomputable def u_a6:Uf:=⟨28,56,Tryz.f28,[.val (.list (.agg T6_))],[],
⟨[(2,.val (.list (.agg T5_)))],[]⟩,[],
[(3,.loop [9] ⟨[(3,.acc 700003),(11,.val (.int .i64))],[(700003,.nrow 76 (.agg T5_) false true)]⟩ [(.exit 0,⟨[(3,.val (.list (.agg T5_)))],[]⟩)])],
[],fun y=>(valW (.list (.agg T5_)) y,[],[])⟩
noncomputable def V_a6 (w_F:Int×A6_→Option ((Int×A6_)⊕((Int×A6_)⊕Unit))) (N:Nat) (x:List (Int×A6_)):Option (List (Int×Int)):=
 obind (loopN N (fun(v:Int×List (Int×Int))=>cnd (decide (v.1<(↑(List.length x):Int))) (cnd (decide ((0:Int)≤v.1)&&decide (v.1 <
 (↑(List.length x):Int))) (obind (w_F (List.getD x (Int.toNat v.1) ((0:Int),(0:Int),(0:Int),[],(0:Int)))) fun b=>selim (fun(b:Int×A6_)=>cnd (decide ((0:Int)<(↑(List.length v.2):Int))) (cnd (decide ((0:Int)≤wr .i64 ((↑(List.length v.2):Int) -
 (1:Int)))&&decide (wr .i64 ((↑(List.length v.2):Int)-(1:Int))<(↑(List.length v.2):Int))) (cnd (decide (wr .i64 (Prod.snd (List.getD v.2
 (Int.toNat (wr .i64 ((↑(List.length v.2):Int)-(1:Int)))) ((0:Int),(0:Int)))+(1:Int))=b.2.1)) (cnd (decide ((0:Int)≤wr .i64
 ((↑(List.length v.2):Int)-(1:Int)))&&decide (wr .i64 ((↑(List.length v.2):Int)-(1:Int))<(↑(List.length v.2):Int))) (some (Sum.inl (wr
 .i64 (v.1+(1:Int)),putL v.2 [(Prod.fst (List.getD v.2 (Int.toNat (wr .i64 ((↑(List.length v.2):Int)-(1:Int)))) ((0:Int),(0:Int))),b.2.2.1)]
 (Int.toNat (wr .i64 ((↑(List.length v.2):Int)-(1:Int))))))) none) (cnd (decide ((List.length v.2+List.length [(b.2.1,b.2.2.1)])*(16:Nat) ≤
 (140737488355328:Nat))) (some (Sum.inl (wr .i64 (v.1+(1:Int)),v.2++[(b.2.1,b.2.2.1)]))) none)) none) (cnd (decide ((List.length v.2 +
 List.length [(b.2.1,b.2.2.1)])*(16:Nat)≤(140737488355328:Nat))) (some (Sum.inl (wr .i64 (v.1+(1:Int)),v.2++[(b.2.1,b.2.2.1)]))) none))
 (fun(c:Int×Int×Int×List UInt8×Int⊕PUnit)=>selim (fun(b:Int×A6_)=>some (Sum.inl (wr .i64 (v.1 +
 (1:Int)),v.2))) (fun(c:PUnit)=>some (Sum.inl (wr .i64 (v.1+(1:Int)),v.2))) c) b) none) (some (Sum.inr v.2))) ((0:Int),[])) fun(b:List (Int×Int))=>some b
theorem q_a6:∀w_F N x,u_a6.F L0 P0 (orcOf [u_F.con w_F]) N x=V_a6 w_F N x:=by intros;kernel_rfl
noncomputable def W_a6 (N:Nat):=V_a6 (W_F N) N
theorem con_a6_ok (N:Nat):(u_a6.con (W_a6 N)).ok P0:=Uf.ok mixed (q_a6 (W_F N) N) ⟨con_F_ok N,trivial⟩ Tryz.func28 (by kernel_rfl) fun x y=>by kernel_rfl
noncomputable def u_M:Uf:=⟨9,23,Tryz.f9,[.val (.agg T2_),.val (.int .i64)],[],
⟨[(4,.val (.list (.agg T5_)))],[]⟩,[],
[],
[],fun y=>(valW (.list (.agg T5_)) y,[],[])⟩
noncomputable def V_M (w_a6:List (Int×A6_)→Option (List (Int×Int))) (N:Nat) (x:(List A0_×A1_)×Int):Option (List (Int×Int)):=
 cnd (decide (x.2<(1:Int))) (some []) (cnd (decide ((↑(List.length x.1.1):Int)<x.2)) (some []) (cnd (decide ((0:Int)≤wr .i64 (x.2-(1:Int)))
 && decide (wr .i64 (x.2-(1:Int))<(↑(List.length x.1.1):Int))) (obind (w_a6 (Prod.fst (Prod.snd (Prod.snd (Prod.snd (Prod.snd (Prod.fst
 (Prod.snd (Prod.snd (Prod.snd (Prod.snd (List.getD x.1.1 (Int.toNat (wr .i64 (x.2-(1:Int)))) (false,(0:Int),[],((0:Int),(0:Int),(0:Int),
 (0:Int),(0:Int),(0:Int),[],(0:Int),(0:Int),(0:Int),(0:Int),(0:Int),[]),((0:Int),(0:Int),[],[],[],(0:Int),(0:Int)),
 (0:Int)))))))))))))) fun b=>some b) none))
theorem q_M:∀w_a6 N x,u_M.F L0 P0 (orcOf [u_a6.con w_a6]) N x=V_M w_a6 N x:=by intros;kernel_rfl
noncomputable def W_M (N:Nat):=V_M (W_a6 N) N
theorem con_M_ok (N:Nat):(u_M.con (W_M N)).ok P0:=Uf.ok mixed (q_M (W_a6 N) N) ⟨con_a6_ok N,trivial⟩ Tryz.func9 (by kernel_rfl) fun x y=>by kernel_rfl
noncomputable def u_a9:Uf:=⟨5,52,Tryz.f5,[],[],
⟨[(0,.val .bool)],[]⟩,[],
[],
[(1000007,.reg [(6,[],⟨[(3,.ptr 600003 0),(5,.ptr 600005 0),(6,.ptr 600006 0),(29,.val .bool)],[(600003,.box 32 (.val T2_)),(600005,.box 32 (.val T2_)),(600006,.box 32 (.val T2_))]⟩),(5,[],⟨[(3,.ptr 600003 0),(6,.ptr 600006 0),(34,.val .bool)],[(600003,.box 32 (.val T2_)),(600006,.box 32 (.val T2_))]⟩),(5,[],⟨[(3,.ptr 600003 0),(39,.val .bool)],[(600003,.box 32 (.val T2_))]⟩),(6,[],⟨[(3,.ptr 600003 0),(45,.val .bool)],[(600003,.box 32 (.val T2_))]⟩)])],fun y=>(valW .bool y,[],[])⟩
noncomputable def V_a9 (w_X:List Int→Option (List Int×Int)) (w_P:List Int×Int→Option (List (List Int)×List Int×Int)) (w_S:List (List Int)×Int→Option (Bool×List A0_×A1_)) (w_i:(List A0_×A1_)×Int×Int×Int×Int×List UInt8→Option (Int×List A0_×A1_)) (w_r:List A0_×A1_→Option (Bool)) (w_s:List A0_×A1_→Option (Bool)) (w_v:List A0_×A1_→Option (List Int)) (w_M:(List A0_×A1_)×Int→Option (List (Int×Int))) (N:Nat) (x:Unit):Option (Bool):=
 obind (w_X []) fun b=>obind (w_P b) fun b=>obind (w_S (b.1,(2:Int))) fun b=>obind (w_i (b.2,(4:Int),
 (0:Int),(0:Int),(0:Int),[(97:UInt8)])) fun b=>obind (obind (w_r b.2) fun b_1=>cnd b_1 (obind (w_s b.2) fun b_2=>
 some (b_2,b.2,(b.2.1,b.2.2.1,[[(98:UInt8)]],b.2.2.2.2),b.2.1,b.2.2.1,[],b.2.2.2.2)) (some (false,b.2,(b.2.1,b.2.2.1,[[(98:UInt8)]],
 b.2.2.2.2),b.2.1,b.2.2.1,[],b.2.2.2.2))) fun(b:Bool×(List A0_×A1_)×(List A0_×A1_)×List A0_×A1_)=>obind (cnd b.1 (obind (w_s b.2.2.1) fun b_1=>some (!b_1,b.2.1,b.2.2.2)) (some (false,b.2.1,b.2.2.2))) fun(b:Bool×(List A0_×A1_)×List A0_×A1_)=>obind (cnd b.1 (obind (w_r b.2.2) fun b_1=>some (!b_1,b.2.1)) (some (false,b.2.1))) fun(b:Bool×List A0_×A1_)=>obind (cnd b.1 (obind (w_v b.2) fun b_1=>some (decide ((↑(List.length b_1):Int)
 = (0:Int)),b.2)) (some (false,b.2))) fun(b:Bool×List A0_×A1_)=>cnd b.1
 (obind (w_M (b.2,(1:Int))) fun b=>some (decide ((↑(List.length b):Int)=(0:Int)))) (some false)
theorem q_a9:∀w_X w_P w_S w_i w_r w_s w_v w_M N x,u_a9.F L0 P0 (orcOf [u_X.con w_X,u_P.con w_P,u_S.con w_S,u_i.con w_i,u_r.con w_r,u_s.con w_s,u_v.con w_v,u_M.con w_M]) N x=V_a9 w_X w_P w_S w_i w_r w_s w_v w_M N x:=by intros;kernel_rfl
noncomputable def W_a9 (N:Nat):=V_a9 (W_X N) (W_P N) (W_S N) (W_i N) (W_r N) (W_s N) (W_v N) (W_M N) N
theorem con_a9_ok (N:Nat):(u_a9.con (W_a9 N)).ok P0:=Uf.ok mixed (q_a9 (W_X N) (W_P N) (W_S N) (W_i N) (W_r N) (W_s N) (W_v N) (W_M N) N) ⟨con_X_ok N,con_P_ok N,con_S_ok N,con_i_ok N,con_r_ok N,con_s_ok N,con_v_ok N,con_M_ok N,trivial⟩ Tryz.func5 (by kernel_rfl) fun x y=>by kernel_rfl
noncomputable def u_aN:Uf:=⟨27,15,Tryz.f27,[.ptr 0 0],[.box 70 T8_],
⟨[(0,.ptr 1000000 0),(2,.ptr 600002 0)],[(1000000,.box 70 (.val T8_)),(600002,.box 32 (.val T2_))]⟩,[true],
[],
[],fun y=>(valW (.agg T2_) y.2,[.box 70 (cellsW T8_ y.1)],[])⟩
noncomputable def V_aN (w_P:List Int×Int→Option (List (List Int)×List Int×Int)) (w_a:Int×List Int×Int→Option (Int×List Int×Int)) (w_S:List (List Int)×Int→Option (Bool×List A0_×A1_)) (N:Nat) (x:List Int×Int):Option ((List Int×Int)×List A0_×A1_):=
 obind (w_P x) fun b=>obind (w_a ((3:Int),b.2)) fun b_1=>obind (w_S (b.1,wr .i64 ((1:Int)+b_1.1))) fun b=>some (b_1.2,b.2)
theorem q_aN:∀w_P w_a w_S N x,u_aN.F L0 P0 (orcOf [u_P.con w_P,u_a.con w_a,u_S.con w_S]) N x=V_aN w_P w_a w_S N x:=by intros;kernel_rfl
noncomputable def W_aN (N:Nat):=V_aN (W_P N) (W_a N) (W_S N) N
theorem con_aN_ok (N:Nat):(u_aN.con (W_aN N)).ok P0:=Uf.ok mixed (q_aN (W_P N) (W_a N) (W_S N) N) ⟨con_P_ok N,con_a_ok N,con_S_ok N,trivial⟩ Tryz.func27 (by kernel_rfl) fun x y=>by kernel_rfl
noncomputable def u_A:Uf:=⟨25,43,Tryz.f25,[.val (.agg T2_)],[],
⟨[(2,.ptr 600002 0)],[(600002,.box 32 (.val T2_))]⟩,[],
[(2,.loop [] ⟨[(1,.ptr 600001 0),(2,.ptr 600002 0),(3,.val (.int .i64))],[(600001,.box 32 (.val T2_)),(600002,.box 32 (.val T2_))]⟩ [(.exit 0,⟨[(1,.ptr 600001 0),(2,.ptr 600002 0)],[(600001,.box 32 (.val T2_)),(600002,.box 32 (.val T2_))]⟩)]),
(7,.loop [] ⟨[(1,.ptr 600001 0),(2,.ptr 600002 0),(4,.val (.int .i64))],[(600001,.box 32 (.val T2_)),(600002,.box 32 (.val T2_))]⟩ [(.exit 2,⟨[(1,.ptr 600001 0),(2,.ptr 600002 0)],[(600001,.box 32 (.val T2_)),(600002,.box 32 (.val T2_))]⟩)])],
[],fun y=>(valW (.agg T2_) y,[],[])⟩
noncomputable def V_A (w_i:(List A0_×A1_)×Int×Int×Int×Int×List UInt8→Option (Int×List A0_×A1_)) (N:Nat) (x:List A0_×A1_):Option (List A0_×A1_):=
 obind (loopN N (fun(v:Int×(List A0_×A1_)×List A0_×A1_)=>cnd (decide (v.1<(↑(List.length v.2.1.1):Int))) (cnd (decide ((0:Int)≤v.1)&&decide (v.1 <
 (↑(List.length v.2.1.1):Int))) (cnd (Prod.fst (List.getD v.2.1.1 (Int.toNat v.1) (false,(0:Int),[],((0:Int),(0:Int),(0:Int),(0:Int),
 (0:Int),(0:Int),[],(0:Int),(0:Int),(0:Int),(0:Int),(0:Int),[]),((0:Int),(0:Int),[],[],[],(0:Int),(0:Int)),(0:Int)))) (obind
 (w_i (v.2.1,(5:Int),wr .i64 (v.1+(1:Int)),(0:Int),(0:Int),[])) fun b=>some (Sum.inl (wr .i64 (v.1+(1:Int)),b.2,v.2.2))) (some
 (Sum.inl (wr .i64 (v.1+(1:Int)),v.2)))) none) (some (Sum.inr v.2))) ((0:Int),x,[],[],[],(0:Int),[],[])) fun(b:(List A0_×A1_)×List A0_×A1_)=>obind (loopN N
 (fun(v:Int×(List A0_×A1_)×List A0_×A1_)=>cnd (decide (v.1<(2000:Int))) (cnd (decide ((0:Int)<(↑(List.length v.2.1.2.1):Int))) (obind (w_i (v.2.1,
 (6:Int),(0:Int),(0:Int),(0:Int),[])) fun b=>some (Sum.inl (wr .i64 (v.1+(1:Int)),b.2,v.2.2))) (some (Sum.inr v.2))) (some (Sum.inr v.2)))
 ((0:Int),b)) fun(b:(List A0_×A1_)×List A0_×A1_)=>some b.1
theorem q_A:∀w_i N x,u_A.F L0 P0 (orcOf [u_i.con w_i]) N x=V_A w_i N x:=by intros;kernel_rfl
noncomputable def W_A (N:Nat):=V_A (W_i N) N
theorem con_A_ok (N:Nat):(u_A.con (W_A N)).ok P0:=Uf.ok mixed (q_A (W_i N) N) ⟨con_i_ok N,trivial⟩ Tryz.func25 (by kernel_rfl) fun x y=>by kernel_rfl
noncomputable def u_az:Uf:=⟨8,36,Tryz.f8,[.ptr 0 0],[.box 70 T8_],
⟨[(0,.ptr 1000000 0),(2,.ptr 600002 0)],[(1000000,.box 70 (.val T8_)),(600002,.box 32 (.val T2_))]⟩,[true],
[(3,.loop [] ⟨[(0,.ptr 1000000 0),(2,.ptr 600002 0),(3,.ptr 600003 0),(4,.val (.int .i64))],[(1000000,.box 70 (.val T8_)),(600002,.box 32 (.val T2_)),(600003,.box 32 (.val T2_))]⟩ [(.exit 0,⟨[(0,.ptr 1000000 0),(2,.ptr 600002 0),(3,.ptr 600003 0)],[(1000000,.box 70 (.val T8_)),(600002,.box 32 (.val T2_)),(600003,.box 32 (.val T2_))]⟩)]),
(10,.loop [] ⟨[(0,.ptr 1000000 0),(2,.ptr 600002 0),(3,.ptr 600003 0),(5,.val (.int .i64))],[(1000000,.box 70 (.val T8_)),(600002,.box 32 (.val T2_)),(600003,.box 32 (.val T2_))]⟩ [(.exit 2,⟨[(0,.ptr 1000000 0),(2,.ptr 600002 0),(3,.ptr 600003 0)],[(1000000,.box 70 (.val T8_)),(600002,.box 32 (.val T2_)),(600003,.box 32 (.val T2_))]⟩)])],
[(7,.cut [] [(.normal,⟨[(0,.ptr 1000000 0),(2,.ptr 600002 0),(3,.ptr 600003 0)],[(1000000,.box 70 (.val T8_)),(600002,.box 32 (.val T2_)),(600003,.box 32 (.val T2_))]⟩)])],fun y=>(valW (.agg T2_) y.2,[.box 70 (cellsW T8_ y.1)],[])⟩
noncomputable def V_az (w_aN:List Int×Int→Option ((List Int×Int)×List A0_×A1_)) (w_a:Int×List Int×Int→Option (Int×List Int×Int)) (w_i:(List A0_×A1_)×Int×Int×Int×Int×List UInt8→Option (Int×List A0_×A1_)) (w_A:List A0_×A1_→Option (List A0_×A1_)) (N:Nat) (x:List Int×Int):Option ((List Int×Int)×List A0_×A1_):=
 obind (w_aN x) fun b=>obind (loopN N (fun(v:Int×(List Int×Int)×(List A0_×A1_)×List A0_×A1_)=>cnd (decide (v.1≤(8:Int))) (obind (obind (w_a ((3:Int),v.2.1)) fun b=>cnd (decide ((0:Int)<b.1)) (obind (w_i (v.2.2.2,(1:Int),v.1,(0:Int),(0:Int),[(110:UInt8)])) fun b_1
 => some (b.2,v.2.2.1,b_1.2)) (some (b.2,v.2.2))) fun(b:(List Int×Int)×(List A0_×A1_)×List A0_×A1_)=>obind (w_a ((3:Int),b.1)) fun b_1=>cnd
 (decide (b_1.1=(0:Int))) (obind (w_A b.2.2) fun b_2=>some (Sum.inl (wr .i64 (v.1+(1:Int)),b_1.2,b.2.1,b_2))) (some (Sum.inl (wr
 .i64 (v.1+(1:Int)),b_1.2,b.2)))) (some (Sum.inr v.2))) ((2:Int),b.1,([],[],[],(0:Int),[],[]),b.2)) fun(b:(List Int×Int)×(List A0_×A1_)×List A0_×A1_)
 => obind (w_a ((8:Int),b.1)) fun b_1=>obind (loopN N (fun(v:Int×(List Int×Int)×(List A0_×A1_)×List A0_×A1_)=>cnd (decide ((0:Int)<v.1)) (obind
 (w_A v.2.2.2) fun b=>some (Sum.inl (wr .i64 (v.1-(1:Int)),v.2.1,v.2.2.1,b))) (some (Sum.inr v.2))) (b_1.1,b_1.2,b.2)) fun(b:
 (List Int×Int)×(List A0_×A1_)×List A0_×A1_)=>some (b.1,b.2.2)
theorem q_az:∀w_aN w_a w_i w_A N x,u_az.F L0 P0 (orcOf [u_aN.con w_aN,u_a.con w_a,u_i.con w_i,u_A.con w_A]) N x=V_az w_aN w_a w_i w_A N x:=by intros;kernel_rfl
noncomputable def W_az (N:Nat):=V_az (W_aN N) (W_a N) (W_i N) (W_A N) N
theorem con_az_ok (N:Nat):(u_az.con (W_az N)).ok P0:=Uf.ok mixed (q_az (W_aN N) (W_a N) (W_i N) (W_A N) N) ⟨con_aN_ok N,con_a_ok N,con_i_ok N,con_A_ok N,trivial⟩ Tryz.func8 (by kernel_rfl) fun x y=>by kernel_rfl
noncomputable def u_ba:Uf:=⟨23,13,Tryz.f23,[.ptr 0 0],[.box 70 T8_],
⟨[(0,.ptr 1000000 0),(2,.val .bool)],[(1000000,.box 70 (.val T8_))]⟩,[true],
[],
[],fun y=>(valW .bool y.1,[.box 70 (cellsW T8_ y.2)],[])⟩
noncomputable def V_ba (N:Nat) (x:List Int×Int):Option (Bool×List Int×Int):=
 some (decide ((↑(List.length x.1):Int)≤x.2),x)
theorem q_ba:∀N x,u_ba.F L0 P0 (orcOf []) N x=V_ba N x:=by intros;kernel_rfl
noncomputable def W_ba (N:Nat):=V_ba N
theorem con_ba_ok (N:Nat):(u_ba.con (W_ba N)).ok P0:=Uf.ok mixed (q_ba N) trivial Tryz.func23 (by kernel_rfl) fun x y=>by kernel_rfl
noncomputable def u_aR:Uf:=⟨48,8,Tryz.f48,[.ptr 0 0],[.box 70 T8_],
⟨[(0,.ptr 1000000 0),(2,.val .str)],[(1000000,.box 70 (.val T8_))]⟩,[true],
[],
[],fun y=>(valW .str y.1,[.box 70 (cellsW T8_ y.2)],[])⟩
noncomputable def V_aR (w_a:Int×List Int×Int→Option (Int×List Int×Int)) (N:Nat) (x:List Int×Int):Option (List UInt8×List Int×Int):=
 obind (w_a ((5:Int),x)) fun b=>cnd (decide ((0:Int)≤b.1)) (cnd (decide (b.1<(↑(5:Nat):Int))) (some (List.getD [[],[(97:UInt8)],
 [(98:UInt8),(99:UInt8)],[(104:UInt8),(101:UInt8),(108:UInt8),(108:UInt8),(111:UInt8)],[(116:UInt8),(119:UInt8),(101:
 UInt8),(108:UInt8),(118:UInt8),(101:UInt8),(32:UInt8),(98:UInt8),(121:UInt8),(116:UInt8),(101:UInt8),(115:UInt8)]]
 (Int.toNat b.1) [],b.2)) none) none
theorem q_aR:∀w_a N x,u_aR.F L0 P0 (orcOf [u_a.con w_a]) N x=V_aR w_a N x:=by intros;kernel_rfl
noncomputable def W_aR (N:Nat):=V_aR (W_a N) N
theorem con_aR_ok (N:Nat):(u_aR.con (W_aR N)).ok P0:=Uf.ok mixed (q_aR (W_a N) N) ⟨con_a_ok N,trivial⟩ Tryz.func48 (by kernel_rfl) fun x y=>by kernel_rfl
noncomputable def u_aP:Uf:=⟨26,96,Tryz.f26,[.ptr 0 0,.val (.agg T2_)],[.box 70 T8_],
⟨[(0,.ptr 1000000 0),(4,.ptr 600004 0)],[(1000000,.box 70 (.val T8_)),(600004,.box 68 (.val T12_))]⟩,[true],
[],
[],fun y=>(valW (.agg T12_) y.2,[.box 70 (cellsW T8_ y.1)],[])⟩
noncomputable def V_aP (w_a:Int×List Int×Int→Option (Int×List Int×Int)) (w_aR:List Int×Int→Option (List UInt8×List Int×Int)) (N:Nat) (x:(List A0_×A1_)×List Int×Int):Option ((List Int×Int)×Int×Int×Int×Int×List UInt8):=
 obind (w_a ((8:Int),x.2)) fun b=>obind (w_a ((24:Int),b.2)) fun b_1=>cnd (decide (b_1.1<(3:Int))) (obind (w_a
 ((4:Int),b_1.2)) fun b_2=>cnd (decide ((0:Int)≤b_2.1)) (cnd (decide (b_2.1<(↑(4:Nat):Int))) (some (b_2.2,(1:Int),wr .i64 ((1:Int)+b.1),
 (0:Int),(0:Int),List.getD [[(97:UInt8),(110:UInt8),(110:UInt8)],[(98:UInt8),(195:UInt8),(182:UInt8),(98:UInt8)],[(230:
 UInt8),(151:UInt8),(165:UInt8),(230:UInt8),(156:UInt8),(172:UInt8)],[]] (Int.toNat b_2.1) [])) none) none) (cnd (decide (b_1.1=
 (3:Int))) (some (b_1.2,(2:Int),wr .i64 ((1:Int)+b.1),(0:Int),(0:Int),[])) (cnd (decide (b_1.1=(4:Int))) (some (b_1.2,(3:Int),wr .i64
 ((1:Int)+b.1),(0:Int),(0:Int),[])) (cnd (decide (b_1.1<(7:Int))) (obind (w_aR b_1.2) fun b=>some (b.2,(4:Int),(0:Int),(0:Int),
 (0:Int),b.1)) (cnd (decide (b_1.1<(13:Int))) (some (b_1.2,(5:Int),wr .i64 ((1:Int)+b.1),(0:Int),(0:Int),[])) (cnd (decide (b_1.1 <
 (20:Int))) (obind (w_a (wr .i64 (min (↑(List.length x.1.2.1):Int) (200:Int)+(1:Int)),b_1.2)) fun b=>some (b.2,(6:Int),(0:Int),
 b.1,(0:Int),[])) (cnd (decide (b_1.1=(20:Int))) (obind (w_a (wr .i64 (min (↑(List.length x.1.2.1):Int) (200:Int)+(1:Int)),b_1.2))
 fun b=>some (b.2,(7:Int),(0:Int),b.1,(0:Int),[])) (cnd (decide (b_1.1=(21:Int))) (obind (w_a (wr .i64 (min (↑(List.length
 x.1.2.1):Int) (200:Int)+(1:Int)),b_1.2)) fun b=>some (b.2,(8:Int),(0:Int),b.1,(0:Int),[])) (cnd (decide (b_1.1=(22:Int))) (obind
 (w_a (wr .i64 (min (↑(List.length x.1.2.1):Int) (200:Int)+(1:Int)),b_1.2)) fun b=>obind (w_a ((40:Int),b.2)) fun b_2=>
 obind (w_a ((255:Int),b_2.2)) fun b_3=>some (b_3.2,(9:Int),(0:Int),b.1,wr .i64 (wr .i64 (wr .i64 (b_2.1*(256:Int))+(1:Int)) +
 b_3.1),[])) (some (b_1.2,(5:Int),wr .i64 ((1:Int)+b.1),(0:Int),(0:Int),[]))))))))))
theorem q_aP:∀w_a w_aR N x,u_aP.F L0 P0 (orcOf [u_a.con w_a,u_aR.con w_aR]) N x=V_aP w_a w_aR N x:=by intros;kernel_rfl
noncomputable def W_aP (N:Nat):=V_aP (W_a N) (W_aR N) N
theorem con_aP_ok (N:Nat):(u_aP.con (W_aP N)).ok P0:=Uf.ok mixed (q_aP (W_a N) (W_aR N) N) ⟨con_a_ok N,con_aR_ok N,trivial⟩ Tryz.func26 (by kernel_rfl) fun x y=>by kernel_rfl
noncomputable def u_aq:Uf:=⟨7,32,Tryz.f7,[.ptr 0 0,.val (.agg T2_),.val (.int .i64)],[.box 70 T8_],
⟨[(0,.ptr 1000000 0),(6,.ptr 600006 0)],[(1000000,.box 70 (.val T8_)),(600006,.box 32 (.val T2_))]⟩,[true],
[(2,.loop [] ⟨[(0,.ptr 1000000 0),(4,.ptr 600004 0),(6,.ptr 600006 0),(7,.val (.int .i64))],[(1000000,.box 70 (.val T8_)),(600004,.box 32 (.val T2_)),(600006,.box 32 (.val T2_))]⟩ [(.exit 0,⟨[(0,.ptr 1000000 0),(4,.ptr 600004 0),(6,.ptr 600006 0)],[(1000000,.box 70 (.val T8_)),(600004,.box 32 (.val T2_)),(600006,.box 32 (.val T2_))]⟩)])],
[],fun y=>(valW (.agg T2_) y.2,[.box 70 (cellsW T8_ y.1)],[])⟩
noncomputable def V_aq (w_ba:List Int×Int→Option (Bool×List Int×Int)) (w_a:Int×List Int×Int→Option (Int×List Int×Int)) (w_A:List A0_×A1_→Option (List A0_×A1_)) (w_aP:(List A0_×A1_)×List Int×Int→Option ((List Int×Int)×Int×Int×Int×Int×List UInt8)) (w_i:(List A0_×A1_)×Int×Int×Int×Int×List UInt8→Option (Int×List A0_×A1_)) (N:Nat) (x:(List A0_×A1_)×Int×List Int×Int):Option ((List Int×Int)×List A0_×A1_):=
 obind (loopN N (fun(v:Int×(List Int×Int)×(List A0_×A1_)×List A0_×A1_)=>cnd (decide (v.1<x.2.1)) (obind (w_ba v.2.1) fun b=>cnd (!b.1)
 (obind (w_a ((9:Int),b.2)) fun b=>cnd (decide (b.1=(0:Int))) (obind (w_A v.2.2.1) fun b_1=>some (Sum.inl (wr .i64 (v.1
 + (1:Int)),b.2,b_1,v.2.2.2))) (obind (w_aP (v.2.2.1,b.2)) fun b=>obind (w_i (v.2.2.1,b.2)) fun b_1=>some (Sum.inl (wr
 .i64 (v.1+(1:Int)),b.1,b_1.2,v.2.2.2)))) (some (Sum.inr (b.2,v.2.2)))) (some (Sum.inr v.2))) ((0:Int),x.2.2,x.1,[],[],[],(0:Int),[],
 [])) fun(b:(List Int×Int)×(List A0_×A1_)×List A0_×A1_)=>some (b.1,b.2.1)
theorem q_aq:∀w_ba w_a w_A w_aP w_i N x,u_aq.F L0 P0 (orcOf [u_ba.con w_ba,u_a.con w_a,u_A.con w_A,u_aP.con w_aP,u_i.con w_i]) N x=V_aq w_ba w_a w_A w_aP w_i N x:=by intros;kernel_rfl
noncomputable def W_aq (N:Nat):=V_aq (W_ba N) (W_a N) (W_A N) (W_aP N) (W_i N) N
theorem con_aq_ok (N:Nat):(u_aq.con (W_aq N)).ok P0:=Uf.ok mixed (q_aq (W_ba N) (W_a N) (W_A N) (W_aP N) (W_i N) N) ⟨con_ba_ok N,con_a_ok N,con_A_ok N,con_aP_ok N,con_i_ok N,trivial⟩ Tryz.func7 (by kernel_rfl) fun x y=>by kernel_rfl
noncomputable def u_ah:Uf:=⟨30,75,Tryz.f30,[.val (.list (.agg T6_)),.val (.int .i64)],[],
⟨[(4,.val .bool)],[]⟩,[],
[(5,.loop [] ⟨[(5,.val (.int .i64)),(6,.val (.int .i64))],[]⟩ [(.exit 0,⟨[],[]⟩),(.ret,⟨[(4,.val .bool)],[]⟩)])],
[(1000008,.reg [(11,[],⟨[(7,.ptr 600007 0),(31,.val .bool)],[(600007,.box 52 (.val T6_))]⟩)]),
(1000013,.reg [(11,[],⟨[(7,.ptr 600007 0),(51,.val .bool)],[(600007,.box 52 (.val T6_))]⟩)])],fun y=>(valW .bool y,[],[])⟩
noncomputable def V_ah (N:Nat) (x:List (Int×A6_)×Int):Option (Bool):=
 cnd (decide (x.2<(1:Int))) (some false) (obind (loopN N (fun(v:Int×Int)=>cnd (decide (v.2<(↑(List.length x.1):Int))) (cnd (decide
 ((0:Int)≤v.2)&&decide (v.2<(↑(List.length x.1):Int))) (obind (cnd (decide (Prod.fst (Prod.snd (List.getD x.1 (Int.toNat v.2) ((0:Int),
 (0:Int),(0:Int),[],(0:Int))))≠v.1)) (some (true,List.getD x.1 (Int.toNat v.2) ((0:Int),(0:Int),(0:Int),[],(0:Int)))) (some (decide
 (Prod.fst (Prod.snd (Prod.snd (List.getD x.1 (Int.toNat v.2) ((0:Int),(0:Int),(0:Int),[],(0:Int)))))<Prod.fst (Prod.snd (List.getD x.1
 (Int.toNat v.2) ((0:Int),(0:Int),(0:Int),[],(0:Int))))),List.getD x.1 (Int.toNat v.2) ((0:Int),(0:Int),(0:Int),[],(0:Int))))) fun(b:Bool×Int×A6_)=>cnd b.1 (some (Sum.inr (Sum.inr false))) (cnd (decide ((1000000:Int)<b.2.2.2.1)) (some (Sum.inr (Sum.inr
 false))) (cnd (decide (b.2.1=(1:Int))) (obind (cnd (decide (b.2.2.2.1≠b.2.2.1)) (some (true,b.2)) (some (decide ((12:Int)<(↑(List.length
 b.2.2.2.2.1):Int)),b.2))) fun(b:Bool×Int×A6_)=>cnd b.1 (some (Sum.inr (Sum.inr false))) (cnd (decide
 (b.2.2.2.2.2≠(0:Int))) (some (Sum.inr (Sum.inr false))) (some (Sum.inl (wr .i64 (b.2.2.2.1+(1:Int)),wr .i64 (v.2+(1:Int))))))) (cnd (decide
 (b.2.1=(2:Int))) (cnd (!b.2.2.2.2.1==[]) (some (Sum.inr (Sum.inr false))) (cnd (decide (b.2.2.2.2.2≠(1:Int))) (cnd (decide (b.2.2.2.2.2 ≠
 (2:Int))) (some (Sum.inr (Sum.inr false))) (some (Sum.inl (wr .i64 (b.2.2.2.1+(1:Int)),wr .i64 (v.2+(1:Int)))))) (some (Sum.inl (wr .i64
 (b.2.2.2.1+(1:Int)),wr .i64 (v.2+(1:Int))))))) (some (Sum.inr (Sum.inr false))))))) none) (some (Sum.inr (Sum.inl ())))) (x.2,(0:Int))) fun(b
 : PUnit⊕Bool)=>selim (fun(b:PUnit)=>some true) (fun(c:Bool)=>some c) b)
theorem q_ah:∀N x,u_ah.F L0 P0 (orcOf []) N x=V_ah N x:=by intros;kernel_rfl
noncomputable def W_ah (N:Nat):=V_ah N
theorem con_ah_ok (N:Nat):(u_ah.con (W_ah N)).ok P0:=Uf.ok mixed (q_ah N) trivial Tryz.func30 (by kernel_rfl) fun x y=>by kernel_rfl
noncomputable def u_aB:Uf:=⟨31,17,Tryz.f31,[.val (.list (.agg T6_)),.val (.int .i64)],[],
⟨[(4,.val (.int .i64))],[]⟩,[],
[],
[],fun y=>(valW (.int .i64) y,[],[])⟩
noncomputable def V_aB (N:Nat) (x:List (Int×A6_)×Int):Option (Int):=
 cnd (decide ((↑(List.length x.1):Int)=(0:Int))) (some x.2) (cnd (decide ((0:Int)≤wr .i64 ((↑(List.length x.1):Int)-(1:Int)))&&decide (wr
 .i64 ((↑(List.length x.1):Int)-(1:Int))<(↑(List.length x.1):Int))) (some (wr .i64 (Prod.fst (Prod.snd (Prod.snd (List.getD x.1 (Int.toNat
 (wr .i64 ((↑(List.length x.1):Int)-(1:Int)))) ((0:Int),(0:Int),(0:Int),[],(0:Int)))))+(1:Int)))) none)
theorem q_aB:∀N x,u_aB.F L0 P0 (orcOf []) N x=V_aB N x:=by intros;kernel_rfl
noncomputable def W_aB (N:Nat):=V_aB N
theorem con_aB_ok (N:Nat):(u_aB.con (W_aB N)).ok P0:=Uf.ok mixed (q_aB N) trivial Tryz.func31 (by kernel_rfl) fun x y=>by kernel_rfl
end
end Go.Proofs.YtigfokfefnomjaaGreat.truthAllX
