/- NodeDown: for all arguments the call returns true. The law is brought to a function of Lean's own (W_..) by the machine of the texts beside it, and that is reckoned; no condition. -/
import Derived.Test.YtgpgmncgbebgdaaGreatNodeDownW0
namespace Go.Proofs.YtgpgmncgbebgdaaGreat.nodeDownX
open Go.Abs Go.RowKit Go.ChangeShapes Go.WideShapes Go.ChangeAt
set_option maxRecDepth 100000
set_option linter.unusedVariables false
set_option linter.unusedSimpArgs false
noncomputable section
def u_aX:Uf:=⟨34,78,Tryz.f34,[.ptr 0 0,.val (.int .i64)],[.box 72 T6_],
⟨[(0,.ptr 1000000 0),(4,.ptr 600004 0)],[(1000000,.box 72 (.val T6_)),(600004,.box 37 (.val T1_))]⟩,[true],
[(4,.loop [] ⟨[(0,.ptr 1000000 0),(4,.ptr 600004 0),(5,.ptr 600005 0),(6,.val (.int .i64)),(7,.val (.int .i64))],[(1000000,.box 72 (.val T6_)),(600004,.box 37 (.val T1_)),(600005,.box 37 (.val T1_))]⟩ [(.exit 0,⟨[(0,.ptr 1000000 0),(4,.ptr 600004 0),(5,.ptr 600005 0)],[(1000000,.box 72 (.val T6_)),(600004,.box 37 (.val T1_)),(600005,.box 37 (.val T1_))]⟩)])],
[],fun y=>(valW (.agg T1_) y.2,[.box 72 (cellsW T6_ y.1)],[])⟩
def V_aX (w_a:Int×List Int×Int→Option (Int×List Int×Int)) (w_aE:A0_×Int→Option A0_) (w_3:List Int×Int→Option (Bool×List Int×Int)) (w_aD:A0_×Int×Int→Option A0_) (w_m:A0_×Int→Option A0_) (w_aI:A0_×Int→Option (Bool×A0_×Int×Int)) (w_w:List Int×Int→Option (List UInt8×List Int×Int)) (w_aF:A0_×Int×List UInt8→Option A0_) (N:Nat) (x:Int×List Int×Int):Option ((List Int×Int)×A0_):=
 obind (w_a ((5:Int),x.2)) fun b=>obind (w_aE (((0:Int),(0:Int),[],[],[],(0:Int),(0:Int)),wr .i64 ((1:Int)+b.1))) fun
 b_1=>obind (loopN N (fun(v:Int×Int×(List Int×Int)×A0_×A0_)=>cnd (decide (v.2.1<x.1)) (obind (w_3 v.2.2.1) fun b=>cnd (!b.1) (obind (w_a ((6:Int),b.2)) fun b=>cnd
 (decide (b.1=(0:Int))) (obind (w_a ((3:Int),b.2)) fun b=>obind (w_a ((4:Int),b.2)) fun b_2=>obind (w_aD
 (v.2.2.2.2,max (1:Int) (wr .i64 (wr .i64 (v.2.2.2.2.1-(1:Int))+b.1)),wr .i64 (max (1:Int) (wr .i64 (wr .i64 (v.2.2.2.2.1-(1:Int))+b.1)) +
 b_2.1))) fun b=>some (Sum.inl (v.1,wr .i64 (v.2.1+(1:Int)),b_2.2,v.2.2.2.1,b))) (cnd (decide (b.1=(1:Int))) (obind (w_a
 ((5:Int),b.2)) fun b=>obind (w_m (v.2.2.2.2,wr .i64 (v.2.2.2.2.1+b.1))) fun b_2=>some (Sum.inl (v.1,wr .i64 (v.2.1+(1:Int)),
 b.2,v.2.2.2.1,b_2))) (cnd (decide (b.1=(2:Int))) (obind (w_a ((6:Int),b.2)) fun b=>obind (w_aI (v.2.2.2.2,wr .i64 (wr
 .i64 (v.1+(1:Int))+b.1))) fun b_2=>some (Sum.inl (wr .i64 (wr .i64 (v.1+(1:Int))+b.1),wr .i64 (v.2.1+(1:Int)),b.2,v.2.2.2.1,
 b_2.2.1))) (obind (w_a ((5:Int),b.2)) fun b=>obind (w_w b.2) fun b_2=>obind (w_aF (v.2.2.2.2,max (1:Int) (wr
 .i64 (wr .i64 (v.2.2.2.2.1-(1:Int))+b.1)),b_2.1)) fun b=>some (Sum.inl (v.1,wr .i64 (v.2.1+(1:Int)),b_2.2,v.2.2.2.1,b)))))) (some
 (Sum.inr (b.2,v.2.2.2)))) (some (Sum.inr v.2.2))) ((0:Int),(0:Int),b.2,((0:Int),(0:Int),[],[],[],(0:Int),(0:Int)),b_1)) fun(b:(List Int×Int)×A0_×A0_)=>some (b.1,b.2.2)
theorem q_aX:∀w_a w_aE w_3 w_aD w_m w_aI w_w w_aF N x,u_aX.F L0 P0 (orcOf [u_a.con w_a,u_aE.con w_aE,u_3.con w_3,u_aD.con w_aD,u_m.con w_m,u_aI.con w_aI,u_w.con w_w,u_aF.con w_aF]) N x=V_aX w_a w_aE w_3 w_aD w_m w_aI w_w w_aF N x:=by intros;kernel_rfl
def W_aX (N:Nat):=V_aX (W_a N) (W_aE N) (W_3 N) (W_aD N) (W_m N) (W_aI N) (W_w N) (W_aF N) N
theorem con_aX_ok (N:Nat):(u_aX.con (W_aX N)).ok P0:=Uf.ok mixed (q_aX (W_a N) (W_aE N) (W_3 N) (W_aD N) (W_m N) (W_aI N) (W_w N) (W_aF N) N) ⟨con_a_ok N,con_aE_ok N,con_3_ok N,con_aD_ok N,con_m_ok N,con_aI_ok N,con_w_ok N,con_aF_ok N,trivial⟩ Tryz.func34 (by kernel_rfl) fun x y=>by kernel_rfl
def u_a4:Uf:=⟨15,41,Tryz.f15,[.val (.list (.int .u8)),.val (.int .i64)],[],
⟨[(4,.ptr 600004 0)],[(600004,.box 39 (.val T2_))]⟩,[],
[],
[],fun y=>(valW (.agg T2_) y,[],[])⟩
def V_a4 (w_4:List Int→Option (List Int×Int)) (w_a:Int×List Int×Int→Option (Int×List Int×Int)) (w_a2:A3_×Int×List UInt8×Int→Option (Bool×A3_)) (w_be:Int×Int×List Int×Int→Option ((List Int×Int)×A1_)) (w_aX:Int×List Int×Int→Option ((List Int×Int)×A0_)) (N:Nat) (x:List Int×Int):Option A3_:=
 obind (w_4 x.1) fun b=>obind (w_a ((3:Int),b)) fun b=>obind (w_a ((3:Int),b.2)) fun b_1=>obind (w_a
 ((9:Int),b_1.2)) fun b_2=>obind (w_a2 ((false,b.1,[],((0:Int),(0:Int),(0:Int),(0:Int),(0:Int),(0:Int),[],(0:Int),(0:Int),
 (0:Int),(0:Int),(0:Int),[]),((0:Int),(0:Int),[],[],[],(0:Int),(0:Int)),b_1.1),x.2,[(110:UInt8)],b_2.1)) fun b=>obind (w_be (x.2,(20:Int),b_2.2)) fun b_3=>cnd (decide (x.2≠(1:Int))) (obind (w_aX ((12:Int),b_3.1)) fun b_4=>obind (w_a
 ((5:Int),b_4.1)) fun b_5=>cnd (decide (b_5.1=(0:Int))) (some (b.2.1,b.2.2.1,b.2.2.2.1,(b_3.2.1,b.2.2.1,b_3.2.2.2),((0:Int),(0:Int),[],
 [],[],(0:Int),(0:Int)),b.2.2.2.2.2.2)) (some (b.2.1,b.2.2.1,b.2.2.2.1,(b_3.2.1,b.2.2.1,b_3.2.2.2),b_4.2,b.2.2.2.2.2.2))) (some (b.2.1,
 b.2.2.1,b.2.2.2.1,(b_3.2.1,b.2.2.1,b_3.2.2.2),b.2.2.2.2.2))
theorem q_a4:∀w_4 w_a w_a2 w_be w_aX N x,u_a4.F L0 P0 (orcOf [u_4.con w_4,u_a.con w_a,u_a2.con w_a2,u_be.con w_be,u_aX.con w_aX]) N x=V_a4 w_4 w_a w_a2 w_be w_aX N x:=by intros;kernel_rfl
def W_a4 (N:Nat):=V_a4 (W_4 N) (W_a N) (W_a2 N) (W_be N) (W_aX N) N
theorem con_a4_ok (N:Nat):(u_a4.con (W_a4 N)).ok P0:=Uf.ok mixed (q_a4 (W_4 N) (W_a N) (W_a2 N) (W_be N) (W_aX N) N) ⟨con_4_ok N,con_a_ok N,con_a2_ok N,con_be_ok N,con_aX_ok N,trivial⟩ Tryz.func15 (by kernel_rfl) fun x y=>by kernel_rfl
def u_ay:Uf:=⟨89,9,Tryz.f89,[.val (.int .i64)],[],
⟨[(2,.val .bool)],[]⟩,[],
[],
[],fun y=>(valW .bool y,[],[])⟩
def V_ay (N:Nat) (x:Int):Option (Bool):=
 cnd (decide ((0:Int)≤x)) (some (decide (x≤(1000000:Int)))) (some false)
theorem q_ay:∀N x,u_ay.F L0 P0 (orcOf []) N x=V_ay N x:=by intros;kernel_rfl
def W_ay (N:Nat):=V_ay N
theorem con_ay_ok (N:Nat):(u_ay.con (W_ay N)).ok P0:=Uf.ok mixed (q_ay N) trivial Tryz.func89 (by kernel_rfl) fun x y=>by kernel_rfl
def u_aQ:Uf:=⟨56,26,Tryz.f56,[.val (.list (.int .i64)),.val (.list (.int .i64))],[],
⟨[(4,.val .bool)],[]⟩,[],
[(4,.loop [] ⟨[(5,.val (.int .i64))],[]⟩ [(.exit 0,⟨[],[]⟩),(.ret,⟨[(4,.val .bool)],[]⟩)])],
[],fun y=>(valW .bool y,[],[])⟩
def V_aQ (N:Nat) (x:List Int×List Int):Option (Bool):=
 cnd (decide ((↑(List.length x.1):Int)≠(↑(List.length x.2):Int))) (some false) (obind (loopN N (fun(v:Int)=>cnd (decide (v<(↑(List.length
 x.1):Int))) (cnd (decide ((0:Int)≤v)&&decide (v<(↑(List.length x.1):Int))) (cnd (decide ((0:Int)≤v)&&decide (v<(↑(List.length x.2):
 Int))) (cnd (decide (List.getD x.1 (Int.toNat v) (0:Int)≠List.getD x.2 (Int.toNat v) (0:Int))) (some (Sum.inr (Sum.inr false))) (some (Sum.inl (wr
 .i64 (v+(1:Int)))))) none) none) (some (Sum.inr (Sum.inl ())))) (Int.ofNat (0:Nat))) fun(b:PUnit⊕Bool)=>selim (fun(b:PUnit)=>some
 true) (fun(c:Bool)=>some c) b)
theorem q_aQ:∀N x,u_aQ.F L0 P0 (orcOf []) N x=V_aQ N x:=by intros;kernel_rfl
def W_aQ (N:Nat):=V_aQ N
theorem con_aQ_ok (N:Nat):(u_aQ.con (W_aQ N)).ok P0:=Uf.ok mixed (q_aQ N) trivial Tryz.func56 (by kernel_rfl) fun x y=>by kernel_rfl
def u_at:Uf:=⟨91,73,Tryz.f91,[.val (.agg T_),.val (.agg T_)],[],
⟨[(4,.val .bool)],[]⟩,[],
[],
[(1000001,.reg [(12,[],⟨[(2,.ptr 600002 0),(3,.ptr 600003 0),(16,.val .bool)],[(600002,.box 46 (.val T_)),(600003,.box 46 (.val T_))]⟩),(7,[],⟨[(2,.ptr 600002 0),(3,.ptr 600003 0),(23,.val .bool)],[(600002,.box 46 (.val T_)),(600003,.box 46 (.val T_))]⟩),(7,[],⟨[(2,.ptr 600002 0),(3,.ptr 600003 0),(30,.val .bool)],[(600002,.box 46 (.val T_)),(600003,.box 46 (.val T_))]⟩),(7,[],⟨[(2,.ptr 600002 0),(3,.ptr 600003 0),(37,.val .bool)],[(600002,.box 46 (.val T_)),(600003,.box 46 (.val T_))]⟩),(7,[],⟨[(2,.ptr 600002 0),(3,.ptr 600003 0),(44,.val .bool)],[(600002,.box 46 (.val T_)),(600003,.box 46 (.val T_))]⟩),(7,[],⟨[(2,.ptr 600002 0),(3,.ptr 600003 0),(51,.val .bool)],[(600002,.box 46 (.val T_)),(600003,.box 46 (.val T_))]⟩),(7,[],⟨[(2,.ptr 600002 0),(3,.ptr 600003 0),(58,.val .bool)],[(600002,.box 46 (.val T_)),(600003,.box 46 (.val T_))]⟩),(7,[],⟨[(2,.ptr 600002 0),(3,.ptr 600003 0),(65,.val .bool)],[(600002,.box 46 (.val T_)),(600003,.box 46 (.val T_))]⟩)])],fun y=>(valW .bool y,[],[])⟩
def V_at (w_aQ:List Int×List Int→Option (Bool)) (N:Nat) (x:(M_)×M_):Option (Bool):=
 obind (cnd (decide (x.1.1=x.2.1)) (some (decide (x.1.2.1=x.2.2.1),x)) (some (false,x))) fun(b:Bool×A2_×A2_)=>obind (cnd b.1 (some (decide
 (b.2.1.2.2.1=b.2.2.2.2.1),b.2)) (some (false,b.2))) fun(b:Bool×A2_×A2_)=>obind (cnd b.1 (some (decide (b.2.1.2.2.2.1=b.2.2.2.2.2.1),b.2)) (some
 (false,b.2))) fun(b:Bool×A2_×A2_)=>obind (cnd b.1 (some (decide (b.2.1.2.2.2.2.1=b.2.2.2.2.2.2.1),b.2)) (some (false,b.2))) fun(b:Bool×A2_×A2_)=>obind
 (cnd b.1 (some (decide (b.2.1.2.2.2.2.2.1=b.2.2.2.2.2.2.2.1),b.2)) (some (false,b.2))) fun(b:Bool×A2_×A2_)=>obind (cnd b.1 (some (decide
 (b.2.1.2.2.2.2.2.2.2.1=b.2.2.2.2.2.2.2.2.2.1),b.2)) (some (false,b.2))) fun(b:Bool×A2_×A2_)=>obind (cnd b.1 (some (decide (b.2.1.2.2.2.2.2.2.2.2.1
 = b.2.2.2.2.2.2.2.2.2.2.1),b.2)) (some (false,b.2))) fun(b:Bool×A2_×A2_)=>obind (cnd b.1 (some (b.2.1.2.2.2.2.2.2.2.2.2==b.2.2.2.2.2.2.2.2.2.2.2,
 b.2)) (some (false,b.2))) fun(b:Bool×A2_×A2_)=>cnd b.1 (obind (w_aQ (b.2.1.2.2.2.2.2.2.1,b.2.2.2.2.2.2.2.2.1)) fun b=>some b) (some
 false)
theorem q_at:∀w_aQ N x,u_at.F L0 P0 (orcOf [u_aQ.con w_aQ]) N x=V_at w_aQ N x:=by intros;kernel_rfl
def W_at (N:Nat):=V_at (W_aQ N) N
theorem con_at_ok (N:Nat):(u_at.con (W_at N)).ok P0:=Uf.ok mixed (q_at (W_aQ N) N) ⟨con_aQ_ok N,trivial⟩ Tryz.func91 (by kernel_rfl) fun x y=>by kernel_rfl
def u_ac:Uf:=⟨42,160,Tryz.f42,[.val (.agg T_)],[],
⟨[(2,.val .bool)],[]⟩,[],
[],
[(1000001,.reg [(8,[],⟨[(1,.ptr 600001 0),(12,.val .bool)],[(600001,.box 46 (.val T_))]⟩),(5,[],⟨[(1,.ptr 600001 0),(17,.val .bool)],[(600001,.box 46 (.val T_))]⟩),(5,[],⟨[(1,.ptr 600001 0),(22,.val .bool)],[(600001,.box 46 (.val T_))]⟩),(5,[],⟨[(1,.ptr 600001 0),(27,.val .bool)],[(600001,.box 46 (.val T_))]⟩),(5,[],⟨[(1,.ptr 600001 0),(32,.val .bool)],[(600001,.box 46 (.val T_))]⟩),(7,[],⟨[(1,.ptr 600001 0),(39,.val .bool)],[(600001,.box 46 (.val T_))]⟩),(5,[],⟨[(1,.ptr 600001 0),(44,.val .bool)],[(600001,.box 46 (.val T_))]⟩)]),
(1000009,.reg [(8,[],⟨[(1,.ptr 600001 0),(3,.ptr 600003 0),(80,.val .bool)],[(600001,.box 46 (.val T_)),(600003,.box 46 (.val T_))]⟩),(5,[],⟨[(1,.ptr 600001 0),(3,.ptr 600003 0),(85,.val .bool)],[(600001,.box 46 (.val T_)),(600003,.box 46 (.val T_))]⟩),(5,[],⟨[(1,.ptr 600001 0),(3,.ptr 600003 0),(90,.val .bool)],[(600001,.box 46 (.val T_)),(600003,.box 46 (.val T_))]⟩)]),
(1000017,.reg [(8,[],⟨[(1,.ptr 600001 0),(3,.ptr 600003 0),(132,.val .bool)],[(600001,.box 46 (.val T_)),(600003,.box 46 (.val T_))]⟩)]),
(20,.cut [] [(.normal,⟨[(1,.ptr 600001 0),(3,.ptr 600003 0),(139,.val .bool)],[(600001,.box 46 (.val T_)),(600003,.box 46 (.val T_))]⟩)]),
(8,.cut [] [(.normal,⟨[(1,.ptr 600001 0),(3,.ptr 600003 0),(61,.val .bool)],[(600001,.box 46 (.val T_)),(600003,.box 46 (.val T_))]⟩)]),
(22,.cut [] [(.normal,⟨[(1,.ptr 600001 0),(3,.ptr 600003 0),(4,.val .bool)],[(600001,.box 46 (.val T_)),(600003,.box 46 (.val T_))]⟩)])],fun y=>(valW .bool y,[],[])⟩
def V_ac (w_M:List Int→Option (Bool)) (w_ay:Int→Option (Bool)) (w_v:Int×Int→Option (Bool)) (w_at:(M_)×M_→Option (Bool)) (N:Nat) (x:M_):Option (Bool):=
 obind (cnd (decide (x.1<(1:Int))) (some (true,x)) (some (decide ((9:Int)<x.1),x))) fun(b:Bool×A2_)=>obind (cnd b.1 (some (true,b.2)) (some (decide (b.2.2.1<(1:Int)),b.2))) fun(b:Bool×A2_)=>obind (cnd b.1 (some (true,b.2)) (some (decide ((8:Int)<b.2.2.1),b.2))) fun(b:Bool×A2_)=>obind (cnd b.1 (some (true,b.2)) (some (decide (b.2.2.2.1<(1:Int)),b.2))) fun(b
 : Bool×A2_)=>obind (cnd b.1 (some (true,b.2)) (some (decide ((8:Int) <
 b.2.2.2.1),b.2))) fun(b:Bool×A2_)=>obind (cnd b.1 (some (true,b.2)) (some
 (decide (b.2.2.1=b.2.2.2.1),b.2))) fun(b:Bool×A2_)=>obind (cnd b.1 (some
 (true,b.2)) (some (decide (b.2.2.2.2.1<(1:Int)),b.2))) fun(b:Bool×A2_)=>
 cnd b.1 (some false) (cnd (decide ((1073741824:Int)<b.2.2.2.2.1)) (some false) (obind (obind (cnd (decide (b.2.1=(2:Int))) (some (decide (b.2.1
 = (2:Int)),b.2,b.2.1,b.2.2.1,b.2.2.2.1,b.2.2.2.2.1,(0:Int),(0:Int),[],(0:Int),(0:Int),[])) (some (decide (b.2.1=(5:Int)),b.2,b.2.1,
 b.2.2.1,b.2.2.2.1,b.2.2.2.2.1,(0:Int),(0:Int),[],(0:Int),(0:Int),[]))) fun(b_1:Bool×A2_×A2_)=>cnd b_1.1 (obind (cnd (decide ((0:Int) ≤
 b_1.2.1.2.2.2.2.1)) (some (decide (b_1.2.1.2.2.2.2.1≤(1073741824:Int)),b_1.2.1,b_1.2.2.1,b_1.2.2.2.1,b_1.2.2.2.2.1,b_1.2.2.2.2.2.1,
 b_1.2.1.2.2.2.2.1,b_1.2.1.2.2.2.2.2.1,b_1.2.1.2.2.2.2.2.2.1,b_1.2.2.2.2.2.2.2.2.2)) (some (false,b_1.2.1,b_1.2.2.1,b_1.2.2.2.1,b_1.2.2.2.2.1,
 b_1.2.2.2.2.2.1,b_1.2.1.2.2.2.2.1,b_1.2.1.2.2.2.2.2.1,b_1.2.1.2.2.2.2.2.2.1,b_1.2.2.2.2.2.2.2.2.2))) fun(b:Bool×A2_×A2_)=>obind (cnd b.1 (some
 (decide ((0:Int)≤b.2.1.2.2.2.2.2.1),b.2)) (some (false,b.2))) fun(b:Bool×A2_×A2_)=>obind (cnd b.1 (some (decide (b.2.1.2.2.2.2.2.1 ≤
 (1073741824:Int)),b.2)) (some (false,b.2))) fun(b:Bool×A2_×A2_)=>cnd b.1 (obind (w_M b.2.1.2.2.2.2.2.2.1) fun b_2=>cnd (decide (b.2.1.1
 = (2:Int))) (cnd b_2 (obind (w_ay b.2.1.2.2.2.2.2.2.2.1) fun b_3=>some (b_3,b.2.1,b.2.2.1,b.2.2.2.1,b.2.2.2.2.1,b.2.2.2.2.2.1,
 b.2.2.2.2.2.2.1,b.2.2.2.2.2.2.2.1,b.2.2.2.2.2.2.2.2.1,b.2.1.2.2.2.2.2.2.2.1,b.2.2.2.2.2.2.2.2.2.2)) (some (false,b.2.1,b.2.2.1,b.2.2.2.1,
 b.2.2.2.2.1,b.2.2.2.2.2.1,b.2.2.2.2.2.2.1,b.2.2.2.2.2.2.2.1,b.2.2.2.2.2.2.2.2.1,b.2.1.2.2.2.2.2.2.2.1,b.2.2.2.2.2.2.2.2.2.2))) (cnd b_2 (obind
 (w_ay b.2.1.2.2.2.2.2.2.2.2.1) fun b_3=>some (b_3,b.2.1,b.2.2.1,b.2.2.2.1,b.2.2.2.2.1,b.2.2.2.2.2.1,b.2.2.2.2.2.2.1,
 b.2.2.2.2.2.2.2.1,b.2.2.2.2.2.2.2.2.1,b.2.2.2.2.2.2.2.2.2.1,b.2.1.2.2.2.2.2.2.2.2.1,b.2.2.2.2.2.2.2.2.2.2.2)) (some (false,b.2.1,b.2.2.1,
 b.2.2.2.1,b.2.2.2.2.1,b.2.2.2.2.2.1,b.2.2.2.2.2.2.1,b.2.2.2.2.2.2.2.1,b.2.2.2.2.2.2.2.2.1,b.2.2.2.2.2.2.2.2.2.1,b.2.1.2.2.2.2.2.2.2.2.1,
 b.2.2.2.2.2.2.2.2.2.2.2)))) (cnd (decide (b.2.1.1=(2:Int))) (some (false,b.2.1,b.2.2.1,b.2.2.2.1,b.2.2.2.2.1,b.2.2.2.2.2.1,b.2.2.2.2.2.2.1,
 b.2.2.2.2.2.2.2.1,b.2.2.2.2.2.2.2.2.1,b.2.1.2.2.2.2.2.2.2.1,b.2.2.2.2.2.2.2.2.2.2)) (some (false,b.2.1,b.2.2.1,b.2.2.2.1,b.2.2.2.2.1,
 b.2.2.2.2.2.1,b.2.2.2.2.2.2.1,b.2.2.2.2.2.2.2.1,b.2.2.2.2.2.2.2.2.1,b.2.2.2.2.2.2.2.2.2.1,b.2.1.2.2.2.2.2.2.2.2.1,b.2.2.2.2.2.2.2.2.2.2.2))))
 (cnd (decide (b.2.1=(7:Int))) (obind (cnd (decide ((1:Int)≤b_1.2.1.2.2.2.2.2.2.2.1)) (obind (w_ay b_1.2.1.2.2.2.2.2.2.2.1) fun b=>
 some (b,b_1.2.1,b_1.2.2.1,b_1.2.2.2.1,b_1.2.2.2.2.1,b_1.2.2.2.2.2.1,b_1.2.2.2.2.2.2.1,b_1.2.2.2.2.2.2.2.1,b_1.2.2.2.2.2.2.2.2.1,
 b_1.2.1.2.2.2.2.2.2.2.1,b_1.2.2.2.2.2.2.2.2.2.2.1,b_1.2.1.2.2.2.2.2.2.2.2.2)) (some (false,b_1.2.1,b_1.2.2.1,b_1.2.2.2.1,b_1.2.2.2.2.1,
 b_1.2.2.2.2.2.1,b_1.2.2.2.2.2.2.1,b_1.2.2.2.2.2.2.2.1,b_1.2.2.2.2.2.2.2.2.1,b_1.2.1.2.2.2.2.2.2.2.1,b_1.2.2.2.2.2.2.2.2.2.2.1,
 b_1.2.1.2.2.2.2.2.2.2.2.2))) fun(b:Bool×A2_×A2_)=>cnd b.1 (some (decide ((↑(List.length b.2.1.2.2.2.2.2.2.2.2.2):Int)≤(12:Int)),b.2)) (some (false,
 b.2))) (obind (cnd (decide (b.2.1=(8:Int))) (some (decide (b.2.1=(8:Int)),b_1.2)) (some (decide (b.2.1=(9:Int)),b_1.2))) fun(b:Bool×A2_×A2_)=>
 cnd b.1 (obind (w_v (b.2.1.2.2.2.2.2.2.2.1,b.2.1.2.2.2.2.2.2.2.2.1)) fun b_2=>some (b_2,b.2.1,b.2.2.1,b.2.2.2.1,b.2.2.2.2.1,
 b.2.2.2.2.2.1,b.2.2.2.2.2.2.1,b.2.2.2.2.2.2.2.1,b.2.2.2.2.2.2.2.2.1,b.2.1.2.2.2.2.2.2.2.1,b.2.1.2.2.2.2.2.2.2.2.1,b.2.2.2.2.2.2.2.2.2.2.2))
 (some (true,b.2))))) fun(b:Bool×A2_×A2_)=>cnd b.1 (obind (w_at (b.2.2,b.2.1)) fun b=>some b) (some false)))
theorem q_ac:∀w_M w_ay w_v w_at N x,u_ac.F L0 P0 (orcOf [u_M.con w_M,u_ay.con w_ay,u_v.con w_v,u_at.con w_at]) N x=V_ac w_M w_ay w_v w_at N x:=by intros;kernel_rfl
def W_ac (N:Nat):=V_ac (W_M N) (W_ay N) (W_v N) (W_at N) N
theorem con_ac_ok (N:Nat):(u_ac.con (W_ac N)).ok P0:=Uf.ok mixed (q_ac (W_M N) (W_ay N) (W_v N) (W_at N) N) ⟨con_M_ok N,con_ay_ok N,con_v_ok N,con_at_ok N,trivial⟩ Tryz.func42 (by kernel_rfl) fun x y=>by kernel_rfl
def u_N:Uf:=⟨43,25,Tryz.f43,[.val (.list (.int .u8)),.val (.int .i64)],[],
⟨[(4,.acc 700006)],[(700006,.nrow 5 (.int .u8) false true)]⟩,[],
[(2,.loop [] ⟨[(1,.val (.int .i64)),(5,.acc 700006)],[(700006,.nrow 5 (.int .u8) false true)]⟩ [(.exit 0,⟨[(1,.val (.int .i64)),(5,.acc 700006)],[(700006,.nrow 5 (.int .u8) false true)]⟩)])],
[],fun y=>(.acc 2000000 0,[],[.nrow 5 false true ⟨(.int .u8),y⟩])⟩
def V_N (N:Nat) (x:List Int×Int):Option (List Int):=
 cnd (decide (List.length x.1*(1:Nat)≤(140737488355328:Nat))) (obind (loopN N (fun(v:Int×List Int)=>cnd (decide ((128:Int)≤v.1)) (cnd
 (decide ((List.length v.2+List.length [wr .u8 (wr .i64 (Int.tmod v.1 (128:Int)+(128:Int)))])*(1:Nat)≤(140737488355328:Nat))) (some (Sum.inl
 (wr .i64 (Int.tdiv v.1 (128:Int)),v.2++[wr .u8 (wr .i64 (Int.tmod v.1 (128:Int)+(128:Int)))]))) none) (some (Sum.inr v))) (x.2,x.1)) fun(b:
 Int×List Int)=>cnd (decide ((List.length b.2+List.length [wr .u8 b.1])*(1:Nat)≤(140737488355328:Nat))) (some (b.2++[wr .u8 b.1])) none)
 none
theorem q_N:∀N x,u_N.F L0 P0 (orcOf []) N x=V_N N x:=by intros;kernel_rfl
def W_N (N:Nat):=V_N N
theorem con_N_ok (N:Nat):(u_N.con (W_N N)).ok P0:=Uf.ok mixed (q_N N) trivial Tryz.func43 (by kernel_rfl) fun x y=>by kernel_rfl
def u_aT:Uf:=⟨44,11,Tryz.f44,[.val (.list (.int .u8)),.val .str],[],
⟨[(4,.acc 700008)],[(700008,.nrow 5 (.int .u8) false true)]⟩,[],
[],
[],fun y=>(.acc 2000000 0,[],[.nrow 5 false true ⟨(.int .u8),y⟩])⟩
def V_aT (w_N:List Int×Int→Option (List Int)) (N:Nat) (x:List Int×List UInt8):Option (List Int):=
 obind (w_N (x.1,(↑(List.length x.2):Int))) fun b=>cnd (decide ((List.length b+List.length (List.map (fun(b:UInt8)=>(↑(UInt8.toNat b):Int)) x.2))*(1:Nat)≤(140737488355328:Nat))) (some (b++List.map (fun(b:UInt8)=>(↑(UInt8.toNat b):Int)) x.2)) none
theorem q_aT:∀w_N N x,u_aT.F L0 P0 (orcOf [u_N.con w_N]) N x=V_aT w_N N x:=by intros;kernel_rfl
def W_aT (N:Nat):=V_aT (W_N N) N
theorem con_aT_ok (N:Nat):(u_aT.con (W_aT N)).ok P0:=Uf.ok mixed (q_aT (W_N N) N) ⟨con_N_ok N,trivial⟩ Tryz.func44 (by kernel_rfl) fun x y=>by kernel_rfl
def u_bc:Uf:=⟨45,33,Tryz.f45,[.val (.list (.int .u8))],[],
⟨[(2,.val (.int .u32))],[]⟩,[],
[(7,.loop [] ⟨[(3,.val (.int .u32)),(5,.val (.int .i64))],[]⟩ [(.exit 2,⟨[(3,.val (.int .u32))],[]⟩)]),
(3,.loop [] ⟨[(3,.val (.int .u32)),(4,.val (.int .i64))],[]⟩ [(.exit 0,⟨[(3,.val (.int .u32))],[]⟩)])],
[],fun y=>(valW (.int .u32) y,[],[])⟩
def V_bc (N:Nat) (x:List Int):Option (Int):=
 obind (loopN N (fun(v:Int×Int)=>cnd (decide (v.2<(↑(List.length x):Int))) (cnd (decide ((0:Int)≤v.2)&&decide (v.2<(↑(List.length x):
 Int))) (obind (loopN N (fun(v:Int×Int)=>cnd (decide (v.2<(8:Int))) (cnd (decide (Int.tmod v.1 (2:Int)=(1:Int))) (some (Sum.inl (wr .u32
 (↑(BitVec.toNat (BitVec.ofInt (32:Nat) (wr .u32 (Int.tdiv v.1 (2:Int))) ^^^ BitVec.ofInt (32:Nat) (3988292384:Int))):Int),wr .i64 (v.2 +
 (1:Int))))) (some (Sum.inl (wr .u32 (Int.tdiv v.1 (2:Int)),wr .i64 (v.2+(1:Int)))))) (some (Sum.inr v.1))) (wr .u32 (↑(BitVec.toNat (BitVec.ofInt
 (32:Nat) v.1 ^^^ BitVec.ofInt (32:Nat) (wr .u32 (List.getD x (Int.toNat v.2) (0:Int))))):Int),(0:Int))) fun(b:Int)=>some (Sum.inl (b,wr
 .i64 (v.2+(1:Int))))) none) (some (Sum.inr v.1))) ((4294967295:Int),(0:Int))) fun(b:Int)=>some (wr .u32 (↑(BitVec.toNat (BitVec.ofInt
 (32:Nat) (IntKind.max .u32) ^^^ BitVec.ofInt (32:Nat) b)):Int))
theorem q_bc:∀N x,u_bc.F L0 P0 (orcOf []) N x=V_bc N x:=by intros;kernel_rfl
def W_bc (N:Nat):=V_bc N
theorem con_bc_ok (N:Nat):(u_bc.con (W_bc N)).ok P0:=Uf.ok mixed (q_bc N) trivial Tryz.func45 (by kernel_rfl) fun x y=>by kernel_rfl
def u_au:Uf:=⟨18,68,Tryz.f18,[.val (.agg T_)],[],
⟨[(2,.val (.list (.int .u8)))],[]⟩,[],
[(7,.loop [3] ⟨[(1,.ptr 600001 0),(4,.acc 700051),(5,.val (.int .i64))],[(600001,.box 46 (.val T_)),(700051,.nrow 5 (.int .u8) true true)]⟩ [(.exit 0,⟨[(1,.ptr 600001 0),(4,.acc 700051)],[(600001,.box 46 (.val T_)),(700051,.nrow 5 (.int .u8) true true)]⟩)])],
[(4,.cut [] [(.normal,⟨[(1,.ptr 600001 0),(3,.acc 700025)],[(600001,.box 46 (.val T_)),(700025,.nrow 3 (.int .i64) true true)]⟩)])],fun y=>(valW (.list (.int .u8)) y,[],[])⟩
def V_au (w_ac:M_→Option (Bool)) (w_N:List Int×Int→Option (List Int)) (w_aT:List Int×List UInt8→Option (List Int)) (w_bc:List Int→Option (Int)) (N:Nat) (x:M_):Option (List Int):=
 obind (w_ac x) fun b=>cnd (!b) (some []) (cnd (decide ((List.length [x.1,x.2.1,x.2.2.1,x.2.2.2.1,x.2.2.2.2.1,x.2.2.2.2.2.1,
 (↑(List.length x.2.2.2.2.2.2.1):Int)]+List.length x.2.2.2.2.2.2.1)*(8:Nat)≤(140737488355328:Nat))) (cnd (decide ((List.length ([x.1,x.2.1,
 x.2.2.1,x.2.2.2.1,x.2.2.2.2.1,x.2.2.2.2.2.1,(↑(List.length x.2.2.2.2.2.2.1):Int)]++x.2.2.2.2.2.2.1)+List.length [x.2.2.2.2.2.2.2.1,
 x.2.2.2.2.2.2.2.2.1])*(8:Nat)≤(140737488355328:Nat))) (obind (loopN N (fun(v:Int×A2_×List Int)=>cnd (decide (v.1<(↑(List.length ([x.1,x.2.1,x.2.2.1,x.2.2.2.1,x.2.2.2.2.1,x.2.2.2.2.2.1,(↑(List.length
 x.2.2.2.2.2.2.1):Int)]++x.2.2.2.2.2.2.1++[x.2.2.2.2.2.2.2.1,x.2.2.2.2.2.2.2.2.1])):Int))) (cnd (decide ((0:Int)≤v.1)&&decide (v.1 <
 (↑(List.length ([x.1,x.2.1,x.2.2.1,x.2.2.2.1,x.2.2.2.2.1,x.2.2.2.2.2.1,(↑(List.length x.2.2.2.2.2.2.1):Int)]++x.2.2.2.2.2.2.1++
 [x.2.2.2.2.2.2.2.1,x.2.2.2.2.2.2.2.2.1])):Int))) (obind (w_N (v.2.2,List.getD ([x.1,x.2.1,x.2.2.1,x.2.2.2.1,x.2.2.2.2.1,
 x.2.2.2.2.2.1,(↑(List.length x.2.2.2.2.2.2.1):Int)]++x.2.2.2.2.2.2.1++[x.2.2.2.2.2.2.2.1,x.2.2.2.2.2.2.2.2.1]) (Int.toNat v.1) (0:Int))) fun
 b=>some (Sum.inl (wr .i64 (v.1+(1:Int)),v.2.1,b))) none) (some (Sum.inr v.2))) ((0:Int),x,[])) fun(b:A2_×List Int)=>obind (w_aT (b.2,b.1.2.2.2.2.2.2.2.2.2)) fun b=>obind (w_bc b) fun b_1=>
 cnd (decide ((List.length b+List.length [wr .u8 (Int.fdiv b_1 ((2:Int) ^ (24:Nat))),wr .u8 (Int.fdiv b_1 ((2:Int) ^ (16:Nat))),wr .u8 (Int.fdiv
 b_1 ((2:Int) ^ (8:Nat))),wr .u8 b_1])*(1:Nat)≤(140737488355328:Nat))) (some (b++[wr .u8 (Int.fdiv b_1 ((2:Int) ^ (24:Nat))),wr .u8 (Int.fdiv
 b_1 ((2:Int) ^ (16:Nat))),wr .u8 (Int.fdiv b_1 ((2:Int) ^ (8:Nat))),wr .u8 b_1])) none) none) none)
theorem q_au:∀w_ac w_N w_aT w_bc N x,u_au.F L0 P0 (orcOf [u_ac.con w_ac,u_N.con w_N,u_aT.con w_aT,u_bc.con w_bc]) N x=V_au w_ac w_N w_aT w_bc N x:=by intros;kernel_rfl
def W_au (N:Nat):=V_au (W_ac N) (W_N N) (W_aT N) (W_bc N) N
theorem con_au_ok (N:Nat):(u_au.con (W_au N)).ok P0:=Uf.ok mixed (q_au (W_ac N) (W_N N) (W_aT N) (W_bc N) N) ⟨con_ac_ok N,con_N_ok N,con_aT_ok N,con_bc_ok N,trivial⟩ Tryz.func18 (by kernel_rfl) fun x y=>by kernel_rfl
def u_bH:Uf:=⟨4,228,Tryz.f4,[.val (.list (.int .u8)),.val (.list (.int .u8)),.val (.int .u8)],[],
⟨[(6,.val .bool)],[]⟩,[],
[(19,.loop [11,12] ⟨[(9,.ptr 600009 0),(10,.ptr 600010 0),(14,.val (.int .i64)),(15,.val (.int .i64))],[(600009,.box 46 (.val T_)),(600010,.box 39 (.val T2_))]⟩ [(.exit 2,⟨[(9,.ptr 600009 0),(10,.ptr 600010 0),(14,.val (.int .i64))],[(600009,.box 46 (.val T_)),(600010,.box 39 (.val T2_))]⟩),(.ret,⟨[(6,.val .bool)],[]⟩)]),
(15,.loop [11,12] ⟨[(9,.ptr 600009 0),(10,.ptr 600010 0),(13,.val (.int .i64))],[(600009,.box 46 (.val T_)),(600010,.box 39 (.val T2_))]⟩ [(.exit 0,⟨[],[]⟩),(.ret,⟨[(6,.val .bool)],[]⟩)])],
[(23,.cut [11,12] [(.normal,⟨[(9,.ptr 600009 0),(10,.ptr 600010 0)],[(600009,.box 46 (.val T_)),(600010,.box 39 (.val T2_))]⟩),(.exit 3,⟨[(9,.ptr 600009 0),(10,.ptr 600010 0)],[(600009,.box 46 (.val T_)),(600010,.box 39 (.val T2_))]⟩)]),
(22,.cut [11,12] [(.normal,⟨[(9,.ptr 600009 0),(10,.ptr 600010 0)],[(600009,.box 46 (.val T_)),(600010,.box 39 (.val T2_))]⟩),(.exit 3,⟨[(9,.ptr 600009 0),(10,.ptr 600010 0)],[(600009,.box 46 (.val T_)),(600010,.box 39 (.val T2_))]⟩)]),
(20,.cut [11,12] [(.normal,⟨[(9,.ptr 600009 0),(10,.ptr 600010 0),(14,.val (.int .i64))],[(600009,.box 46 (.val T_)),(600010,.box 39 (.val T2_))]⟩),(.ret,⟨[(6,.val .bool)],[]⟩)]),
(14,.cut [11] [(.normal,⟨[(9,.ptr 600009 0),(10,.ptr 600010 0),(12,.val (.list T4_))],[(600009,.box 46 (.val T_)),(600010,.box 39 (.val T2_))]⟩)]),
(10,.cut [] [(.normal,⟨[(8,.ptr 600008 0),(9,.ptr 600009 0)],[(600008,.box 39 (.val T2_)),(600009,.box 46 (.val T_))]⟩)])],fun y=>(valW .bool y,[],[])⟩
def V_bH (w_bu:Unit→Option (Bool)) (w_a4:List Int×Int→Option A3_) (w_4:List Int→Option (List Int×Int)) (w_C:Int×List Int×Int→Option ((List Int×Int)×M_)) (w_au:M_→Option (List Int)) (w_Q:A3_×List Int→Option (List (M_)×A3_)) (N:Nat) (x:List Int×List Int×Int):Option (Bool):=
 obind (w_bu ()) fun b=>cnd (!b) (some false) (cnd (decide ((150:Int)<(↑(List.length x.1):Int))) (some true) (cnd (decide ((15:Int) <
 (↑(List.length x.2.1):Int))) (some true) (obind (w_a4 (x.1,wr .i64 ((2:Int)+wr .i64 (Int.tmod x.2.2 (7:Int))))) fun b=>obind
 (w_4 x.2.1) fun b_1=>obind (w_C (wr .i64 ((2:Int)+wr .i64 (Int.tmod x.2.2 (7:Int))),b_1)) fun b_2=>obind (cnd (decide
 (b.2.2.2.1.2.2.2.1≠(0:Int))) (some (b,b_2.2.1,b.2.2.2.1.2.2.2.1,b_2.2.2.2.1,b.2.2.2.1.2.2.2.2.1,b_2.2.2.2.2.2)) (some (b,b_2.2))) fun(b:
 A3_×A2_)=>obind (w_au b.2) fun b_3=>obind (w_Q (b.1,b_3)) fun b_4=>cnd (decide
 ((↑(List.length b_4.2.2.2.2.2.1.2.2.2.2.1):Int)<(↑(List.length b.1.2.2.2.2.1.2.2.2.2.1):Int))) (some false) (obind (cnd (decide ((0:Int) ≤
 (↑(List.length b.1.2.2.2.2.1.2.2.2.2.1):Int))&&decide ((↑(List.length b.1.2.2.2.2.1.2.2.2.2.1):Int)≤(↑(List.length
 b_4.2.2.2.2.2.1.2.2.2.2.1):Int))) (some (List.drop (Int.toNat (↑(List.length b.1.2.2.2.2.1.2.2.2.2.1):Int)) (List.take (List.length
 b_4.2.2.2.2.2.1.2.2.2.2.1) b_4.2.2.2.2.2.1.2.2.2.2.1),b.2,b_4.2)) none) fun(b:List A4_×A2_×A3_)=>obind (loopN N (fun(v:Int×A2_×A3_)=>cnd (decide (v.1<(↑(List.length
 v.2.2.2.2.2.1.2.2.2.2.2.2.2.2.2.2.2.2):Int))) (obind (loopN N (fun(v_1:Int×Int×A2_×A3_)=>cnd (decide (v_1.2.1 <
 (↑(List.length b_4.1):Int))) (obind (obind (cnd (decide ((0:Int)≤v_1.2.1)&&decide (v_1.2.1<(↑(List.length b_4.1):Int))) (cnd (decide
 ((0:Int)≤v.1)&&decide (v.1<(↑(List.length v_1.2.2.2.2.2.2.1.2.2.2.2.2.2.2.2.2.2.2.2):Int))) (cnd (decide (Prod.fst (Prod.snd (Prod.snd
 (List.getD b_4.1 (Int.toNat v_1.2.1) ((0:Int),(0:Int),(0:Int),(0:Int),(0:Int),(0:Int),[],(0:Int),(0:Int),[]))))≠Prod.fst (List.getD
 v_1.2.2.2.2.2.2.1.2.2.2.2.2.2.2.2.2.2.2.2 (Int.toNat v.1) ((0:Int),(0:Int),(0:Int))))) (some (Sum.inr v_1.2.2)) (cnd (decide ((0:Int)≤v_1.2.1)
 && decide (v_1.2.1<(↑(List.length b_4.1):Int))) (cnd (decide (Prod.fst (List.getD b_4.1 (Int.toNat v_1.2.1) ((0:Int),(0:Int),(0:Int),(0:Int),
 (0:Int),(0:Int),[],(0:Int),(0:Int),[]))≠(7:Int))) (cnd (decide ((0:Int)≤v_1.2.1)&&decide (v_1.2.1<(↑(List.length b_4.1):Int))) (cnd
 (decide (Prod.fst (List.getD b_4.1 (Int.toNat v_1.2.1) ((0:Int),(0:Int),(0:Int),(0:Int),(0:Int),(0:Int),[],(0:Int),(0:Int),[]))≠(9:Int)))
 (some (Sum.inr v_1.2.2)) (some (Sum.inl v_1.2.2))) none) (some (Sum.inl v_1.2.2))) none)) none) none) fun(b_5:A2_×Bool×Int×List UInt8×A1_×A0_×Int ⊕
 A2_×A3_)=>selim (fun(b_6:A2_×A3_)=>obind (cnd (decide (b_6.1.1=(8:Int))) (cnd
 (decide ((0:Int)≤v_1.2.1)&&decide (v_1.2.1<(↑(List.length b_4.1):Int))) (cnd (decide (Prod.fst (Prod.snd (Prod.snd (List.getD b_4.1
 (Int.toNat v_1.2.1) ((0:Int),(0:Int),(0:Int),(0:Int),(0:Int),(0:Int),[],(0:Int),(0:Int),[]))))=b_6.1.2.1)) (some (Sum.inr b_6)) (some
 (Sum.inl b_6))) none) (some (Sum.inl b_6))) fun(b_7:A2_×Bool×Int×List UInt8×A1_×A0_×Int⊕A2_×A3_)=>selim (fun(b_8:
 A2_×A3_)=>cnd (decide ((↑(List.length b.1):Int)≤v_1.1)) (some (Sum.inr false)) (cnd (decide ((0:Int)≤v_1.2.1)
 && decide (v_1.2.1<(↑(List.length b_4.1):Int))) (cnd (decide ((0:Int)≤v_1.1)&&decide (v_1.1<(↑(List.length b.1):Int))) (cnd (decide
 (Prod.fst (Prod.snd (Prod.snd (Prod.snd (Prod.snd (Prod.snd (Prod.snd (Prod.snd (List.getD b_4.1 (Int.toNat v_1.2.1) ((0:Int),(0:Int),(0:Int),
 (0:Int),(0:Int),(0:Int),[],(0:Int),(0:Int),[])))))))))≠Prod.fst (Prod.snd (List.getD b.1 (Int.toNat v_1.1) ((0:Int),(0:Int),(0:Int),[],
 (0:Int)))))) (some (Sum.inr false)) (cnd (decide ((0:Int)≤v_1.2.1)&&decide (v_1.2.1<(↑(List.length b_4.1):Int))) (cnd (decide (Prod.fst
 (List.getD b_4.1 (Int.toNat v_1.2.1) ((0:Int),(0:Int),(0:Int),(0:Int),(0:Int),(0:Int),[],(0:Int),(0:Int),[]))=(7:Int))) (cnd (decide
 ((0:Int)≤v_1.1)&&decide (v_1.1<(↑(List.length b.1):Int))) (cnd (decide (Prod.fst (List.getD b.1 (Int.toNat v_1.1) ((0:Int),(0:Int),
 (0:Int),[],(0:Int)))≠(1:Int))) (some (Sum.inr false)) (cnd (decide ((0:Int)≤v_1.2.1)&&decide (v_1.2.1<(↑(List.length b_4.1):Int))) (cnd
 (decide ((0:Int)≤v_1.1)&&decide (v_1.1<(↑(List.length b.1):Int))) (cnd (!Prod.snd (Prod.snd (Prod.snd (Prod.snd (Prod.snd (Prod.snd
 (Prod.snd (Prod.snd (Prod.snd (List.getD b_4.1 (Int.toNat v_1.2.1) ((0:Int),(0:Int),(0:Int),(0:Int),(0:Int),(0:Int),[],(0:Int),(0:Int),
 []))))))))))==Prod.fst (Prod.snd (Prod.snd (Prod.snd (List.getD b.1 (Int.toNat v_1.1) ((0:Int),(0:Int),(0:Int),[],(0:Int))))))) (some (Sum.inr
 false)) (cnd (decide ((0:Int)≤v_1.2.1)&&decide (v_1.2.1<(↑(List.length b_4.1):Int))) (cnd (decide (Prod.fst (List.getD b_4.1 (Int.toNat
 v_1.2.1) ((0:Int),(0:Int),(0:Int),(0:Int),(0:Int),(0:Int),[],(0:Int),(0:Int),[]))=(9:Int))) (cnd (decide ((0:Int)≤v_1.1)&&decide
 (v_1.1<(↑(List.length b.1):Int))) (cnd (decide (Prod.fst (List.getD b.1 (Int.toNat v_1.1) ((0:Int),(0:Int),(0:Int),[],(0:Int)))≠(2:Int)))
 (some (Sum.inr false)) (cnd (decide ((0:Int)≤v_1.2.1)&&decide (v_1.2.1<(↑(List.length b_4.1):Int))) (cnd (decide ((0:Int)≤v_1.1)&&decide
 (v_1.1<(↑(List.length b.1):Int))) (cnd (decide (Prod.fst (Prod.snd (Prod.snd (Prod.snd (Prod.snd (Prod.snd (Prod.snd (Prod.snd (Prod.snd
 (List.getD b_4.1 (Int.toNat v_1.2.1) ((0:Int),(0:Int),(0:Int),(0:Int),(0:Int),(0:Int),[],(0:Int),(0:Int),[]))))))))))≠Prod.fst (Prod.snd
 (Prod.snd (List.getD b.1 (Int.toNat v_1.1) ((0:Int),(0:Int),(0:Int),[],(0:Int))))))) (some (Sum.inr false)) (some (Sum.inl (wr .i64 (v_1.1 +
 (1:Int)),b_8)))) none) none)) none) (some (Sum.inl (wr .i64 (v_1.1+(1:Int)),b_8)))) none)) none) none)) none) (cnd (decide ((0:Int)≤v_1.2.1)
 && decide (v_1.2.1<(↑(List.length b_4.1):Int))) (cnd (decide (Prod.fst (List.getD b_4.1 (Int.toNat v_1.2.1) ((0:Int),(0:Int),(0:Int),(0:Int),
 (0:Int),(0:Int),[],(0:Int),(0:Int),[]))=(9:Int))) (cnd (decide ((0:Int)≤v_1.1)&&decide (v_1.1<(↑(List.length b.1):Int))) (cnd (decide
 (Prod.fst (List.getD b.1 (Int.toNat v_1.1) ((0:Int),(0:Int),(0:Int),[],(0:Int)))≠(2:Int))) (some (Sum.inr false)) (cnd (decide ((0:Int) ≤
 v_1.2.1)&&decide (v_1.2.1<(↑(List.length b_4.1):Int))) (cnd (decide ((0:Int)≤v_1.1)&&decide (v_1.1<(↑(List.length b.1):Int))) (cnd
 (decide (Prod.fst (Prod.snd (Prod.snd (Prod.snd (Prod.snd (Prod.snd (Prod.snd (Prod.snd (Prod.snd (List.getD b_4.1 (Int.toNat v_1.2.1) ((0:Int),
 (0:Int),(0:Int),(0:Int),(0:Int),(0:Int),[],(0:Int),(0:Int),[]))))))))))≠Prod.fst (Prod.snd (Prod.snd (List.getD b.1 (Int.toNat v_1.1)
 ((0:Int),(0:Int),(0:Int),[],(0:Int))))))) (some (Sum.inr false)) (some (Sum.inl (wr .i64 (v_1.1+(1:Int)),b_8)))) none) none)) none) (some
 (Sum.inl (wr .i64 (v_1.1+(1:Int)),b_8)))) none)) none)) none) none)) (fun(c:A2_×A3_)=>some (Sum.inl (v_1.1,
 c))) b_7) (fun(c:A2_×A3_)=>some (Sum.inl (v_1.1,c))) b_5) fun(b:Int×A2_×Bool×Int×List UInt8×A1_×A0_×Int⊕Bool)
 => selim (fun(b:Int×A2_×A3_)=>some (Sum.inl (b.1,wr .i64 (v_1.2.1+(1:Int)),b.2))) (fun(c:Bool)=>some
 (Sum.inr (Sum.inr c))) b) (some (Sum.inr (Sum.inl (v_1.1,v_1.2.2))))) ((0:Int),(0:Int),v.2)) fun(b_5:Int×A2_×Bool×Int×List UInt8×A1_×A0_×Int ⊕
 Bool)=>selim (fun(b_6:Int×A2_×A3_)=>cnd (decide (b_6.1≠(↑(List.length b.1):Int))) (cnd (decide (b_6.2.1.1
 = (8:Int))) (cnd (decide ((0:Int)≤v.1)&&decide (v.1<(↑(List.length b_6.2.2.2.2.2.1.2.2.2.2.2.2.2.2.2.2.2.2):Int))) (cnd (!decide (Prod.fst
 (List.getD b_6.2.2.2.2.2.1.2.2.2.2.2.2.2.2.2.2.2.2 (Int.toNat v.1) ((0:Int),(0:Int),(0:Int)))=b_6.2.1.2.1)) (some (Sum.inr (Sum.inr false)))
 (some (Sum.inl (wr .i64 (v.1+(1:Int)),b_6.2)))) none) (some (Sum.inr (Sum.inr false)))) (some (Sum.inl (wr .i64 (v.1+(1:Int)),b_6.2)))) (fun
 (c:Bool)=>some (Sum.inr (Sum.inr c))) b_5) (some (Sum.inr (Sum.inl ())))) ((0:Int),b.2)) fun(b:PUnit⊕Bool)=>selim (fun(b:PUnit)=>
 some true) (fun(c:Bool)=>some c) b))))
theorem q_bH:∀w_bu w_a4 w_4 w_C w_au w_Q N x,u_bH.F L0 P0 (orcOf [u_bu.con w_bu,u_a4.con w_a4,u_4.con w_4,u_C.con w_C,u_au.con w_au,u_Q.con w_Q]) N x=V_bH w_bu w_a4 w_4 w_C w_au w_Q N x:=by intros;kernel_rfl
def W_bH (N:Nat):=V_bH (W_bu N) (W_a4 N) (W_4 N) (W_C N) (W_au N) (W_Q N) N
theorem con_bH_ok (N:Nat):(u_bH.con (W_bH N)).ok P0:=Uf.ok mixed (q_bH (W_bu N) (W_a4 N) (W_4 N) (W_C N) (W_au N) (W_Q N) N) ⟨con_bu_ok N,con_a4_ok N,con_4_ok N,con_C_ok N,con_au_ok N,con_Q_ok N,trivial⟩ Tryz.func4 (by kernel_rfl) fun x y=>by kernel_rfl
end
end Go.Proofs.YtgpgmncgbebgdaaGreat.nodeDownX
