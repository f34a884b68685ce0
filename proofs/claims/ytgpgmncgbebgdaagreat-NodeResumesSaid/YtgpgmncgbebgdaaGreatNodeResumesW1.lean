/- NodeResumes: for all arguments the call returns true. The law is brought to a function of Lean's own (W_..) by the machine of the texts beside it, and that is reckoned; no condition. -/
import Derived.Test.YtgpgmncgbebgdaaGreatNodeResumesW0
namespace Go.Proofs.YtgpgmncgbebgdaaGreat.nodeResumesX
open Go.Abs Go.RowKit Go.ChangeShapes Go.WideShapes Go.ChangeAt
set_option maxRecDepth 100000
set_option linter.unusedVariables false
set_option linter.unusedSimpArgs false
noncomputable section
def u_a1:Uf:=⟨34,78,Tryz.f34,[.ptr 0 0,.val (.int .i64)],[.box 72 T7_],
⟨[(0,.ptr 1000000 0),(4,.ptr 600004 0)],[(1000000,.box 72 (.val T7_)),(600004,.box 37 (.val T1_))]⟩,[true],
[(4,.loop [] ⟨[(0,.ptr 1000000 0),(4,.ptr 600004 0),(5,.ptr 600005 0),(6,.val (.int .i64)),(7,.val (.int .i64))],[(1000000,.box 72 (.val T7_)),(600004,.box 37 (.val T1_)),(600005,.box 37 (.val T1_))]⟩ [(.exit 0,⟨[(0,.ptr 1000000 0),(4,.ptr 600004 0),(5,.ptr 600005 0)],[(1000000,.box 72 (.val T7_)),(600004,.box 37 (.val T1_)),(600005,.box 37 (.val T1_))]⟩)])],
[],fun y=>(valW (.agg T1_) y.2,[.box 72 (cellsW T7_ y.1)],[])⟩
def V_a1 (w_b:Int×List Int×Int→Option (Int×List Int×Int)) (w_az:A0_×Int→Option A0_) (w_1:List Int×Int→Option (Bool×List Int×Int)) (w_ay:A0_×Int×Int→Option A0_) (w_m:A0_×Int→Option A0_) (w_aB:A0_×Int→Option (Bool×A0_×Int×Int)) (w_x:List Int×Int→Option (List UInt8×List Int×Int)) (w_ax:A0_×Int×List UInt8→Option A0_) (N:Nat) (x:Int×List Int×Int):Option ((List Int×Int)×A0_):=
 obind (w_b ((5:Int),x.2)) fun b=>obind (w_az (((0:Int),(0:Int),[],[],[],(0:Int),(0:Int)),wr .i64 ((1:Int)+b.1))) fun
 b_1=>obind (loopN N (fun(v:Int×Int×(List Int×Int)×A0_×A0_)=>cnd (decide (v.2.1<x.1)) (obind (w_1 v.2.2.1) fun b=>cnd (!b.1) (obind (w_b ((6:Int),b.2)) fun b=>cnd
 (decide (b.1=(0:Int))) (obind (w_b ((3:Int),b.2)) fun b=>obind (w_b ((4:Int),b.2)) fun b_2=>obind (w_ay
 (v.2.2.2.2,max (1:Int) (wr .i64 (wr .i64 (v.2.2.2.2.1-(1:Int))+b.1)),wr .i64 (max (1:Int) (wr .i64 (wr .i64 (v.2.2.2.2.1-(1:Int))+b.1)) +
 b_2.1))) fun b=>some (Sum.inl (v.1,wr .i64 (v.2.1+(1:Int)),b_2.2,v.2.2.2.1,b))) (cnd (decide (b.1=(1:Int))) (obind (w_b
 ((5:Int),b.2)) fun b=>obind (w_m (v.2.2.2.2,wr .i64 (v.2.2.2.2.1+b.1))) fun b_2=>some (Sum.inl (v.1,wr .i64 (v.2.1+(1:Int)),
 b.2,v.2.2.2.1,b_2))) (cnd (decide (b.1=(2:Int))) (obind (w_b ((6:Int),b.2)) fun b=>obind (w_aB (v.2.2.2.2,wr .i64 (wr
 .i64 (v.1+(1:Int))+b.1))) fun b_2=>some (Sum.inl (wr .i64 (wr .i64 (v.1+(1:Int))+b.1),wr .i64 (v.2.1+(1:Int)),b.2,v.2.2.2.1,
 b_2.2.1))) (obind (w_b ((5:Int),b.2)) fun b=>obind (w_x b.2) fun b_2=>obind (w_ax (v.2.2.2.2,max (1:Int) (wr
 .i64 (wr .i64 (v.2.2.2.2.1-(1:Int))+b.1)),b_2.1)) fun b=>some (Sum.inl (v.1,wr .i64 (v.2.1+(1:Int)),b_2.2,v.2.2.2.1,b)))))) (some
 (Sum.inr (b.2,v.2.2.2)))) (some (Sum.inr v.2.2))) ((0:Int),(0:Int),b.2,((0:Int),(0:Int),[],[],[],(0:Int),(0:Int)),b_1)) fun(b:(List Int×Int)×A0_×A0_)=>some (b.1,b.2.2)
theorem q_a1:∀w_b w_az w_1 w_ay w_m w_aB w_x w_ax N x,u_a1.F L0 P0 (orcOf [u_b.con w_b,u_az.con w_az,u_1.con w_1,u_ay.con w_ay,u_m.con w_m,u_aB.con w_aB,u_x.con w_x,u_ax.con w_ax]) N x=V_a1 w_b w_az w_1 w_ay w_m w_aB w_x w_ax N x:=by intros;kernel_rfl
def W_a1 (N:Nat):=V_a1 (W_b N) (W_az N) (W_1 N) (W_ay N) (W_m N) (W_aB N) (W_x N) (W_ax N) N
theorem con_a1_ok (N:Nat):(u_a1.con (W_a1 N)).ok P0:=Uf.ok mixed (q_a1 (W_b N) (W_az N) (W_1 N) (W_ay N) (W_m N) (W_aB N) (W_x N) (W_ax N) N) ⟨con_b_ok N,con_az_ok N,con_1_ok N,con_ay_ok N,con_m_ok N,con_aB_ok N,con_x_ok N,con_ax_ok N,trivial⟩ Tryz.func34 (by kernel_rfl) fun x y=>by kernel_rfl
def u_aZ:Uf:=⟨15,41,Tryz.f15,[.val (.list (.int .u8)),.val (.int .i64)],[],
⟨[(4,.ptr 600004 0)],[(600004,.box 39 (.val T2_))]⟩,[],
[],
[],fun y=>(valW (.agg T2_) y,[],[])⟩
def V_aZ (w_bu:List Int→Option (List Int×Int)) (w_b:Int×List Int×Int→Option (Int×List Int×Int)) (w_aY:A3_×Int×List UInt8×Int→Option (Bool×A3_)) (w_a6:Int×Int×List Int×Int→Option ((List Int×Int)×A1_)) (w_a1:Int×List Int×Int→Option ((List Int×Int)×A0_)) (N:Nat) (x:List Int×Int):Option A3_:=
 obind (w_bu x.1) fun b=>obind (w_b ((3:Int),b)) fun b=>obind (w_b ((3:Int),b.2)) fun b_1=>obind (w_b
 ((9:Int),b_1.2)) fun b_2=>obind (w_aY ((false,b.1,[],((0:Int),(0:Int),(0:Int),(0:Int),(0:Int),(0:Int),[],(0:Int),(0:Int),
 (0:Int),(0:Int),(0:Int),[]),((0:Int),(0:Int),[],[],[],(0:Int),(0:Int)),b_1.1),x.2,[(110:UInt8)],b_2.1)) fun b=>obind (w_a6 (x.2,(20:Int),b_2.2)) fun b_3=>cnd (decide (x.2≠(1:Int))) (obind (w_a1 ((12:Int),b_3.1)) fun b_4=>obind (w_b
 ((5:Int),b_4.1)) fun b_5=>cnd (decide (b_5.1=(0:Int))) (some (b.2.1,b.2.2.1,b.2.2.2.1,(b_3.2.1,b.2.2.1,b_3.2.2.2),((0:Int),(0:Int),[],
 [],[],(0:Int),(0:Int)),b.2.2.2.2.2.2)) (some (b.2.1,b.2.2.1,b.2.2.2.1,(b_3.2.1,b.2.2.1,b_3.2.2.2),b_4.2,b.2.2.2.2.2.2))) (some (b.2.1,
 b.2.2.1,b.2.2.2.1,(b_3.2.1,b.2.2.1,b_3.2.2.2),b.2.2.2.2.2))
theorem q_aZ:∀w_bu w_b w_aY w_a6 w_a1 N x,u_aZ.F L0 P0 (orcOf [u_bu.con w_bu,u_b.con w_b,u_aY.con w_aY,u_a6.con w_a6,u_a1.con w_a1]) N x=V_aZ w_bu w_b w_aY w_a6 w_a1 N x:=by intros;kernel_rfl
def W_aZ (N:Nat):=V_aZ (W_bu N) (W_b N) (W_aY N) (W_a6 N) (W_a1 N) N
theorem con_aZ_ok (N:Nat):(u_aZ.con (W_aZ N)).ok P0:=Uf.ok mixed (q_aZ (W_bu N) (W_b N) (W_aY N) (W_a6 N) (W_a1 N) N) ⟨con_bu_ok N,con_b_ok N,con_aY_ok N,con_a6_ok N,con_a1_ok N,trivial⟩ Tryz.func15 (by kernel_rfl) fun x y=>by kernel_rfl
def u_ao:Uf:=⟨89,9,Tryz.f89,[.val (.int .i64)],[],
⟨[(2,.val .bool)],[]⟩,[],
[],
[],fun y=>(valW .bool y,[],[])⟩
def V_ao (N:Nat) (x:Int):Option (Bool):=
 cnd (decide ((0:Int)≤x)) (some (decide (x≤(1000000:Int)))) (some false)
theorem q_ao:∀N x,u_ao.F L0 P0 (orcOf []) N x=V_ao N x:=by intros;kernel_rfl
def W_ao (N:Nat):=V_ao N
theorem con_ao_ok (N:Nat):(u_ao.con (W_ao N)).ok P0:=Uf.ok mixed (q_ao N) trivial Tryz.func89 (by kernel_rfl) fun x y=>by kernel_rfl
def u_v:Uf:=⟨56,26,Tryz.f56,[.val (.list (.int .i64)),.val (.list (.int .i64))],[],
⟨[(4,.val .bool)],[]⟩,[],
[(4,.loop [] ⟨[(5,.val (.int .i64))],[]⟩ [(.exit 0,⟨[],[]⟩),(.ret,⟨[(4,.val .bool)],[]⟩)])],
[],fun y=>(valW .bool y,[],[])⟩
def V_v (N:Nat) (x:List Int×List Int):Option (Bool):=
 cnd (decide ((↑(List.length x.1):Int)≠(↑(List.length x.2):Int))) (some false) (obind (loopN N (fun(v:Int)=>cnd (decide (v<(↑(List.length
 x.1):Int))) (cnd (decide ((0:Int)≤v)&&decide (v<(↑(List.length x.1):Int))) (cnd (decide ((0:Int)≤v)&&decide (v<(↑(List.length x.2):
 Int))) (cnd (decide (List.getD x.1 (Int.toNat v) (0:Int)≠List.getD x.2 (Int.toNat v) (0:Int))) (some (Sum.inr (Sum.inr false))) (some (Sum.inl (wr
 .i64 (v+(1:Int)))))) none) none) (some (Sum.inr (Sum.inl ())))) (Int.ofNat (0:Nat))) fun(b:PUnit⊕Bool)=>selim (fun(b:PUnit)=>some
 true) (fun(c:Bool)=>some c) b)
theorem q_v:∀N x,u_v.F L0 P0 (orcOf []) N x=V_v N x:=by intros;kernel_rfl
def W_v (N:Nat):=V_v N
theorem con_v_ok (N:Nat):(u_v.con (W_v N)).ok P0:=Uf.ok mixed (q_v N) trivial Tryz.func56 (by kernel_rfl) fun x y=>by kernel_rfl
def u_ak:Uf:=⟨91,73,Tryz.f91,[.val (.agg T_),.val (.agg T_)],[],
⟨[(4,.val .bool)],[]⟩,[],
[],
[(1000001,.reg [(12,[],⟨[(2,.ptr 600002 0),(3,.ptr 600003 0),(16,.val .bool)],[(600002,.box 46 (.val T_)),(600003,.box 46 (.val T_))]⟩),(7,[],⟨[(2,.ptr 600002 0),(3,.ptr 600003 0),(23,.val .bool)],[(600002,.box 46 (.val T_)),(600003,.box 46 (.val T_))]⟩),(7,[],⟨[(2,.ptr 600002 0),(3,.ptr 600003 0),(30,.val .bool)],[(600002,.box 46 (.val T_)),(600003,.box 46 (.val T_))]⟩),(7,[],⟨[(2,.ptr 600002 0),(3,.ptr 600003 0),(37,.val .bool)],[(600002,.box 46 (.val T_)),(600003,.box 46 (.val T_))]⟩),(7,[],⟨[(2,.ptr 600002 0),(3,.ptr 600003 0),(44,.val .bool)],[(600002,.box 46 (.val T_)),(600003,.box 46 (.val T_))]⟩),(7,[],⟨[(2,.ptr 600002 0),(3,.ptr 600003 0),(51,.val .bool)],[(600002,.box 46 (.val T_)),(600003,.box 46 (.val T_))]⟩),(7,[],⟨[(2,.ptr 600002 0),(3,.ptr 600003 0),(58,.val .bool)],[(600002,.box 46 (.val T_)),(600003,.box 46 (.val T_))]⟩),(7,[],⟨[(2,.ptr 600002 0),(3,.ptr 600003 0),(65,.val .bool)],[(600002,.box 46 (.val T_)),(600003,.box 46 (.val T_))]⟩)])],fun y=>(valW .bool y,[],[])⟩
def V_ak (w_v:List Int×List Int→Option (Bool)) (N:Nat) (x:(M_)×M_):Option (Bool):=
 obind (cnd (decide (x.1.1=x.2.1)) (some (decide (x.1.2.1=x.2.2.1),x)) (some (false,x))) fun(b:Bool×A2_×A2_)=>obind (cnd b.1 (some (decide
 (b.2.1.2.2.1=b.2.2.2.2.1),b.2)) (some (false,b.2))) fun(b:Bool×A2_×A2_)=>obind (cnd b.1 (some (decide (b.2.1.2.2.2.1=b.2.2.2.2.2.1),b.2)) (some
 (false,b.2))) fun(b:Bool×A2_×A2_)=>obind (cnd b.1 (some (decide (b.2.1.2.2.2.2.1=b.2.2.2.2.2.2.1),b.2)) (some (false,b.2))) fun(b:Bool×A2_×A2_)=>obind
 (cnd b.1 (some (decide (b.2.1.2.2.2.2.2.1=b.2.2.2.2.2.2.2.1),b.2)) (some (false,b.2))) fun(b:Bool×A2_×A2_)=>obind (cnd b.1 (some (decide
 (b.2.1.2.2.2.2.2.2.2.1=b.2.2.2.2.2.2.2.2.2.1),b.2)) (some (false,b.2))) fun(b:Bool×A2_×A2_)=>obind (cnd b.1 (some (decide (b.2.1.2.2.2.2.2.2.2.2.1
 = b.2.2.2.2.2.2.2.2.2.2.1),b.2)) (some (false,b.2))) fun(b:Bool×A2_×A2_)=>obind (cnd b.1 (some (b.2.1.2.2.2.2.2.2.2.2.2==b.2.2.2.2.2.2.2.2.2.2.2,
 b.2)) (some (false,b.2))) fun(b:Bool×A2_×A2_)=>cnd b.1 (obind (w_v (b.2.1.2.2.2.2.2.2.1,b.2.2.2.2.2.2.2.2.1)) fun b=>some b) (some
 false)
theorem q_ak:∀w_v N x,u_ak.F L0 P0 (orcOf [u_v.con w_v]) N x=V_ak w_v N x:=by intros;kernel_rfl
def W_ak (N:Nat):=V_ak (W_v N) N
theorem con_ak_ok (N:Nat):(u_ak.con (W_ak N)).ok P0:=Uf.ok mixed (q_ak (W_v N) N) ⟨con_v_ok N,trivial⟩ Tryz.func91 (by kernel_rfl) fun x y=>by kernel_rfl
def u_9:Uf:=⟨42,160,Tryz.f42,[.val (.agg T_)],[],
⟨[(2,.val .bool)],[]⟩,[],
[],
[(1000001,.reg [(8,[],⟨[(1,.ptr 600001 0),(12,.val .bool)],[(600001,.box 46 (.val T_))]⟩),(5,[],⟨[(1,.ptr 600001 0),(17,.val .bool)],[(600001,.box 46 (.val T_))]⟩),(5,[],⟨[(1,.ptr 600001 0),(22,.val .bool)],[(600001,.box 46 (.val T_))]⟩),(5,[],⟨[(1,.ptr 600001 0),(27,.val .bool)],[(600001,.box 46 (.val T_))]⟩),(5,[],⟨[(1,.ptr 600001 0),(32,.val .bool)],[(600001,.box 46 (.val T_))]⟩),(7,[],⟨[(1,.ptr 600001 0),(39,.val .bool)],[(600001,.box 46 (.val T_))]⟩),(5,[],⟨[(1,.ptr 600001 0),(44,.val .bool)],[(600001,.box 46 (.val T_))]⟩)]),
(1000009,.reg [(8,[],⟨[(1,.ptr 600001 0),(3,.ptr 600003 0),(80,.val .bool)],[(600001,.box 46 (.val T_)),(600003,.box 46 (.val T_))]⟩),(5,[],⟨[(1,.ptr 600001 0),(3,.ptr 600003 0),(85,.val .bool)],[(600001,.box 46 (.val T_)),(600003,.box 46 (.val T_))]⟩),(5,[],⟨[(1,.ptr 600001 0),(3,.ptr 600003 0),(90,.val .bool)],[(600001,.box 46 (.val T_)),(600003,.box 46 (.val T_))]⟩)]),
(1000017,.reg [(8,[],⟨[(1,.ptr 600001 0),(3,.ptr 600003 0),(132,.val .bool)],[(600001,.box 46 (.val T_)),(600003,.box 46 (.val T_))]⟩)]),
(20,.cut [] [(.normal,⟨[(1,.ptr 600001 0),(3,.ptr 600003 0),(139,.val .bool)],[(600001,.box 46 (.val T_)),(600003,.box 46 (.val T_))]⟩)]),
(8,.cut [] [(.normal,⟨[(1,.ptr 600001 0),(3,.ptr 600003 0),(61,.val .bool)],[(600001,.box 46 (.val T_)),(600003,.box 46 (.val T_))]⟩)]),
(22,.cut [] [(.normal,⟨[(1,.ptr 600001 0),(3,.ptr 600003 0),(4,.val .bool)],[(600001,.box 46 (.val T_)),(600003,.box 46 (.val T_))]⟩)])],fun y=>(valW .bool y,[],[])⟩
def V_9 (w_O:List Int→Option (Bool)) (w_ao:Int→Option (Bool)) (w_w:Int×Int→Option (Bool)) (w_ak:(M_)×M_→Option (Bool)) (N:Nat) (x:M_):Option (Bool):=
 obind (cnd (decide (x.1<(1:Int))) (some (true,x)) (some (decide ((9:Int)<x.1),x))) fun(b:Bool×A2_)=>obind (cnd b.1 (some (true,b.2)) (some (decide (b.2.2.1<(1:Int)),b.2))) fun(b:Bool×A2_)=>obind (cnd b.1 (some (true,b.2)) (some (decide ((8:Int)<b.2.2.1),b.2))) fun(b:Bool×A2_)=>obind (cnd b.1 (some (true,b.2)) (some (decide (b.2.2.2.1<(1:Int)),b.2))) fun(b
 : Bool×A2_)=>obind (cnd b.1 (some (true,b.2)) (some (decide ((8:Int) <
 b.2.2.2.1),b.2))) fun(b:Bool×A2_)=>obind (cnd b.1 (some (true,b.2)) (some
 (decide (b.2.2.1=b.2.2.2.1),b.2))) fun(b:Bool×A2_)=>obind (cnd b.1 (some
 (true,b.2)) (some (decide (b.2.2.2.2.1<(1:Int)),b.2))) fun(b:Bool×A2_)=>
 cnd b.1 (some false) (cnd (decide ((1073741824:Int)<b.2.2.2.2.1)) (some false) (obind (obind (cnd (decide (b.2.1=(2:Int))) (some (decide (b.2.1
 = (2:Int)),b.2,b.2.1,b.2.2.1,b.2.2.2.1,b.2.2.2.2.1,(0:Int),(0:Int),[],(0:Int),(0:Int),[])) (some (decide (b.2.1=(5:Int)),b.2,b.2.1,
 b.2.2.1,b.2.2.2.1,b.2.2.2.2.1,(0:Int),(0:Int),[],(0:Int),(0:Int),[]))) fun(b_1:Bool×A2_×A2_)=>cnd b_1.1 (obind (cnd (decide ((0:Int) ≤
 b_1.2.1.2.2.2.2.1)) (some (decide (b_1.2.1.2.2.2.2.1≤(1073741824:Int)),b_1.2.1,b_1.2.2.1,b_1.2.2.2.1,b_1.2.2.2.2.1,b_1.2.2.2.2.2.1,
 b_1.2.1.2.2.2.2.1,b_1.2.1.2.2.2.2.2.1,b_1.2.1.2.2.2.2.2.2.1,b_1.2.2.2.2.2.2.2.2.2)) (some (false,b_1.2.1,b_1.2.2.1,b_1.2.2.2.1,b_1.2.2.2.2.1,
 b_1.2.2.2.2.2.1,b_1.2.1.2.2.2.2.1,b_1.2.1.2.2.2.2.2.1,b_1.2.1.2.2.2.2.2.2.1,b_1.2.2.2.2.2.2.2.2.2))) fun(b:Bool×A2_×A2_)=>obind (cnd b.1 (some
 (decide ((0:Int)≤b.2.1.2.2.2.2.2.1),b.2)) (some (false,b.2))) fun(b:Bool×A2_×A2_)=>obind (cnd b.1 (some (decide (b.2.1.2.2.2.2.2.1 ≤
 (1073741824:Int)),b.2)) (some (false,b.2))) fun(b:Bool×A2_×A2_)=>cnd b.1 (obind (w_O b.2.1.2.2.2.2.2.2.1) fun b_2=>cnd (decide (b.2.1.1
 = (2:Int))) (cnd b_2 (obind (w_ao b.2.1.2.2.2.2.2.2.2.1) fun b_3=>some (b_3,b.2.1,b.2.2.1,b.2.2.2.1,b.2.2.2.2.1,b.2.2.2.2.2.1,
 b.2.2.2.2.2.2.1,b.2.2.2.2.2.2.2.1,b.2.2.2.2.2.2.2.2.1,b.2.1.2.2.2.2.2.2.2.1,b.2.2.2.2.2.2.2.2.2.2)) (some (false,b.2.1,b.2.2.1,b.2.2.2.1,
 b.2.2.2.2.1,b.2.2.2.2.2.1,b.2.2.2.2.2.2.1,b.2.2.2.2.2.2.2.1,b.2.2.2.2.2.2.2.2.1,b.2.1.2.2.2.2.2.2.2.1,b.2.2.2.2.2.2.2.2.2.2))) (cnd b_2 (obind
 (w_ao b.2.1.2.2.2.2.2.2.2.2.1) fun b_3=>some (b_3,b.2.1,b.2.2.1,b.2.2.2.1,b.2.2.2.2.1,b.2.2.2.2.2.1,b.2.2.2.2.2.2.1,
 b.2.2.2.2.2.2.2.1,b.2.2.2.2.2.2.2.2.1,b.2.2.2.2.2.2.2.2.2.1,b.2.1.2.2.2.2.2.2.2.2.1,b.2.2.2.2.2.2.2.2.2.2.2)) (some (false,b.2.1,b.2.2.1,
 b.2.2.2.1,b.2.2.2.2.1,b.2.2.2.2.2.1,b.2.2.2.2.2.2.1,b.2.2.2.2.2.2.2.1,b.2.2.2.2.2.2.2.2.1,b.2.2.2.2.2.2.2.2.2.1,b.2.1.2.2.2.2.2.2.2.2.1,
 b.2.2.2.2.2.2.2.2.2.2.2)))) (cnd (decide (b.2.1.1=(2:Int))) (some (false,b.2.1,b.2.2.1,b.2.2.2.1,b.2.2.2.2.1,b.2.2.2.2.2.1,b.2.2.2.2.2.2.1,
 b.2.2.2.2.2.2.2.1,b.2.2.2.2.2.2.2.2.1,b.2.1.2.2.2.2.2.2.2.1,b.2.2.2.2.2.2.2.2.2.2)) (some (false,b.2.1,b.2.2.1,b.2.2.2.1,b.2.2.2.2.1,
 b.2.2.2.2.2.1,b.2.2.2.2.2.2.1,b.2.2.2.2.2.2.2.1,b.2.2.2.2.2.2.2.2.1,b.2.2.2.2.2.2.2.2.2.1,b.2.1.2.2.2.2.2.2.2.2.1,b.2.2.2.2.2.2.2.2.2.2.2))))
 (cnd (decide (b.2.1=(7:Int))) (obind (cnd (decide ((1:Int)≤b_1.2.1.2.2.2.2.2.2.2.1)) (obind (w_ao b_1.2.1.2.2.2.2.2.2.2.1) fun b=>
 some (b,b_1.2.1,b_1.2.2.1,b_1.2.2.2.1,b_1.2.2.2.2.1,b_1.2.2.2.2.2.1,b_1.2.2.2.2.2.2.1,b_1.2.2.2.2.2.2.2.1,b_1.2.2.2.2.2.2.2.2.1,
 b_1.2.1.2.2.2.2.2.2.2.1,b_1.2.2.2.2.2.2.2.2.2.2.1,b_1.2.1.2.2.2.2.2.2.2.2.2)) (some (false,b_1.2.1,b_1.2.2.1,b_1.2.2.2.1,b_1.2.2.2.2.1,
 b_1.2.2.2.2.2.1,b_1.2.2.2.2.2.2.1,b_1.2.2.2.2.2.2.2.1,b_1.2.2.2.2.2.2.2.2.1,b_1.2.1.2.2.2.2.2.2.2.1,b_1.2.2.2.2.2.2.2.2.2.2.1,
 b_1.2.1.2.2.2.2.2.2.2.2.2))) fun(b:Bool×A2_×A2_)=>cnd b.1 (some (decide ((↑(List.length b.2.1.2.2.2.2.2.2.2.2.2):Int)≤(12:Int)),b.2)) (some (false,
 b.2))) (obind (cnd (decide (b.2.1=(8:Int))) (some (decide (b.2.1=(8:Int)),b_1.2)) (some (decide (b.2.1=(9:Int)),b_1.2))) fun(b:Bool×A2_×A2_)=>
 cnd b.1 (obind (w_w (b.2.1.2.2.2.2.2.2.2.1,b.2.1.2.2.2.2.2.2.2.2.1)) fun b_2=>some (b_2,b.2.1,b.2.2.1,b.2.2.2.1,b.2.2.2.2.1,
 b.2.2.2.2.2.1,b.2.2.2.2.2.2.1,b.2.2.2.2.2.2.2.1,b.2.2.2.2.2.2.2.2.1,b.2.1.2.2.2.2.2.2.2.1,b.2.1.2.2.2.2.2.2.2.2.1,b.2.2.2.2.2.2.2.2.2.2.2))
 (some (true,b.2))))) fun(b:Bool×A2_×A2_)=>cnd b.1 (obind (w_ak (b.2.2,b.2.1)) fun b=>some b) (some false)))
theorem q_9:∀w_O w_ao w_w w_ak N x,u_9.F L0 P0 (orcOf [u_O.con w_O,u_ao.con w_ao,u_w.con w_w,u_ak.con w_ak]) N x=V_9 w_O w_ao w_w w_ak N x:=by intros;kernel_rfl
def W_9 (N:Nat):=V_9 (W_O N) (W_ao N) (W_w N) (W_ak N) N
theorem con_9_ok (N:Nat):(u_9.con (W_9 N)).ok P0:=Uf.ok mixed (q_9 (W_O N) (W_ao N) (W_w N) (W_ak N) N) ⟨con_O_ok N,con_ao_ok N,con_w_ok N,con_ak_ok N,trivial⟩ Tryz.func42 (by kernel_rfl) fun x y=>by kernel_rfl
def u_N:Uf:=⟨43,25,Tryz.f43,[.val (.list (.int .u8)),.val (.int .i64)],[],
⟨[(4,.acc 700006)],[(700006,.nrow 5 (.int .u8) false true)]⟩,[],
[(2,.loop [] ⟨[(1,.val (.int .i64)),(5,.acc 700006)],[(700006,.nrow 5 (.int .u8) false true)]⟩ [(.exit 0,⟨[(1,.val (.int .i64)),(5,.acc 700006)],[(700006,.nrow 5 (.int .u8) false true)]⟩)])],
[],fun y=>(.acc 2000000 0,[],[.nrow 5 false true ⟨(.int .u8),y⟩])⟩
def V_N (N:Nat) (x:List Int×Int):Option (List Int):=
 cnd (decide (List.length x.1*(1:Nat)≤(140737488355328:Nat))) (obind (loopN N (fun(v:Int×List Int)=>cnd (decide ((128:Int)≤v.1)) (cnd
 (decide ((List.length v.2+List.length [wr .u8 (wr .i64 (Int.tmod v.1 (128:Int)+(128:Int)))])*(1:Nat)≤(140737488355328:Nat))) (some (Sum.inl
 (wr .i64 (Int.tdiv v.1 (128:Int)),v.2++[wr .u8 (wr .i64 (Int.tmod v.1 (128:Int)+(128:Int)))]))) none) (some (Sum.inr v))) (x.2,x.1)) fun(b:
 Int×List Int)=>cnd (decide ((List.length b.2+List.length [wr .u8 b.1])*(1:Nat)≤(140737488355328:Nat))) (some (b.2++[wr .u8 b.1])) none)
 none
theorem q_N:∀N x,u_N.F L0 P0 (orcOf []) N x=V_N N x:=by intros;kernel_rfl
def W_N (N:Nat):=V_N N
theorem con_N_ok (N:Nat):(u_N.con (W_N N)).ok P0:=Uf.ok mixed (q_N N) trivial Tryz.func43 (by kernel_rfl) fun x y=>by kernel_rfl
def u_aL:Uf:=⟨44,11,Tryz.f44,[.val (.list (.int .u8)),.val .str],[],
⟨[(4,.acc 700008)],[(700008,.nrow 5 (.int .u8) false true)]⟩,[],
[],
[],fun y=>(.acc 2000000 0,[],[.nrow 5 false true ⟨(.int .u8),y⟩])⟩
def V_aL (w_N:List Int×Int→Option (List Int)) (N:Nat) (x:List Int×List UInt8):Option (List Int):=
 obind (w_N (x.1,(↑(List.length x.2):Int))) fun b=>cnd (decide ((List.length b+List.length (List.map (fun(b:UInt8)=>(↑(UInt8.toNat b):Int)) x.2))*(1:Nat)≤(140737488355328:Nat))) (some (b++List.map (fun(b:UInt8)=>(↑(UInt8.toNat b):Int)) x.2)) none
theorem q_aL:∀w_N N x,u_aL.F L0 P0 (orcOf [u_N.con w_N]) N x=V_aL w_N N x:=by intros;kernel_rfl
def W_aL (N:Nat):=V_aL (W_N N) N
theorem con_aL_ok (N:Nat):(u_aL.con (W_aL N)).ok P0:=Uf.ok mixed (q_aL (W_N N) N) ⟨con_N_ok N,trivial⟩ Tryz.func44 (by kernel_rfl) fun x y=>by kernel_rfl
def u_a5:Uf:=⟨45,33,Tryz.f45,[.val (.list (.int .u8))],[],
⟨[(2,.val (.int .u32))],[]⟩,[],
[(7,.loop [] ⟨[(3,.val (.int .u32)),(5,.val (.int .i64))],[]⟩ [(.exit 2,⟨[(3,.val (.int .u32))],[]⟩)]),
(3,.loop [] ⟨[(3,.val (.int .u32)),(4,.val (.int .i64))],[]⟩ [(.exit 0,⟨[(3,.val (.int .u32))],[]⟩)])],
[],fun y=>(valW (.int .u32) y,[],[])⟩
def V_a5 (N:Nat) (x:List Int):Option (Int):=
 obind (loopN N (fun(v:Int×Int)=>cnd (decide (v.2<(↑(List.length x):Int))) (cnd (decide ((0:Int)≤v.2)&&decide (v.2<(↑(List.length x):
 Int))) (obind (loopN N (fun(v:Int×Int)=>cnd (decide (v.2<(8:Int))) (cnd (decide (Int.tmod v.1 (2:Int)=(1:Int))) (some (Sum.inl (wr .u32
 (↑(BitVec.toNat (BitVec.ofInt (32:Nat) (wr .u32 (Int.tdiv v.1 (2:Int))) ^^^ BitVec.ofInt (32:Nat) (3988292384:Int))):Int),wr .i64 (v.2 +
 (1:Int))))) (some (Sum.inl (wr .u32 (Int.tdiv v.1 (2:Int)),wr .i64 (v.2+(1:Int)))))) (some (Sum.inr v.1))) (wr .u32 (↑(BitVec.toNat (BitVec.ofInt
 (32:Nat) v.1 ^^^ BitVec.ofInt (32:Nat) (wr .u32 (List.getD x (Int.toNat v.2) (0:Int))))):Int),(0:Int))) fun(b:Int)=>some (Sum.inl (b,wr
 .i64 (v.2+(1:Int))))) none) (some (Sum.inr v.1))) ((4294967295:Int),(0:Int))) fun(b:Int)=>some (wr .u32 (↑(BitVec.toNat (BitVec.ofInt
 (32:Nat) (IntKind.max .u32) ^^^ BitVec.ofInt (32:Nat) b)):Int))
theorem q_a5:∀N x,u_a5.F L0 P0 (orcOf []) N x=V_a5 N x:=by intros;kernel_rfl
def W_a5 (N:Nat):=V_a5 N
theorem con_a5_ok (N:Nat):(u_a5.con (W_a5 N)).ok P0:=Uf.ok mixed (q_a5 N) trivial Tryz.func45 (by kernel_rfl) fun x y=>by kernel_rfl
def u_al:Uf:=⟨18,68,Tryz.f18,[.val (.agg T_)],[],
⟨[(2,.val (.list (.int .u8)))],[]⟩,[],
[(7,.loop [3] ⟨[(1,.ptr 600001 0),(4,.acc 700051),(5,.val (.int .i64))],[(600001,.box 46 (.val T_)),(700051,.nrow 5 (.int .u8) true true)]⟩ [(.exit 0,⟨[(1,.ptr 600001 0),(4,.acc 700051)],[(600001,.box 46 (.val T_)),(700051,.nrow 5 (.int .u8) true true)]⟩)])],
[(4,.cut [] [(.normal,⟨[(1,.ptr 600001 0),(3,.acc 700025)],[(600001,.box 46 (.val T_)),(700025,.nrow 3 (.int .i64) true true)]⟩)])],fun y=>(valW (.list (.int .u8)) y,[],[])⟩
def V_al (w_9:M_→Option (Bool)) (w_N:List Int×Int→Option (List Int)) (w_aL:List Int×List UInt8→Option (List Int)) (w_a5:List Int→Option (Int)) (N:Nat) (x:M_):Option (List Int):=
 obind (w_9 x) fun b=>cnd (!b) (some []) (cnd (decide ((List.length [x.1,x.2.1,x.2.2.1,x.2.2.2.1,x.2.2.2.2.1,x.2.2.2.2.2.1,
 (↑(List.length x.2.2.2.2.2.2.1):Int)]+List.length x.2.2.2.2.2.2.1)*(8:Nat)≤(140737488355328:Nat))) (cnd (decide ((List.length ([x.1,x.2.1,
 x.2.2.1,x.2.2.2.1,x.2.2.2.2.1,x.2.2.2.2.2.1,(↑(List.length x.2.2.2.2.2.2.1):Int)]++x.2.2.2.2.2.2.1)+List.length [x.2.2.2.2.2.2.2.1,
 x.2.2.2.2.2.2.2.2.1])*(8:Nat)≤(140737488355328:Nat))) (obind (loopN N (fun(v:Int×A2_×List Int)=>cnd (decide (v.1<(↑(List.length ([x.1,x.2.1,x.2.2.1,x.2.2.2.1,x.2.2.2.2.1,x.2.2.2.2.2.1,(↑(List.length
 x.2.2.2.2.2.2.1):Int)]++x.2.2.2.2.2.2.1++[x.2.2.2.2.2.2.2.1,x.2.2.2.2.2.2.2.2.1])):Int))) (cnd (decide ((0:Int)≤v.1)&&decide (v.1 <
 (↑(List.length ([x.1,x.2.1,x.2.2.1,x.2.2.2.1,x.2.2.2.2.1,x.2.2.2.2.2.1,(↑(List.length x.2.2.2.2.2.2.1):Int)]++x.2.2.2.2.2.2.1++
 [x.2.2.2.2.2.2.2.1,x.2.2.2.2.2.2.2.2.1])):Int))) (obind (w_N (v.2.2,List.getD ([x.1,x.2.1,x.2.2.1,x.2.2.2.1,x.2.2.2.2.1,
 x.2.2.2.2.2.1,(↑(List.length x.2.2.2.2.2.2.1):Int)]++x.2.2.2.2.2.2.1++[x.2.2.2.2.2.2.2.1,x.2.2.2.2.2.2.2.2.1]) (Int.toNat v.1) (0:Int))) fun
 b=>some (Sum.inl (wr .i64 (v.1+(1:Int)),v.2.1,b))) none) (some (Sum.inr v.2))) ((0:Int),x,[])) fun(b:A2_×List Int)=>obind (w_aL (b.2,b.1.2.2.2.2.2.2.2.2.2)) fun b=>obind (w_a5 b) fun b_1=>
 cnd (decide ((List.length b+List.length [wr .u8 (Int.fdiv b_1 ((2:Int) ^ (24:Nat))),wr .u8 (Int.fdiv b_1 ((2:Int) ^ (16:Nat))),wr .u8 (Int.fdiv
 b_1 ((2:Int) ^ (8:Nat))),wr .u8 b_1])*(1:Nat)≤(140737488355328:Nat))) (some (b++[wr .u8 (Int.fdiv b_1 ((2:Int) ^ (24:Nat))),wr .u8 (Int.fdiv
 b_1 ((2:Int) ^ (16:Nat))),wr .u8 (Int.fdiv b_1 ((2:Int) ^ (8:Nat))),wr .u8 b_1])) none) none) none)
theorem q_al:∀w_9 w_N w_aL w_a5 N x,u_al.F L0 P0 (orcOf [u_9.con w_9,u_N.con w_N,u_aL.con w_aL,u_a5.con w_a5]) N x=V_al w_9 w_N w_aL w_a5 N x:=by intros;kernel_rfl
def W_al (N:Nat):=V_al (W_9 N) (W_N N) (W_aL N) (W_a5 N) N
theorem con_al_ok (N:Nat):(u_al.con (W_al N)).ok P0:=Uf.ok mixed (q_al (W_9 N) (W_N N) (W_aL N) (W_a5 N) N) ⟨con_9_ok N,con_N_ok N,con_aL_ok N,con_a5_ok N,trivial⟩ Tryz.func18 (by kernel_rfl) fun x y=>by kernel_rfl
def u_aO:Uf:=⟨57,26,Tryz.f57,[.val (.list T3_),.val (.list T3_)],[],
⟨[(4,.val .bool)],[]⟩,[],
[(4,.loop [] ⟨[(5,.val (.int .i64))],[]⟩ [(.exit 0,⟨[],[]⟩),(.ret,⟨[(4,.val .bool)],[]⟩)])],
[],fun y=>(valW .bool y,[],[])⟩
def V_aO (N:Nat) (x:List (Int×Int×Int)×List (Int×Int×Int)):Option (Bool):=
 cnd (decide ((↑(List.length x.1):Int)≠(↑(List.length x.2):Int))) (some false) (obind (loopN N (fun(v:Int)=>cnd (decide (v<(↑(List.length
 x.1):Int))) (cnd (decide ((0:Int)≤v)&&decide (v<(↑(List.length x.1):Int))) (cnd (decide ((0:Int)≤v)&&decide (v<(↑(List.length x.2):
 Int))) (cnd (!(decide (Prod.fst (List.getD x.1 (Int.toNat v) ((0:Int),(0:Int),(0:Int)))=Prod.fst (List.getD x.2 (Int.toNat v) ((0:Int),(0:Int),
 (0:Int))))&&(decide (Prod.fst (Prod.snd (List.getD x.1 (Int.toNat v) ((0:Int),(0:Int),(0:Int))))=Prod.fst (Prod.snd (List.getD x.2 (Int.toNat
 v) ((0:Int),(0:Int),(0:Int)))))&&decide (Prod.snd (Prod.snd (List.getD x.1 (Int.toNat v) ((0:Int),(0:Int),(0:Int))))=Prod.snd (Prod.snd
 (List.getD x.2 (Int.toNat v) ((0:Int),(0:Int),(0:Int)))))))) (some (Sum.inr (Sum.inr false))) (some (Sum.inl (wr .i64 (v+(1:Int)))))) none)
 none) (some (Sum.inr (Sum.inl ())))) (Int.ofNat (0:Nat))) fun(b:PUnit⊕Bool)=>selim (fun(b:PUnit)=>some true) (fun(c:Bool)=>some c)
 b)
theorem q_aO:∀N x,u_aO.F L0 P0 (orcOf []) N x=V_aO N x:=by intros;kernel_rfl
def W_aO (N:Nat):=V_aO N
theorem con_aO_ok (N:Nat):(u_aO.con (W_aO N)).ok P0:=Uf.ok mixed (q_aO N) trivial Tryz.func57 (by kernel_rfl) fun x y=>by kernel_rfl
def u_aN:Uf:=⟨31,94,Tryz.f31,[.val (.agg T0_),.val (.agg T0_)],[],
⟨[(4,.val .bool)],[]⟩,[],
[],
[(1000001,.reg [(12,[],⟨[(2,.ptr 600002 0),(3,.ptr 600003 0),(16,.val .bool)],[(600002,.box 31 (.val T0_)),(600003,.box 31 (.val T0_))]⟩),(7,[],⟨[(2,.ptr 600002 0),(3,.ptr 600003 0),(23,.val .bool)],[(600002,.box 31 (.val T0_)),(600003,.box 31 (.val T0_))]⟩),(7,[],⟨[(2,.ptr 600002 0),(3,.ptr 600003 0),(30,.val .bool)],[(600002,.box 31 (.val T0_)),(600003,.box 31 (.val T0_))]⟩),(7,[],⟨[(2,.ptr 600002 0),(3,.ptr 600003 0),(37,.val .bool)],[(600002,.box 31 (.val T0_)),(600003,.box 31 (.val T0_))]⟩),(7,[],⟨[(2,.ptr 600002 0),(3,.ptr 600003 0),(44,.val .bool)],[(600002,.box 31 (.val T0_)),(600003,.box 31 (.val T0_))]⟩),(7,[],⟨[(2,.ptr 600002 0),(3,.ptr 600003 0),(51,.val .bool)],[(600002,.box 31 (.val T0_)),(600003,.box 31 (.val T0_))]⟩),(7,[],⟨[(2,.ptr 600002 0),(3,.ptr 600003 0),(58,.val .bool)],[(600002,.box 31 (.val T0_)),(600003,.box 31 (.val T0_))]⟩),(7,[],⟨[(2,.ptr 600002 0),(3,.ptr 600003 0),(65,.val .bool)],[(600002,.box 31 (.val T0_)),(600003,.box 31 (.val T0_))]⟩),(7,[],⟨[(2,.ptr 600002 0),(3,.ptr 600003 0),(72,.val .bool)],[(600002,.box 31 (.val T0_)),(600003,.box 31 (.val T0_))]⟩),(7,[],⟨[(2,.ptr 600002 0),(3,.ptr 600003 0),(79,.val .bool)],[(600002,.box 31 (.val T0_)),(600003,.box 31 (.val T0_))]⟩),(7,[],⟨[(2,.ptr 600002 0),(3,.ptr 600003 0),(86,.val .bool)],[(600002,.box 31 (.val T0_)),(600003,.box 31 (.val T0_))]⟩)])],fun y=>(valW .bool y,[],[])⟩
def V_aN (w_v:List Int×List Int→Option (Bool)) (w_aO:List (Int×Int×Int)×List (Int×Int×Int)→Option (Bool)) (N:Nat) (x:A1_×A1_):Option (Bool):=
 obind (cnd (decide (x.1.1=x.2.1)) (some (decide (x.1.2.1=x.2.2.1),x)) (some (false,x))) fun(b:Bool×A1_×A1_)=>obind (cnd b.1 (some (decide (b.2.1.2.2.1=b.2.2.2.2.1),b.2)) (some (false,b.2))) fun(b:Bool×A1_×A1_)=>obind (cnd b.1 (some (decide (b.2.1.2.2.2.1=b.2.2.2.2.2.1),b.2)) (some (false,b.2))) fun(b:Bool×A1_×A1_)=>obind (cnd b.1 (some (decide (b.2.1.2.2.2.2.1=b.2.2.2.2.2.2.1),b.2)) (some (false,b.2)))
 fun(b:Bool×A1_×A1_)=>obind (cnd b.1 (some (decide (b.2.1.2.2.2.2.2.1=b.2.2.2.2.2.2.2.1),
 b.2)) (some (false,b.2))) fun(b:Bool×A1_×A1_)=>obind (cnd b.1 (obind (w_v
 (b.2.1.2.2.2.2.2.2.1,b.2.2.2.2.2.2.2.2.1)) fun b_1=>some (b_1,b.2)) (some (false,b.2))) fun(b:Bool×A1_×A1_)=>obind (cnd b.1 (some (decide (b.2.1.2.2.2.2.2.2.2.1=b.2.2.2.2.2.2.2.2.2.1),b.2)) (some (false,b.2))) fun(b:Bool×A1_×A1_)=>obind (cnd b.1 (some (decide (b.2.1.2.2.2.2.2.2.2.2.1=b.2.2.2.2.2.2.2.2.2.2.1),b.2))
 (some (false,b.2))) fun(b:Bool×A1_×A1_)=>obind (cnd b.1 (some (decide
 (b.2.1.2.2.2.2.2.2.2.2.2.1=b.2.2.2.2.2.2.2.2.2.2.2.1),b.2)) (some (false,b.2))) fun(b:Bool×A1_×A1_)=>obind (cnd b.1 (some (decide (b.2.1.2.2.2.2.2.2.2.2.2.2.1=b.2.2.2.2.2.2.2.2.2.2.2.2.1),b.2)) (some (false,b.2))) fun(b:Bool×A1_×A1_)=>obind (cnd b.1 (some (decide (b.2.1.2.2.2.2.2.2.2.2.2.2.2.1=
 b.2.2.2.2.2.2.2.2.2.2.2.2.2.1),b.2)) (some (false,b.2))) fun(b:Bool×A1_×A1_)=>cnd b.1
 (obind (w_aO (b.2.1.2.2.2.2.2.2.2.2.2.2.2.2,b.2.2.2.2.2.2.2.2.2.2.2.2.2.2)) fun b=>some b) (some false)
theorem q_aN:∀w_v w_aO N x,u_aN.F L0 P0 (orcOf [u_v.con w_v,u_aO.con w_aO]) N x=V_aN w_v w_aO N x:=by intros;kernel_rfl
def W_aN (N:Nat):=V_aN (W_v N) (W_aO N) N
theorem con_aN_ok (N:Nat):(u_aN.con (W_aN N)).ok P0:=Uf.ok mixed (q_aN (W_v N) (W_aO N) N) ⟨con_v_ok N,con_aO_ok N,trivial⟩ Tryz.func31 (by kernel_rfl) fun x y=>by kernel_rfl
def u_au:Uf:=⟨58,26,Tryz.f58,[.val (.list T5_),.val (.list T5_)],[],
⟨[(4,.val .bool)],[]⟩,[],
[(4,.loop [] ⟨[(5,.val (.int .i64))],[]⟩ [(.exit 0,⟨[],[]⟩),(.ret,⟨[(4,.val .bool)],[]⟩)])],
[],fun y=>(valW .bool y,[],[])⟩
def V_au (N:Nat) (x:List (Int×List UInt8)×List (Int×List UInt8)):Option (Bool):=
 cnd (decide ((↑(List.length x.1):Int)≠(↑(List.length x.2):Int))) (some false) (obind (loopN N (fun(v:Int)=>cnd (decide (v<(↑(List.length
 x.1):Int))) (cnd (decide ((0:Int)≤v)&&decide (v<(↑(List.length x.1):Int))) (cnd (decide ((0:Int)≤v)&&decide (v<(↑(List.length x.2):
 Int))) (cnd (!(decide (Prod.fst (List.getD x.1 (Int.toNat v) ((0:Int),[]))=Prod.fst (List.getD x.2 (Int.toNat v) ((0:Int),[])))&&Prod.snd
 (List.getD x.1 (Int.toNat v) ((0:Int),[]))==Prod.snd (List.getD x.2 (Int.toNat v) ((0:Int),[])))) (some (Sum.inr (Sum.inr false))) (some
 (Sum.inl (wr .i64 (v+(1:Int)))))) none) none) (some (Sum.inr (Sum.inl ())))) (Int.ofNat (0:Nat))) fun(b:PUnit⊕Bool)=>selim (fun(b:PUnit)
 => some true) (fun(c:Bool)=>some c) b)
theorem q_au:∀N x,u_au.F L0 P0 (orcOf []) N x=V_au N x:=by intros;kernel_rfl
def W_au (N:Nat):=V_au N
theorem con_au_ok (N:Nat):(u_au.con (W_au N)).ok P0:=Uf.ok mixed (q_au N) trivial Tryz.func58 (by kernel_rfl) fun x y=>by kernel_rfl
def u_aF:Uf:=⟨59,26,Tryz.f59,[.val (.list T4_),.val (.list T4_)],[],
⟨[(4,.val .bool)],[]⟩,[],
[(4,.loop [] ⟨[(5,.val (.int .i64))],[]⟩ [(.exit 0,⟨[],[]⟩),(.ret,⟨[(4,.val .bool)],[]⟩)])],
[],fun y=>(valW .bool y,[],[])⟩
def V_aF (N:Nat) (x:List A4_×List A4_):Option (Bool):=
 cnd (decide ((↑(List.length x.1):Int)≠(↑(List.length x.2):Int))) (some false) (obind (loopN N (fun(v:Int)=>cnd (decide (v<(↑(List.length
 x.1):Int))) (cnd (decide ((0:Int)≤v)&&decide (v<(↑(List.length x.1):Int))) (cnd (decide ((0:Int)≤v)&&decide (v<(↑(List.length x.2):
 Int))) (cnd (!(decide (Prod.fst (List.getD x.1 (Int.toNat v) ((0:Int),(0:Int),(0:Int),[],(0:Int)))=Prod.fst (List.getD x.2 (Int.toNat v)
 ((0:Int),(0:Int),(0:Int),[],(0:Int))))&&(decide (Prod.fst (Prod.snd (List.getD x.1 (Int.toNat v) ((0:Int),(0:Int),(0:Int),[],(0:Int))))=
 Prod.fst (Prod.snd (List.getD x.2 (Int.toNat v) ((0:Int),(0:Int),(0:Int),[],(0:Int)))))&&(decide (Prod.fst (Prod.snd (Prod.snd (List.getD x.1
 (Int.toNat v) ((0:Int),(0:Int),(0:Int),[],(0:Int)))))=Prod.fst (Prod.snd (Prod.snd (List.getD x.2 (Int.toNat v) ((0:Int),(0:Int),(0:Int),
 [],(0:Int))))))&&(Prod.fst (Prod.snd (Prod.snd (Prod.snd (List.getD x.1 (Int.toNat v) ((0:Int),(0:Int),(0:Int),[],(0:Int))))))==Prod.fst
 (Prod.snd (Prod.snd (Prod.snd (List.getD x.2 (Int.toNat v) ((0:Int),(0:Int),(0:Int),[],(0:Int))))))&&decide (Prod.snd (Prod.snd (Prod.snd
 (Prod.snd (List.getD x.1 (Int.toNat v) ((0:Int),(0:Int),(0:Int),[],(0:Int))))))=Prod.snd (Prod.snd (Prod.snd (Prod.snd (List.getD x.2
 (Int.toNat v) ((0:Int),(0:Int),(0:Int),[],(0:Int)))))))))))) (some (Sum.inr (Sum.inr false))) (some (Sum.inl (wr .i64 (v+(1:Int)))))) none)
 none) (some (Sum.inr (Sum.inl ())))) (Int.ofNat (0:Nat))) fun(b:PUnit⊕Bool)=>selim (fun(b:PUnit)=>some true) (fun(c:Bool)=>some c)
 b)
theorem q_aF:∀N x,u_aF.F L0 P0 (orcOf []) N x=V_aF N x:=by intros;kernel_rfl
def W_aF (N:Nat):=V_aF N
theorem con_aF_ok (N:Nat):(u_aF.con (W_aF N)).ok P0:=Uf.ok mixed (q_aF N) trivial Tryz.func59 (by kernel_rfl) fun x y=>by kernel_rfl
def u_aJ:Uf:=⟨32,45,Tryz.f32,[.val (.agg T1_),.val (.agg T1_)],[],
⟨[(4,.val .bool)],[]⟩,[],
[],
[(1000001,.reg [(12,[],⟨[(2,.ptr 600002 0),(3,.ptr 600003 0),(16,.val .bool)],[(600002,.box 37 (.val T1_)),(600003,.box 37 (.val T1_))]⟩),(7,[],⟨[(2,.ptr 600002 0),(3,.ptr 600003 0),(23,.val .bool)],[(600002,.box 37 (.val T1_)),(600003,.box 37 (.val T1_))]⟩),(7,[],⟨[(2,.ptr 600002 0),(3,.ptr 600003 0),(30,.val .bool)],[(600002,.box 37 (.val T1_)),(600003,.box 37 (.val T1_))]⟩),(7,[],⟨[(2,.ptr 600002 0),(3,.ptr 600003 0),(37,.val .bool)],[(600002,.box 37 (.val T1_)),(600003,.box 37 (.val T1_))]⟩)])],fun y=>(valW .bool y,[],[])⟩
def V_aJ (w_au:List (Int×List UInt8)×List (Int×List UInt8)→Option (Bool)) (w_aF:List A4_×List A4_→Option (Bool)) (N:Nat) (x:A0_×A0_):Option (Bool):=
 obind (cnd (decide (x.1.1=x.2.1)) (some (decide (x.1.2.1=x.2.2.1),x)) (some (false,x))) fun(b:Bool×A0_×A0_)=>obind (cnd b.1 (obind (w_au (b.2.1.2.2.1,b.2.2.2.2.1)) fun b_1=>some
 (b_1,b.2)) (some (false,b.2))) fun(b:Bool×A0_×A0_)=>
 obind (cnd b.1 (obind (w_au (b.2.1.2.2.2.1,b.2.2.2.2.2.1)) fun b_1=>some (b_1,b.2)) (some (false,b.2))) fun(b:Bool×A0_×A0_)=>obind (cnd b.1 (obind (w_aF
 (b.2.1.2.2.2.2.1,b.2.2.2.2.2.2.1)) fun b_1=>some (b_1,b.2)) (some (false,b.2))) fun(b:Bool×A0_×A0_)=>cnd b.1 (some (decide (b.2.1.2.2.2.2.2.1=b.2.2.2.2.2.2.2.1)&&decide (b.2.1.2.2.2.2.2.2=
 b.2.2.2.2.2.2.2.2))) (some false)
theorem q_aJ:∀w_au w_aF N x,u_aJ.F L0 P0 (orcOf [u_au.con w_au,u_aF.con w_aF]) N x=V_aJ w_au w_aF N x:=by intros;kernel_rfl
def W_aJ (N:Nat):=V_aJ (W_au N) (W_aF N) N
theorem con_aJ_ok (N:Nat):(u_aJ.con (W_aJ N)).ok P0:=Uf.ok mixed (q_aJ (W_au N) (W_aF N) N) ⟨con_au_ok N,con_aF_ok N,trivial⟩ Tryz.func32 (by kernel_rfl) fun x y=>by kernel_rfl
def u_aK:Uf:=⟨14,45,Tryz.f14,[.val (.agg T2_),.val (.agg T2_)],[],
⟨[(4,.val .bool)],[]⟩,[],
[],
[(1000001,.reg [(12,[],⟨[(2,.ptr 600002 0),(3,.ptr 600003 0),(16,.val .bool)],[(600002,.box 39 (.val T2_)),(600003,.box 39 (.val T2_))]⟩),(7,[],⟨[(2,.ptr 600002 0),(3,.ptr 600003 0),(23,.val .bool)],[(600002,.box 39 (.val T2_)),(600003,.box 39 (.val T2_))]⟩),(7,[],⟨[(2,.ptr 600002 0),(3,.ptr 600003 0),(30,.val .bool)],[(600002,.box 39 (.val T2_)),(600003,.box 39 (.val T2_))]⟩),(7,[],⟨[(2,.ptr 600002 0),(3,.ptr 600003 0),(37,.val .bool)],[(600002,.box 39 (.val T2_)),(600003,.box 39 (.val T2_))]⟩)])],fun y=>(valW .bool y,[],[])⟩
def V_aK (w_aN:A1_×A1_→Option (Bool)) (w_aJ:A0_×A0_→Option (Bool)) (N:Nat) (x:A3_×A3_):Option (Bool):=
 obind (cnd (x.1.1==x.2.1) (some (decide (x.1.2.1=x.2.2.1),x)) (some (false,x))) fun(b:Bool×A3_×A3_)=>obind (cnd b.1 (some (b.2.1.2.2.1==b.2.2.2.2.1,b.2)) (some (false,b.2))) fun(b:Bool×A3_×A3_)=>obind (cnd b.1 (obind (w_aN (b.2.1.2.2.2.1,b.2.2.2.2.2.1)) fun b_1=>some
 (b_1,b.2)) (some (false,b.2))) fun(b:Bool×A3_×A3_)=>obind (cnd b.1 (obind
 (w_aJ (b.2.1.2.2.2.2.1,b.2.2.2.2.2.2.1)) fun b_1=>some (b_1,b.2)) (some (false,b.2))) fun(b:Bool×A3_×A3_)=>cnd b.1 (some (decide (b.2.1.2.2.2.2.2=b.2.2.2.2.2.2.2))) (some false)
theorem q_aK:∀w_aN w_aJ N x,u_aK.F L0 P0 (orcOf [u_aN.con w_aN,u_aJ.con w_aJ]) N x=V_aK w_aN w_aJ N x:=by intros;kernel_rfl
def W_aK (N:Nat):=V_aK (W_aN N) (W_aJ N) N
theorem con_aK_ok (N:Nat):(u_aK.con (W_aK N)).ok P0:=Uf.ok mixed (q_aK (W_aN N) (W_aJ N) N) ⟨con_aN_ok N,con_aJ_ok N,trivial⟩ Tryz.func14 (by kernel_rfl) fun x y=>by kernel_rfl
def u_bN:Uf:=⟨6,126,Tryz.f6,[.val (.list (.int .u8)),.val (.int .u8),.val (.int .u8)],[],
⟨[(6,.val .bool)],[]⟩,[],
[],
[(12,.cut [] [(.normal,⟨[(8,.ptr 600008 0),(9,.ptr 600009 0)],[(600008,.box 39 (.val T2_)),(600009,.box 46 (.val T_))]⟩)])],fun y=>(valW .bool y,[],[])⟩
def V_bN (w_bn:Unit→Option (Bool)) (w_aZ:List Int×Int→Option A3_) (w_al:M_→Option (List Int)) (w_G:A3_×List Int→Option (List (M_)×A3_)) (w_aK:A3_×A3_→Option (Bool)) (N:Nat) (x:List Int×Int×Int):Option (Bool):=
 obind (w_bn ()) fun b=>cnd (!b) (some false) (cnd (decide ((150:Int)<(↑(List.length x.1):Int))) (some true) (obind (w_aZ
 (x.1,wr .i64 ((2:Int)+wr .i64 (Int.tmod x.2.1 (7:Int))))) fun b=>cnd (decide (b.2.2.2.1.2.2.2.2.2.2.2.2.2.1=(0:Int))) (some true) (cnd
 (decide (b.2.2.2.1.2.2.2.2.2.2.2.2.2.1=wr .i64 ((2:Int)+wr .i64 (Int.tmod x.2.1 (7:Int))))) (some true) (obind (cnd (decide
 (b.2.2.2.1.2.2.2.2.2.2.2.2.2.1≠(1:Int))) (some (b,(2:Int),b.2.2.2.1.2.2.2.2.2.2.2.2.2.1,wr .i64 ((2:Int)+wr .i64 (Int.tmod x.2.1 (7:Int))),
 (9:Int),(0:Int),(0:Int),[(1:Int),b.2.2.2.1.2.2.2.2.2.2.2.2.2.1],wr .i64 ((1:Int)+wr .i64 (Int.tmod x.2.2 (30:Int))),(0:Int),[])) (some (b,
 (2:Int),b.2.2.2.1.2.2.2.2.2.2.2.2.2.1,wr .i64 ((2:Int)+wr .i64 (Int.tmod x.2.1 (7:Int))),(9:Int),(0:Int),(0:Int),[(1:Int)],wr .i64 ((1:Int)
 + wr .i64 (Int.tmod x.2.2 (30:Int))),(0:Int),[]))) fun(b:A3_×A2_)=>obind (w_al b.2) fun b_1=>obind
 (w_G (b.1,b_1)) fun b_2=>cnd (decide (b_2.2.2.2.2.1.2.2.2.1≠b.2.2.1)) (obind (w_aK (b_2.2,b.1)) fun b=>cnd b (some
 (decide ((↑(List.length b_2.1):Int)=(0:Int)))) (some false)) (cnd (decide ((↑(List.length b_2.1):Int)≠(0:Int))) (some false) (cnd (decide
 ((↑(List.length b_2.2.2.2.2.2.1.2.2.2.2.1):Int)≠(↑(List.length b.1.2.2.2.2.1.2.2.2.2.1):Int))) (some false) (cnd (decide (b.1.2.2.2.2.1.1=
 (0:Int))) (cnd (decide (b_2.2.2.2.2.2.1.1=b.2.2.2.2.2.2.2.2.1)) (some (decide (b_2.2.2.2.2.2.1.2.1=wr .i64 (b.2.2.2.2.2.2.2.2.1-(1:Int)))))
 (some false)) (cnd (decide (b_2.2.2.2.2.2.1.1=b.1.2.2.2.2.1.1)) (some (decide (b_2.2.2.2.2.2.1.2.1=max b.1.2.2.2.2.1.2.1 (wr .i64
 (b.2.2.2.2.2.2.2.2.1-(1:Int)))))) (some false)))))))))
theorem q_bN:∀w_bn w_aZ w_al w_G w_aK N x,u_bN.F L0 P0 (orcOf [u_bn.con w_bn,u_aZ.con w_aZ,u_al.con w_al,u_G.con w_G,u_aK.con w_aK]) N x=V_bN w_bn w_aZ w_al w_G w_aK N x:=by intros;kernel_rfl
def W_bN (N:Nat):=V_bN (W_bn N) (W_aZ N) (W_al N) (W_G N) (W_aK N) N
theorem con_bN_ok (N:Nat):(u_bN.con (W_bN N)).ok P0:=Uf.ok mixed (q_bN (W_bn N) (W_aZ N) (W_al N) (W_G N) (W_aK N) N) ⟨con_bn_ok N,con_aZ_ok N,con_al_ok N,con_G_ok N,con_aK_ok N,trivial⟩ Tryz.func6 (by kernel_rfl) fun x y=>by kernel_rfl
end
end Go.Proofs.YtgpgmncgbebgdaaGreat.nodeResumesX
