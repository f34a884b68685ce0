/- NodeDeaf: for all arguments the call returns true. The law is brought to a function of Lean's own (W_..) by the machine of the texts beside it, and that is reckoned; no condition. -/
import Derived.Test.YtgpgmncgbebgdaaGreatNodeDeafW0
namespace Go.Proofs.YtgpgmncgbebgdaaGreat.nodeDeafX
open Go.Abs Go.RowKit Go.ChangeShapes Go.WideShapes Go.ChangeAt
set_option maxRecDepth 100000
set_option linter.unusedVariables false
set_option linter.unusedSimpArgs false
noncomputable section
def u_a3:Uf:=⟨34,78,Tryz.f34,[.ptr 0 0,.val (.int .i64)],[.box 72 T7_],
⟨[(0,.ptr 1000000 0),(4,.ptr 600004 0)],[(1000000,.box 72 (.val T7_)),(600004,.box 37 (.val T1_))]⟩,[true],
[(4,.loop [] ⟨[(0,.ptr 1000000 0),(4,.ptr 600004 0),(5,.ptr 600005 0),(6,.val (.int .i64)),(7,.val (.int .i64))],[(1000000,.box 72 (.val T7_)),(600004,.box 37 (.val T1_)),(600005,.box 37 (.val T1_))]⟩ [(.exit 0,⟨[(0,.ptr 1000000 0),(4,.ptr 600004 0),(5,.ptr 600005 0)],[(1000000,.box 72 (.val T7_)),(600004,.box 37 (.val T1_)),(600005,.box 37 (.val T1_))]⟩)])],
[],fun y=>(valW (.agg T1_) y.2,[.box 72 (cellsW T7_ y.1)],[])⟩
def V_a3 (w_b:Int×List Int×Int→Option (Int×List Int×Int)) (w_aH:A0_×Int→Option A0_) (w_6:List Int×Int→Option (Bool×List Int×Int)) (w_aG:A0_×Int×Int→Option A0_) (w_m:A0_×Int→Option A0_) (w_aJ:A0_×Int→Option (Bool×A0_×Int×Int)) (w_H:List Int×Int→Option (List UInt8×List Int×Int)) (w_aF:A0_×Int×List UInt8→Option A0_) (N:Nat) (x:Int×List Int×Int):Option ((List Int×Int)×A0_):=
 obind (w_b ((5:Int),x.2)) fun b=>obind (w_aH (((0:Int),(0:Int),[],[],[],(0:Int),(0:Int)),wr .i64 ((1:Int)+b.1))) fun
 b_1=>obind (loopN N (fun(v:Int×Int×(List Int×Int)×A0_×A0_)=>cnd (decide (v.2.1<x.1)) (obind (w_6 v.2.2.1) fun b=>cnd (!b.1) (obind (w_b ((6:Int),b.2)) fun b=>cnd
 (decide (b.1=(0:Int))) (obind (w_b ((3:Int),b.2)) fun b=>obind (w_b ((4:Int),b.2)) fun b_2=>obind (w_aG
 (v.2.2.2.2,max (1:Int) (wr .i64 (wr .i64 (v.2.2.2.2.1-(1:Int))+b.1)),wr .i64 (max (1:Int) (wr .i64 (wr .i64 (v.2.2.2.2.1-(1:Int))+b.1)) +
 b_2.1))) fun b=>some (Sum.inl (v.1,wr .i64 (v.2.1+(1:Int)),b_2.2,v.2.2.2.1,b))) (cnd (decide (b.1=(1:Int))) (obind (w_b
 ((5:Int),b.2)) fun b=>obind (w_m (v.2.2.2.2,wr .i64 (v.2.2.2.2.1+b.1))) fun b_2=>some (Sum.inl (v.1,wr .i64 (v.2.1+(1:Int)),
 b.2,v.2.2.2.1,b_2))) (cnd (decide (b.1=(2:Int))) (obind (w_b ((6:Int),b.2)) fun b=>obind (w_aJ (v.2.2.2.2,wr .i64 (wr
 .i64 (v.1+(1:Int))+b.1))) fun b_2=>some (Sum.inl (wr .i64 (wr .i64 (v.1+(1:Int))+b.1),wr .i64 (v.2.1+(1:Int)),b.2,v.2.2.2.1,
 b_2.2.1))) (obind (w_b ((5:Int),b.2)) fun b=>obind (w_H b.2) fun b_2=>obind (w_aF (v.2.2.2.2,max (1:Int) (wr
 .i64 (wr .i64 (v.2.2.2.2.1-(1:Int))+b.1)),b_2.1)) fun b=>some (Sum.inl (v.1,wr .i64 (v.2.1+(1:Int)),b_2.2,v.2.2.2.1,b)))))) (some
 (Sum.inr (b.2,v.2.2.2)))) (some (Sum.inr v.2.2))) ((0:Int),(0:Int),b.2,((0:Int),(0:Int),[],[],[],(0:Int),(0:Int)),b_1)) fun(b:(List Int×Int)×A0_×A0_)=>some (b.1,b.2.2)
theorem q_a3:∀w_b w_aH w_6 w_aG w_m w_aJ w_H w_aF N x,u_a3.F L0 P0 (orcOf [u_b.con w_b,u_aH.con w_aH,u_6.con w_6,u_aG.con w_aG,u_m.con w_m,u_aJ.con w_aJ,u_H.con w_H,u_aF.con w_aF]) N x=V_a3 w_b w_aH w_6 w_aG w_m w_aJ w_H w_aF N x:=by intros;kernel_rfl
def W_a3 (N:Nat):=V_a3 (W_b N) (W_aH N) (W_6 N) (W_aG N) (W_m N) (W_aJ N) (W_H N) (W_aF N) N
theorem con_a3_ok (N:Nat):(u_a3.con (W_a3 N)).ok P0:=Uf.ok mixed (q_a3 (W_b N) (W_aH N) (W_6 N) (W_aG N) (W_m N) (W_aJ N) (W_H N) (W_aF N) N) ⟨con_b_ok N,con_aH_ok N,con_6_ok N,con_aG_ok N,con_m_ok N,con_aJ_ok N,con_H_ok N,con_aF_ok N,trivial⟩ Tryz.func34 (by kernel_rfl) fun x y=>by kernel_rfl
def u_aZ:Uf:=⟨15,41,Tryz.f15,[.val (.list (.int .u8)),.val (.int .i64)],[],
⟨[(4,.ptr 600004 0)],[(600004,.box 39 (.val T2_))]⟩,[],
[],
[],fun y=>(valW (.agg T2_) y,[],[])⟩
def V_aZ (w_5:List Int→Option (List Int×Int)) (w_b:Int×List Int×Int→Option (Int×List Int×Int)) (w_a6:A3_×Int×List UInt8×Int→Option (Bool×A3_)) (w_a9:Int×Int×List Int×Int→Option ((List Int×Int)×A1_)) (w_a3:Int×List Int×Int→Option ((List Int×Int)×A0_)) (N:Nat) (x:List Int×Int):Option A3_:=
 obind (w_5 x.1) fun b=>obind (w_b ((3:Int),b)) fun b=>obind (w_b ((3:Int),b.2)) fun b_1=>obind (w_b
 ((9:Int),b_1.2)) fun b_2=>obind (w_a6 ((false,b.1,[],((0:Int),(0:Int),(0:Int),(0:Int),(0:Int),(0:Int),[],(0:Int),(0:Int),
 (0:Int),(0:Int),(0:Int),[]),((0:Int),(0:Int),[],[],[],(0:Int),(0:Int)),b_1.1),x.2,[(110:UInt8)],b_2.1)) fun b=>obind (w_a9 (x.2,(20:Int),b_2.2)) fun b_3=>cnd (decide (x.2≠(1:Int))) (obind (w_a3 ((12:Int),b_3.1)) fun b_4=>obind (w_b
 ((5:Int),b_4.1)) fun b_5=>cnd (decide (b_5.1=(0:Int))) (some (b.2.1,b.2.2.1,b.2.2.2.1,(b_3.2.1,b.2.2.1,b_3.2.2.2),((0:Int),(0:Int),[],
 [],[],(0:Int),(0:Int)),b.2.2.2.2.2.2)) (some (b.2.1,b.2.2.1,b.2.2.2.1,(b_3.2.1,b.2.2.1,b_3.2.2.2),b_4.2,b.2.2.2.2.2.2))) (some (b.2.1,
 b.2.2.1,b.2.2.2.1,(b_3.2.1,b.2.2.1,b_3.2.2.2),b.2.2.2.2.2))
theorem q_aZ:∀w_5 w_b w_a6 w_a9 w_a3 N x,u_aZ.F L0 P0 (orcOf [u_5.con w_5,u_b.con w_b,u_a6.con w_a6,u_a9.con w_a9,u_a3.con w_a3]) N x=V_aZ w_5 w_b w_a6 w_a9 w_a3 N x:=by intros;kernel_rfl
def W_aZ (N:Nat):=V_aZ (W_5 N) (W_b N) (W_a6 N) (W_a9 N) (W_a3 N) N
theorem con_aZ_ok (N:Nat):(u_aZ.con (W_aZ N)).ok P0:=Uf.ok mixed (q_aZ (W_5 N) (W_b N) (W_a6 N) (W_a9 N) (W_a3 N) N) ⟨con_5_ok N,con_b_ok N,con_a6_ok N,con_a9_ok N,con_a3_ok N,trivial⟩ Tryz.func15 (by kernel_rfl) fun x y=>by kernel_rfl
def u_ay:Uf:=⟨89,9,Tryz.f89,[.val (.int .i64)],[],
⟨[(2,.val .bool)],[]⟩,[],
[],
[],fun y=>(valW .bool y,[],[])⟩
def V_ay (N:Nat) (x:Int):Option (Bool):=
 cnd (decide ((0:Int)≤x)) (some (decide (x≤(1000000:Int)))) (some false)
theorem q_ay:∀N x,u_ay.F L0 P0 (orcOf []) N x=V_ay N x:=by intros;kernel_rfl
def W_ay (N:Nat):=V_ay N
theorem con_ay_ok (N:Nat):(u_ay.con (W_ay N)).ok P0:=Uf.ok mixed (q_ay N) trivial Tryz.func89 (by kernel_rfl) fun x y=>by kernel_rfl
def u_E:Uf:=⟨56,26,Tryz.f56,[.val (.list (.int .i64)),.val (.list (.int .i64))],[],
⟨[(4,.val .bool)],[]⟩,[],
[(4,.loop [] ⟨[(5,.val (.int .i64))],[]⟩ [(.exit 0,⟨[],[]⟩),(.ret,⟨[(4,.val .bool)],[]⟩)])],
[],fun y=>(valW .bool y,[],[])⟩
def V_E (N:Nat) (x:List Int×List Int):Option (Bool):=
 cnd (decide ((↑(List.length x.1):Int)≠(↑(List.length x.2):Int))) (some false) (obind (loopN N (fun(v:Int)=>cnd (decide (v<(↑(List.length
 x.1):Int))) (cnd (decide ((0:Int)≤v)&&decide (v<(↑(List.length x.1):Int))) (cnd (decide ((0:Int)≤v)&&decide (v<(↑(List.length x.2):
 Int))) (cnd (decide (List.getD x.1 (Int.toNat v) (0:Int)≠List.getD x.2 (Int.toNat v) (0:Int))) (some (Sum.inr (Sum.inr false))) (some (Sum.inl (wr
 .i64 (v+(1:Int)))))) none) none) (some (Sum.inr (Sum.inl ())))) (Int.ofNat (0:Nat))) fun(b:PUnit⊕Bool)=>selim (fun(b:PUnit)=>some
 true) (fun(c:Bool)=>some c) b)
theorem q_E:∀N x,u_E.F L0 P0 (orcOf []) N x=V_E N x:=by intros;kernel_rfl
def W_E (N:Nat):=V_E N
theorem con_E_ok (N:Nat):(u_E.con (W_E N)).ok P0:=Uf.ok mixed (q_E N) trivial Tryz.func56 (by kernel_rfl) fun x y=>by kernel_rfl
def u_av:Uf:=⟨91,73,Tryz.f91,[.val (.agg T_),.val (.agg T_)],[],
⟨[(4,.val .bool)],[]⟩,[],
[],
[(1000001,.reg [(12,[],⟨[(2,.ptr 600002 0),(3,.ptr 600003 0),(16,.val .bool)],[(600002,.box 46 (.val T_)),(600003,.box 46 (.val T_))]⟩),(7,[],⟨[(2,.ptr 600002 0),(3,.ptr 600003 0),(23,.val .bool)],[(600002,.box 46 (.val T_)),(600003,.box 46 (.val T_))]⟩),(7,[],⟨[(2,.ptr 600002 0),(3,.ptr 600003 0),(30,.val .bool)],[(600002,.box 46 (.val T_)),(600003,.box 46 (.val T_))]⟩),(7,[],⟨[(2,.ptr 600002 0),(3,.ptr 600003 0),(37,.val .bool)],[(600002,.box 46 (.val T_)),(600003,.box 46 (.val T_))]⟩),(7,[],⟨[(2,.ptr 600002 0),(3,.ptr 600003 0),(44,.val .bool)],[(600002,.box 46 (.val T_)),(600003,.box 46 (.val T_))]⟩),(7,[],⟨[(2,.ptr 600002 0),(3,.ptr 600003 0),(51,.val .bool)],[(600002,.box 46 (.val T_)),(600003,.box 46 (.val T_))]⟩),(7,[],⟨[(2,.ptr 600002 0),(3,.ptr 600003 0),(58,.val .bool)],[(600002,.box 46 (.val T_)),(600003,.box 46 (.val T_))]⟩),(7,[],⟨[(2,.ptr 600002 0),(3,.ptr 600003 0),(65,.val .bool)],[(600002,.box 46 (.val T_)),(600003,.box 46 (.val T_))]⟩)])],fun y=>(valW .bool y,[],[])⟩
def V_av (w_E:List Int×List Int→Option (Bool)) (N:Nat) (x:(M_)×M_):Option (Bool):=
 obind (cnd (decide (x.1.1=x.2.1)) (some (decide (x.1.2.1=x.2.2.1),x)) (some (false,x))) fun(b:Bool×A2_×A2_)=>obind (cnd b.1 (some (decide
 (b.2.1.2.2.1=b.2.2.2.2.1),b.2)) (some (false,b.2))) fun(b:Bool×A2_×A2_)=>obind (cnd b.1 (some (decide (b.2.1.2.2.2.1=b.2.2.2.2.2.1),b.2)) (some
 (false,b.2))) fun(b:Bool×A2_×A2_)=>obind (cnd b.1 (some (decide (b.2.1.2.2.2.2.1=b.2.2.2.2.2.2.1),b.2)) (some (false,b.2))) fun(b:Bool×A2_×A2_)=>obind
 (cnd b.1 (some (decide (b.2.1.2.2.2.2.2.1=b.2.2.2.2.2.2.2.1),b.2)) (some (false,b.2))) fun(b:Bool×A2_×A2_)=>obind (cnd b.1 (some (decide
 (b.2.1.2.2.2.2.2.2.2.1=b.2.2.2.2.2.2.2.2.2.1),b.2)) (some (false,b.2))) fun(b:Bool×A2_×A2_)=>obind (cnd b.1 (some (decide (b.2.1.2.2.2.2.2.2.2.2.1
 = b.2.2.2.2.2.2.2.2.2.2.1),b.2)) (some (false,b.2))) fun(b:Bool×A2_×A2_)=>obind (cnd b.1 (some (b.2.1.2.2.2.2.2.2.2.2.2==b.2.2.2.2.2.2.2.2.2.2.2,
 b.2)) (some (false,b.2))) fun(b:Bool×A2_×A2_)=>cnd b.1 (obind (w_E (b.2.1.2.2.2.2.2.2.1,b.2.2.2.2.2.2.2.2.1)) fun b=>some b) (some
 false)
theorem q_av:∀w_E N x,u_av.F L0 P0 (orcOf [u_E.con w_E]) N x=V_av w_E N x:=by intros;kernel_rfl
def W_av (N:Nat):=V_av (W_E N) N
theorem con_av_ok (N:Nat):(u_av.con (W_av N)).ok P0:=Uf.ok mixed (q_av (W_E N) N) ⟨con_E_ok N,trivial⟩ Tryz.func91 (by kernel_rfl) fun x y=>by kernel_rfl
def u_ao:Uf:=⟨42,160,Tryz.f42,[.val (.agg T_)],[],
⟨[(2,.val .bool)],[]⟩,[],
[],
[(1000001,.reg [(8,[],⟨[(1,.ptr 600001 0),(12,.val .bool)],[(600001,.box 46 (.val T_))]⟩),(5,[],⟨[(1,.ptr 600001 0),(17,.val .bool)],[(600001,.box 46 (.val T_))]⟩),(5,[],⟨[(1,.ptr 600001 0),(22,.val .bool)],[(600001,.box 46 (.val T_))]⟩),(5,[],⟨[(1,.ptr 600001 0),(27,.val .bool)],[(600001,.box 46 (.val T_))]⟩),(5,[],⟨[(1,.ptr 600001 0),(32,.val .bool)],[(600001,.box 46 (.val T_))]⟩),(7,[],⟨[(1,.ptr 600001 0),(39,.val .bool)],[(600001,.box 46 (.val T_))]⟩),(5,[],⟨[(1,.ptr 600001 0),(44,.val .bool)],[(600001,.box 46 (.val T_))]⟩)]),
(1000009,.reg [(8,[],⟨[(1,.ptr 600001 0),(3,.ptr 600003 0),(80,.val .bool)],[(600001,.box 46 (.val T_)),(600003,.box 46 (.val T_))]⟩),(5,[],⟨[(1,.ptr 600001 0),(3,.ptr 600003 0),(85,.val .bool)],[(600001,.box 46 (.val T_)),(600003,.box 46 (.val T_))]⟩),(5,[],⟨[(1,.ptr 600001 0),(3,.ptr 600003 0),(90,.val .bool)],[(600001,.box 46 (.val T_)),(600003,.box 46 (.val T_))]⟩)]),
(1000017,.reg [(8,[],⟨[(1,.ptr 600001 0),(3,.ptr 600003 0),(132,.val .bool)],[(600001,.box 46 (.val T_)),(600003,.box 46 (.val T_))]⟩)]),
(20,.cut [] [(.normal,⟨[(1,.ptr 600001 0),(3,.ptr 600003 0),(139,.val .bool)],[(600001,.box 46 (.val T_)),(600003,.box 46 (.val T_))]⟩)]),
(8,.cut [] [(.normal,⟨[(1,.ptr 600001 0),(3,.ptr 600003 0),(61,.val .bool)],[(600001,.box 46 (.val T_)),(600003,.box 46 (.val T_))]⟩)]),
(22,.cut [] [(.normal,⟨[(1,.ptr 600001 0),(3,.ptr 600003 0),(4,.val .bool)],[(600001,.box 46 (.val T_)),(600003,.box 46 (.val T_))]⟩)])],fun y=>(valW .bool y,[],[])⟩
def V_ao (w_S:List Int→Option (Bool)) (w_ay:Int→Option (Bool)) (w_F:Int×Int→Option (Bool)) (w_av:(M_)×M_→Option (Bool)) (N:Nat) (x:M_):Option (Bool):=
 obind (cnd (decide (x.1<(1:Int))) (some (true,x)) (some (decide ((9:Int)<x.1),x))) fun(b:Bool×A2_)=>obind (cnd b.1 (some (true,b.2)) (some (decide (b.2.2.1<(1:Int)),b.2))) fun(b:Bool×A2_)=>obind (cnd b.1 (some (true,b.2)) (some (decide ((8:Int)<b.2.2.1),b.2))) fun(b:Bool×A2_)=>obind (cnd b.1 (some (true,b.2)) (some (decide (b.2.2.2.1<(1:Int)),b.2))) fun(b
 : Bool×A2_)=>obind (cnd b.1 (some (true,b.2)) (some (decide ((8:Int) <
 b.2.2.2.1),b.2))) fun(b:Bool×A2_)=>obind (cnd b.1 (some (true,b.2)) (some
 (decide (b.2.2.1=b.2.2.2.1),b.2))) fun(b:Bool×A2_)=>obind (cnd b.1 (some
 (true,b.2)) (some (decide (b.2.2.2.2.1<(1:Int)),b.2))) fun(b:Bool×A2_)=>
 cnd b.1 (some false) (cnd (decide ((1073741824:Int)<b.2.2.2.2.1)) (some false) (obind (obind (cnd (decide (b.2.1=(2:Int))) (some (decide (b.2.1
 = (2:Int)),b.2,b.2.1,b.2.2.1,b.2.2.2.1,b.2.2.2.2.1,(0:Int),(0:Int),[],(0:Int),(0:Int),[])) (some (decide (b.2.1=(5:Int)),b.2,b.2.1,
 b.2.2.1,b.2.2.2.1,b.2.2.2.2.1,(0:Int),(0:Int),[],(0:Int),(0:Int),[]))) fun(b_1:Bool×A2_×A2_)=>cnd b_1.1 (obind (cnd (decide ((0:Int) ≤
 b_1.2.1.2.2.2.2.1)) (some (decide (b_1.2.1.2.2.2.2.1≤(1073741824:Int)),b_1.2.1,b_1.2.2.1,b_1.2.2.2.1,b_1.2.2.2.2.1,b_1.2.2.2.2.2.1,
 b_1.2.1.2.2.2.2.1,b_1.2.1.2.2.2.2.2.1,b_1.2.1.2.2.2.2.2.2.1,b_1.2.2.2.2.2.2.2.2.2)) (some (false,b_1.2.1,b_1.2.2.1,b_1.2.2.2.1,b_1.2.2.2.2.1,
 b_1.2.2.2.2.2.1,b_1.2.1.2.2.2.2.1,b_1.2.1.2.2.2.2.2.1,b_1.2.1.2.2.2.2.2.2.1,b_1.2.2.2.2.2.2.2.2.2))) fun(b:Bool×A2_×A2_)=>obind (cnd b.1 (some
 (decide ((0:Int)≤b.2.1.2.2.2.2.2.1),b.2)) (some (false,b.2))) fun(b:Bool×A2_×A2_)=>obind (cnd b.1 (some (decide (b.2.1.2.2.2.2.2.1 ≤
 (1073741824:Int)),b.2)) (some (false,b.2))) fun(b:Bool×A2_×A2_)=>cnd b.1 (obind (w_S b.2.1.2.2.2.2.2.2.1) fun b_2=>cnd (decide (b.2.1.1
 = (2:Int))) (cnd b_2 (obind (w_ay b.2.1.2.2.2.2.2.2.2.1) fun b_3=>some (b_3,b.2.1,b.2.2.1,b.2.2.2.1,b.2.2.2.2.1,b.2.2.2.2.2.1,
 b.2.2.2.2.2.2.1,b.2.2.2.2.2.2.2.1,b.2.2.2.2.2.2.2.2.1,b.2.1.2.2.2.2.2.2.2.1,b.2.2.2.2.2.2.2.2.2.2)) (some (false,b.2.1,b.2.2.1,b.2.2.2.1,
 b.2.2.2.2.1,b.2.2.2.2.2.1,b.2.2.2.2.2.2.1,b.2.2.2.2.2.2.2.1,b.2.2.2.2.2.2.2.2.1,b.2.1.2.2.2.2.2.2.2.1,b.2.2.2.2.2.2.2.2.2.2))) (cnd b_2 (obind
 (w_ay b.2.1.2.2.2.2.2.2.2.2.1) fun b_3=>some (b_3,b.2.1,b.2.2.1,b.2.2.2.1,b.2.2.2.2.1,b.2.2.2.2.2.1,b.2.2.2.2.2.2.1,
 b.2.2.2.2.2.2.2.1,b.2.2.2.2.2.2.2.2.1,b.2.2.2.2.2.2.2.2.2.1,b.2.1.2.2.2.2.2.2.2.2.1,b.2.2.2.2.2.2.2.2.2.2.2)) (some (false,b.2.1,b.2.2.1,
 b.2.2.2.1,b.2.2.2.2.1,b.2.2.2.2.2.1,b.2.2.2.2.2.2.1,b.2.2.2.2.2.2.2.1,b.2.2.2.2.2.2.2.2.1,b.2.2.2.2.2.2.2.2.2.1,b.2.1.2.2.2.2.2.2.2.2.1,
 b.2.2.2.2.2.2.2.2.2.2.2)))) (cnd (decide (b.2.1.1=(2:Int))) (some (false,b.2.1,b.2.2.1,b.2.2.2.1,b.2.2.2.2.1,b.2.2.2.2.2.1,b.2.2.2.2.2.2.1,
 b.2.2.2.2.2.2.2.1,b.2.2.2.2.2.2.2.2.1,b.2.1.2.2.2.2.2.2.2.1,b.2.2.2.2.2.2.2.2.2.2)) (some (false,b.2.1,b.2.2.1,b.2.2.2.1,b.2.2.2.2.1,
 b.2.2.2.2.2.1,b.2.2.2.2.2.2.1,b.2.2.2.2.2.2.2.1,b.2.2.2.2.2.2.2.2.1,b.2.2.2.2.2.2.2.2.2.1,b.2.1.2.2.2.2.2.2.2.2.1,b.2.2.2.2.2.2.2.2.2.2.2))))
 (cnd (decide (b.2.1=(7:Int))) (obind (cnd (decide ((1:Int)≤b_1.2.1.2.2.2.2.2.2.2.1)) (obind (w_ay b_1.2.1.2.2.2.2.2.2.2.1) fun b=>
 some (b,b_1.2.1,b_1.2.2.1,b_1.2.2.2.1,b_1.2.2.2.2.1,b_1.2.2.2.2.2.1,b_1.2.2.2.2.2.2.1,b_1.2.2.2.2.2.2.2.1,b_1.2.2.2.2.2.2.2.2.1,
 b_1.2.1.2.2.2.2.2.2.2.1,b_1.2.2.2.2.2.2.2.2.2.2.1,b_1.2.1.2.2.2.2.2.2.2.2.2)) (some (false,b_1.2.1,b_1.2.2.1,b_1.2.2.2.1,b_1.2.2.2.2.1,
 b_1.2.2.2.2.2.1,b_1.2.2.2.2.2.2.1,b_1.2.2.2.2.2.2.2.1,b_1.2.2.2.2.2.2.2.2.1,b_1.2.1.2.2.2.2.2.2.2.1,b_1.2.2.2.2.2.2.2.2.2.2.1,
 b_1.2.1.2.2.2.2.2.2.2.2.2))) fun(b:Bool×A2_×A2_)=>cnd b.1 (some (decide ((↑(List.length b.2.1.2.2.2.2.2.2.2.2.2):Int)≤(12:Int)),b.2)) (some (false,
 b.2))) (obind (cnd (decide (b.2.1=(8:Int))) (some (decide (b.2.1=(8:Int)),b_1.2)) (some (decide (b.2.1=(9:Int)),b_1.2))) fun(b:Bool×A2_×A2_)=>
 cnd b.1 (obind (w_F (b.2.1.2.2.2.2.2.2.2.1,b.2.1.2.2.2.2.2.2.2.2.1)) fun b_2=>some (b_2,b.2.1,b.2.2.1,b.2.2.2.1,b.2.2.2.2.1,
 b.2.2.2.2.2.1,b.2.2.2.2.2.2.1,b.2.2.2.2.2.2.2.1,b.2.2.2.2.2.2.2.2.1,b.2.1.2.2.2.2.2.2.2.1,b.2.1.2.2.2.2.2.2.2.2.1,b.2.2.2.2.2.2.2.2.2.2.2))
 (some (true,b.2))))) fun(b:Bool×A2_×A2_)=>cnd b.1 (obind (w_av (b.2.2,b.2.1)) fun b=>some b) (some false)))
theorem q_ao:∀w_S w_ay w_F w_av N x,u_ao.F L0 P0 (orcOf [u_S.con w_S,u_ay.con w_ay,u_F.con w_F,u_av.con w_av]) N x=V_ao w_S w_ay w_F w_av N x:=by intros;kernel_rfl
def W_ao (N:Nat):=V_ao (W_S N) (W_ay N) (W_F N) (W_av N) N
theorem con_ao_ok (N:Nat):(u_ao.con (W_ao N)).ok P0:=Uf.ok mixed (q_ao (W_S N) (W_ay N) (W_F N) (W_av N) N) ⟨con_S_ok N,con_ay_ok N,con_F_ok N,con_av_ok N,trivial⟩ Tryz.func42 (by kernel_rfl) fun x y=>by kernel_rfl
def u_T:Uf:=⟨43,25,Tryz.f43,[.val (.list (.int .u8)),.val (.int .i64)],[],
⟨[(4,.acc 700006)],[(700006,.nrow 5 (.int .u8) false true)]⟩,[],
[(2,.loop [] ⟨[(1,.val (.int .i64)),(5,.acc 700006)],[(700006,.nrow 5 (.int .u8) false true)]⟩ [(.exit 0,⟨[(1,.val (.int .i64)),(5,.acc 700006)],[(700006,.nrow 5 (.int .u8) false true)]⟩)])],
[],fun y=>(.acc 2000000 0,[],[.nrow 5 false true ⟨(.int .u8),y⟩])⟩
def V_T (N:Nat) (x:List Int×Int):Option (List Int):=
 cnd (decide (List.length x.1*(1:Nat)≤(140737488355328:Nat))) (obind (loopN N (fun(v:Int×List Int)=>cnd (decide ((128:Int)≤v.1)) (cnd
 (decide ((List.length v.2+List.length [wr .u8 (wr .i64 (Int.tmod v.1 (128:Int)+(128:Int)))])*(1:Nat)≤(140737488355328:Nat))) (some (Sum.inl
 (wr .i64 (Int.tdiv v.1 (128:Int)),v.2++[wr .u8 (wr .i64 (Int.tmod v.1 (128:Int)+(128:Int)))]))) none) (some (Sum.inr v))) (x.2,x.1)) fun(b:
 Int×List Int)=>cnd (decide ((List.length b.2+List.length [wr .u8 b.1])*(1:Nat)≤(140737488355328:Nat))) (some (b.2++[wr .u8 b.1])) none)
 none
theorem q_T:∀N x,u_T.F L0 P0 (orcOf []) N x=V_T N x:=by intros;kernel_rfl
def W_T (N:Nat):=V_T N
theorem con_T_ok (N:Nat):(u_T.con (W_T N)).ok P0:=Uf.ok mixed (q_T N) trivial Tryz.func43 (by kernel_rfl) fun x y=>by kernel_rfl
def u_aS:Uf:=⟨44,11,Tryz.f44,[.val (.list (.int .u8)),.val .str],[],
⟨[(4,.acc 700008)],[(700008,.nrow 5 (.int .u8) false true)]⟩,[],
[],
[],fun y=>(.acc 2000000 0,[],[.nrow 5 false true ⟨(.int .u8),y⟩])⟩
def V_aS (w_T:List Int×Int→Option (List Int)) (N:Nat) (x:List Int×List UInt8):Option (List Int):=
 obind (w_T (x.1,(↑(List.length x.2):Int))) fun b=>cnd (decide ((List.length b+List.length (List.map (fun(b:UInt8)=>(↑(UInt8.toNat b):Int)) x.2))*(1:Nat)≤(140737488355328:Nat))) (some (b++List.map (fun(b:UInt8)=>(↑(UInt8.toNat b):Int)) x.2)) none
theorem q_aS:∀w_T N x,u_aS.F L0 P0 (orcOf [u_T.con w_T]) N x=V_aS w_T N x:=by intros;kernel_rfl
def W_aS (N:Nat):=V_aS (W_T N) N
theorem con_aS_ok (N:Nat):(u_aS.con (W_aS N)).ok P0:=Uf.ok mixed (q_aS (W_T N) N) ⟨con_T_ok N,trivial⟩ Tryz.func44 (by kernel_rfl) fun x y=>by kernel_rfl
def u_ba:Uf:=⟨45,33,Tryz.f45,[.val (.list (.int .u8))],[],
⟨[(2,.val (.int .u32))],[]⟩,[],
[(7,.loop [] ⟨[(3,.val (.int .u32)),(5,.val (.int .i64))],[]⟩ [(.exit 2,⟨[(3,.val (.int .u32))],[]⟩)]),
(3,.loop [] ⟨[(3,.val (.int .u32)),(4,.val (.int .i64))],[]⟩ [(.exit 0,⟨[(3,.val (.int .u32))],[]⟩)])],
[],fun y=>(valW (.int .u32) y,[],[])⟩
def V_ba (N:Nat) (x:List Int):Option (Int):=
 obind (loopN N (fun(v:Int×Int)=>cnd (decide (v.2<(↑(List.length x):Int))) (cnd (decide ((0:Int)≤v.2)&&decide (v.2<(↑(List.length x):
 Int))) (obind (loopN N (fun(v:Int×Int)=>cnd (decide (v.2<(8:Int))) (cnd (decide (Int.tmod v.1 (2:Int)=(1:Int))) (some (Sum.inl (wr .u32
 (↑(BitVec.toNat (BitVec.ofInt (32:Nat) (wr .u32 (Int.tdiv v.1 (2:Int))) ^^^ BitVec.ofInt (32:Nat) (3988292384:Int))):Int),wr .i64 (v.2 +
 (1:Int))))) (some (Sum.inl (wr .u32 (Int.tdiv v.1 (2:Int)),wr .i64 (v.2+(1:Int)))))) (some (Sum.inr v.1))) (wr .u32 (↑(BitVec.toNat (BitVec.ofInt
 (32:Nat) v.1 ^^^ BitVec.ofInt (32:Nat) (wr .u32 (List.getD x (Int.toNat v.2) (0:Int))))):Int),(0:Int))) fun(b:Int)=>some (Sum.inl (b,wr
 .i64 (v.2+(1:Int))))) none) (some (Sum.inr v.1))) ((4294967295:Int),(0:Int))) fun(b:Int)=>some (wr .u32 (↑(BitVec.toNat (BitVec.ofInt
 (32:Nat) (IntKind.max .u32) ^^^ BitVec.ofInt (32:Nat) b)):Int))
theorem q_ba:∀N x,u_ba.F L0 P0 (orcOf []) N x=V_ba N x:=by intros;kernel_rfl
def W_ba (N:Nat):=V_ba N
theorem con_ba_ok (N:Nat):(u_ba.con (W_ba N)).ok P0:=Uf.ok mixed (q_ba N) trivial Tryz.func45 (by kernel_rfl) fun x y=>by kernel_rfl
def u_G:Uf:=⟨18,68,Tryz.f18,[.val (.agg T_)],[],
⟨[(2,.val (.list (.int .u8)))],[]⟩,[],
[(7,.loop [3] ⟨[(1,.ptr 600001 0),(4,.acc 700051),(5,.val (.int .i64))],[(600001,.box 46 (.val T_)),(700051,.nrow 5 (.int .u8) true true)]⟩ [(.exit 0,⟨[(1,.ptr 600001 0),(4,.acc 700051)],[(600001,.box 46 (.val T_)),(700051,.nrow 5 (.int .u8) true true)]⟩)])],
[(4,.cut [] [(.normal,⟨[(1,.ptr 600001 0),(3,.acc 700025)],[(600001,.box 46 (.val T_)),(700025,.nrow 3 (.int .i64) true true)]⟩)])],fun y=>(valW (.list (.int .u8)) y,[],[])⟩
def V_G (w_ao:M_→Option (Bool)) (w_T:List Int×Int→Option (List Int)) (w_aS:List Int×List UInt8→Option (List Int)) (w_ba:List Int→Option (Int)) (N:Nat) (x:M_):Option (List Int):=
 obind (w_ao x) fun b=>cnd (!b) (some []) (cnd (decide ((List.length [x.1,x.2.1,x.2.2.1,x.2.2.2.1,x.2.2.2.2.1,x.2.2.2.2.2.1,
 (↑(List.length x.2.2.2.2.2.2.1):Int)]+List.length x.2.2.2.2.2.2.1)*(8:Nat)≤(140737488355328:Nat))) (cnd (decide ((List.length ([x.1,x.2.1,
 x.2.2.1,x.2.2.2.1,x.2.2.2.2.1,x.2.2.2.2.2.1,(↑(List.length x.2.2.2.2.2.2.1):Int)]++x.2.2.2.2.2.2.1)+List.length [x.2.2.2.2.2.2.2.1,
 x.2.2.2.2.2.2.2.2.1])*(8:Nat)≤(140737488355328:Nat))) (obind (loopN N (fun(v:Int×A2_×List Int)=>cnd (decide (v.1<(↑(List.length ([x.1,x.2.1,x.2.2.1,x.2.2.2.1,x.2.2.2.2.1,x.2.2.2.2.2.1,(↑(List.length
 x.2.2.2.2.2.2.1):Int)]++x.2.2.2.2.2.2.1++[x.2.2.2.2.2.2.2.1,x.2.2.2.2.2.2.2.2.1])):Int))) (cnd (decide ((0:Int)≤v.1)&&decide (v.1 <
 (↑(List.length ([x.1,x.2.1,x.2.2.1,x.2.2.2.1,x.2.2.2.2.1,x.2.2.2.2.2.1,(↑(List.length x.2.2.2.2.2.2.1):Int)]++x.2.2.2.2.2.2.1++
 [x.2.2.2.2.2.2.2.1,x.2.2.2.2.2.2.2.2.1])):Int))) (obind (w_T (v.2.2,List.getD ([x.1,x.2.1,x.2.2.1,x.2.2.2.1,x.2.2.2.2.1,
 x.2.2.2.2.2.1,(↑(List.length x.2.2.2.2.2.2.1):Int)]++x.2.2.2.2.2.2.1++[x.2.2.2.2.2.2.2.1,x.2.2.2.2.2.2.2.2.1]) (Int.toNat v.1) (0:Int))) fun
 b=>some (Sum.inl (wr .i64 (v.1+(1:Int)),v.2.1,b))) none) (some (Sum.inr v.2))) ((0:Int),x,[])) fun(b:A2_×List Int)=>obind (w_aS (b.2,b.1.2.2.2.2.2.2.2.2.2)) fun b=>obind (w_ba b) fun b_1=>
 cnd (decide ((List.length b+List.length [wr .u8 (Int.fdiv b_1 ((2:Int) ^ (24:Nat))),wr .u8 (Int.fdiv b_1 ((2:Int) ^ (16:Nat))),wr .u8 (Int.fdiv
 b_1 ((2:Int) ^ (8:Nat))),wr .u8 b_1])*(1:Nat)≤(140737488355328:Nat))) (some (b++[wr .u8 (Int.fdiv b_1 ((2:Int) ^ (24:Nat))),wr .u8 (Int.fdiv
 b_1 ((2:Int) ^ (16:Nat))),wr .u8 (Int.fdiv b_1 ((2:Int) ^ (8:Nat))),wr .u8 b_1])) none) none) none)
theorem q_G:∀w_ao w_T w_aS w_ba N x,u_G.F L0 P0 (orcOf [u_ao.con w_ao,u_T.con w_T,u_aS.con w_aS,u_ba.con w_ba]) N x=V_G w_ao w_T w_aS w_ba N x:=by intros;kernel_rfl
def W_G (N:Nat):=V_G (W_ao N) (W_T N) (W_aS N) (W_ba N) N
theorem con_G_ok (N:Nat):(u_G.con (W_G N)).ok P0:=Uf.ok mixed (q_G (W_ao N) (W_T N) (W_aS N) (W_ba N) N) ⟨con_ao_ok N,con_T_ok N,con_aS_ok N,con_ba_ok N,trivial⟩ Tryz.func18 (by kernel_rfl) fun x y=>by kernel_rfl
def u_K:Uf:=⟨92,51,Tryz.f92,[.val (.list (.int .u8))],[],
⟨[(2,.val (.int .i64)),(3,.val (.int .i64)),(4,.val .bool)],[]⟩,[],
[(3,.loop [] ⟨[(5,.val (.int .i64)),(6,.val (.int .i64)),(7,.val (.int .i64))],[]⟩ [(.exit 0,⟨[],[]⟩),(.ret,⟨[(2,.val (.int .i64)),(3,.val (.int .i64)),(4,.val .bool)],[]⟩)])],
[(1000008,.reg [(9,[],⟨[(43,.val .bool)],[]⟩)])],fun y=>(.tup [valW (.int .i64) y.1,valW (.int .i64) y.2.1,valW .bool y.2.2],[],[])⟩
def V_K (N:Nat) (x:List Int):Option (Int×Int×Bool):=
 obind (loopN N (fun(v:Int×Int×Int)=>cnd (decide (v.2.2<(↑(List.length x):Int))) (cnd (decide (v.2.2<(5:Int))) (cnd (decide ((0:Int) ≤
 v.2.2)&&decide (v.2.2<(↑(List.length x):Int))) (cnd (decide ((0:Int)≤v.2.2)&&decide (v.2.2<(↑(List.length x):Int))) (cnd (decide
 (List.getD x (Int.toNat v.2.2) (0:Int)<(128:Int))) (obind (cnd (decide ((0:Int)<v.2.2)) (cnd (decide ((0:Int)≤v.2.2)&&decide (v.2.2 <
 (↑(List.length x):Int))) (some (decide (List.getD x (Int.toNat v.2.2) (0:Int)=(0:Int)))) none) (some false)) fun(b:Bool)=>cnd b (some
 (Sum.inr (Sum.inr ((0:Int),(0:Int),false)))) (cnd (decide ((1073741824:Int)<wr .i64 (v.1+wr .i64 (wr .i64 (Int.tmod (List.getD x (Int.toNat
 v.2.2) (0:Int)) (128:Int))*v.2.1)))) (some (Sum.inr (Sum.inr ((0:Int),(0:Int),false)))) (some (Sum.inr (Sum.inr (wr .i64 (v.1+wr .i64 (wr .i64
 (Int.tmod (List.getD x (Int.toNat v.2.2) (0:Int)) (128:Int))*v.2.1)),wr .i64 (v.2.2+(1:Int)),true)))))) (some (Sum.inl (wr .i64 (v.1+wr .i64
 (wr .i64 (Int.tmod (List.getD x (Int.toNat v.2.2) (0:Int)) (128:Int))*v.2.1)),wr .i64 (v.2.1*(128:Int)),wr .i64 (v.2.2+(1:Int)))))) none)
 none) (some (Sum.inr (Sum.inl ())))) (some (Sum.inr (Sum.inl ())))) ((0:Int),(1:Int),(0:Int))) fun(b:PUnit⊕Int×Int×Bool)=>selim (fun(b
 : PUnit)=>some ((0:Int),(0:Int),false)) (fun(c:Int×Int×Bool)=>some c) b
theorem q_K:∀N x,u_K.F L0 P0 (orcOf []) N x=V_K N x:=by intros;kernel_rfl
def W_K (N:Nat):=V_K N
theorem con_K_ok (N:Nat):(u_K.con (W_K N)).ok P0:=Uf.ok mixed (q_K N) trivial Tryz.func92 (by kernel_rfl) fun x y=>by kernel_rfl
def u_C:Uf:=⟨46,34,Tryz.f46,[.ptr 0 0],[.box 97 T8_],
⟨[(0,.ptr 1000000 0),(2,.val (.int .i64))],[(1000000,.box 97 (.val T8_))]⟩,[true],
[],
[(4,.cut [] [(.normal,⟨[(0,.ptr 1000000 0)],[(1000000,.box 97 (.val T8_))]⟩)])],fun y=>(valW (.int .i64) y.1,[.box 97 (cellsW T8_ y.2)],[])⟩
def V_C (w_K:List Int→Option (Int×Int×Bool)) (N:Nat) (x:List Int×Bool):Option (Int×List Int×Bool):=
 obind (w_K x.1) fun b=>obind (cnd (!b.2.2) (some (x.1,true)) (some x)) fun(b_1:List Int×Bool)=>cnd b_1.2 (some ((0:Int),b_1))
 (cnd (decide ((0:Int)≤b.2.1)&&decide (b.2.1≤(↑(List.length b_1.1):Int))) (some (b.1,List.drop (Int.toNat b.2.1) (List.take (List.length
 b_1.1) b_1.1),b_1.2)) none)
theorem q_C:∀w_K N x,u_C.F L0 P0 (orcOf [u_K.con w_K]) N x=V_C w_K N x:=by intros;kernel_rfl
def W_C (N:Nat):=V_C (W_K N) N
theorem con_C_ok (N:Nat):(u_C.con (W_C N)).ok P0:=Uf.ok mixed (q_C (W_K N) N) ⟨con_K_ok N,trivial⟩ Tryz.func46 (by kernel_rfl) fun x y=>by kernel_rfl
def u_aQ:Uf:=⟨93,34,Tryz.f93,[.val (.list (.int .u8))],[],
⟨[(2,.val .str),(3,.val (.int .i64)),(4,.val .bool)],[]⟩,[],
[],
[],fun y=>(.tup [valW .str y.1,valW (.int .i64) y.2.1,valW .bool y.2.2],[],[])⟩
def V_aQ (w_K:List Int→Option (Int×Int×Bool)) (N:Nat) (x:List Int):Option (List UInt8×Int×Bool):=
 obind (w_K x) fun b=>cnd (!b.2.2) (some ([],(0:Int),false)) (cnd (decide (wr .i64 ((↑(List.length x):Int)-b.2.1)<b.1)) (some
 ([],(0:Int),false)) (cnd (decide ((0:Int)≤b.2.1)&&decide (b.2.1≤wr .i64 (b.2.1+b.1))&&decide (wr .i64 (b.2.1+b.1)≤(↑(List.length x)
 : Int))) (cnd (List.all (List.drop (Int.toNat b.2.1) (List.take (Int.toNat (wr .i64 (b.2.1+b.1))) x)) fun(n:Int)=>decide ((0:Int)≤n) &&
 decide (n<(256:Int))) (some (List.map (fun(n:Int)=>UInt8.ofNat (Int.toNat n)) (List.drop (Int.toNat b.2.1) (List.take (Int.toNat (wr .i64
 (b.2.1+b.1))) x)),wr .i64 (b.2.1+b.1),true)) none) none))
theorem q_aQ:∀w_K N x,u_aQ.F L0 P0 (orcOf [u_K.con w_K]) N x=V_aQ w_K N x:=by intros;kernel_rfl
def W_aQ (N:Nat):=V_aQ (W_K N) N
theorem con_aQ_ok (N:Nat):(u_aQ.con (W_aQ N)).ok P0:=Uf.ok mixed (q_aQ (W_K N) N) ⟨con_K_ok N,trivial⟩ Tryz.func93 (by kernel_rfl) fun x y=>by kernel_rfl
def u_ap:Uf:=⟨47,34,Tryz.f47,[.ptr 0 0],[.box 97 T8_],
⟨[(0,.ptr 1000000 0),(2,.val .str)],[(1000000,.box 97 (.val T8_))]⟩,[true],
[],
[(4,.cut [] [(.normal,⟨[(0,.ptr 1000000 0)],[(1000000,.box 97 (.val T8_))]⟩)])],fun y=>(valW .str y.1,[.box 97 (cellsW T8_ y.2)],[])⟩
def V_ap (w_aQ:List Int→Option (List UInt8×Int×Bool)) (N:Nat) (x:List Int×Bool):Option (List UInt8×List Int×Bool):=
 obind (w_aQ x.1) fun b=>obind (cnd (!b.2.2) (some (x.1,true)) (some x)) fun(b_1:List Int×Bool)=>cnd b_1.2 (some ([],b_1))
 (cnd (decide ((0:Int)≤b.2.1)&&decide (b.2.1≤(↑(List.length b_1.1):Int))) (some (b.1,List.drop (Int.toNat b.2.1) (List.take (List.length
 b_1.1) b_1.1),b_1.2)) none)
theorem q_ap:∀w_aQ N x,u_ap.F L0 P0 (orcOf [u_aQ.con w_aQ]) N x=V_ap w_aQ N x:=by intros;kernel_rfl
def W_ap (N:Nat):=V_ap (W_aQ N) N
theorem con_ap_ok (N:Nat):(u_ap.con (W_ap N)).ok P0:=Uf.ok mixed (q_ap (W_aQ N) N) ⟨con_aQ_ok N,trivial⟩ Tryz.func47 (by kernel_rfl) fun x y=>by kernel_rfl
def u_7:Uf:=⟨19,79,Tryz.f19,[.val (.list (.int .u8))],[],
⟨[(2,.ptr 600002 0),(3,.val .bool)],[(600002,.box 46 (.val T_))]⟩,[],
[(11,.loop [] ⟨[(2,.ptr 600002 0),(4,.ptr 600017 0),(5,.ptr 600005 0),(6,.val (.int .i64))],[(600002,.box 46 (.pair (.val (.int .i64)) (.pair (.val (.int .i64)) (.pair (.val (.int .i64)) (.pair (.val (.int .i64)) (.pair (.val (.int .i64)) (.pair (.val (.int .i64)) (.pair (.acc 607002) (.pair (.val (.int .i64)) (.pair (.val (.int .i64)) (.val .str))))))))))),(607002,.nrow 3 (.int .i64) true true),(600017,.box 97 (.val T8_)),(600005,.box 46 (.pair (.val (.int .i64)) (.pair (.val (.int .i64)) (.pair (.val (.int .i64)) (.pair (.val (.int .i64)) (.pair (.val (.int .i64)) (.pair (.val (.int .i64)) (.pair (.acc 607005) (.pair (.val (.int .i64)) (.pair (.val (.int .i64)) (.val .str))))))))))),(607005,.nrow 3 (.int .i64) true true)]⟩ [(.exit 0,⟨[(2,.ptr 600002 0),(4,.ptr 600017 0),(5,.ptr 600005 0)],[(600002,.box 46 (.pair (.val (.int .i64)) (.pair (.val (.int .i64)) (.pair (.val (.int .i64)) (.pair (.val (.int .i64)) (.pair (.val (.int .i64)) (.pair (.val (.int .i64)) (.pair (.acc 607002) (.pair (.val (.int .i64)) (.pair (.val (.int .i64)) (.val .str))))))))))),(607002,.nrow 3 (.int .i64) true true),(600017,.box 97 (.val T8_)),(600005,.box 46 (.pair (.val (.int .i64)) (.pair (.val (.int .i64)) (.pair (.val (.int .i64)) (.pair (.val (.int .i64)) (.pair (.val (.int .i64)) (.pair (.val (.int .i64)) (.pair (.acc 607005) (.pair (.val (.int .i64)) (.pair (.val (.int .i64)) (.val .str))))))))))),(607005,.nrow 3 (.int .i64) true true)]⟩)])],
[],fun y=>(.tup [valW (.agg T_) y.2,valW .bool y.1],[],[])⟩
def V_7 (w_C:List Int×Bool→Option (Int×List Int×Bool)) (w_ap:List Int×Bool→Option (List UInt8×List Int×Bool)) (w_G:M_→Option (List Int)) (N:Nat) (x:List Int):Option (Bool×M_):=
 cnd (decide ((↑(List.length x):Int)<(4:Int))) (some (false,(0:Int),(0:Int),(0:Int),(0:Int),(0:Int),(0:Int),[],(0:Int),(0:Int),[])) (cnd
 (decide ((0:Int)≤wr .i64 ((↑(List.length x):Int)-(4:Int)))&&decide (wr .i64 ((↑(List.length x):Int)-(4:Int))≤(↑(List.length x):
 Int))) (obind (w_C (List.drop (0:Nat) (List.take (Int.toNat (wr .i64 ((↑(List.length x):Int)-(4:Int)))) x),false)) fun b=>
 obind (w_C b.2) fun b_1=>obind (w_C b_1.2) fun b_2=>obind (w_C b_2.2) fun b_3=>obind
 (w_C b_3.2) fun b_4=>obind (w_C b_4.2) fun b_5=>obind (w_C b_5.2) fun b_6=>obind (loopN N
 (fun(v:Int×Int×Int×Int×Int×Int×Int×Int×Int×List UInt8×List Int×(List Int×Bool)×Int×Int×Int×Int×Int×Int×Int×Int×List UInt8×List Int)=>cnd (decide ((0:Int)<v.1)) (cnd (!v.2.2.2.2.2.2.2.2.2.2.2.1.2) (obind (w_C
 v.2.2.2.2.2.2.2.2.2.2.2.1) fun b=>cnd (decide ((List.length v.2.2.2.2.2.2.2.2.2.2.2.2.2.2.2.2.2.2.2.2.2+List.length [b.1])*(8:Nat) ≤
 (140737488355328:Nat))) (some (Sum.inl (wr .i64 (v.1-(1:Int)),v.2.1,v.2.2.1,v.2.2.2.1,v.2.2.2.2.1,v.2.2.2.2.2.1,v.2.2.2.2.2.2.1,
 v.2.2.2.2.2.2.2.1,v.2.2.2.2.2.2.2.2.1,v.2.2.2.2.2.2.2.2.2.1,v.2.2.2.2.2.2.2.2.2.2.1,b.2,v.2.2.2.2.2.2.2.2.2.2.2.2.1,
 v.2.2.2.2.2.2.2.2.2.2.2.2.2.1,v.2.2.2.2.2.2.2.2.2.2.2.2.2.2.1,v.2.2.2.2.2.2.2.2.2.2.2.2.2.2.2.1,v.2.2.2.2.2.2.2.2.2.2.2.2.2.2.2.2.1,
 v.2.2.2.2.2.2.2.2.2.2.2.2.2.2.2.2.2.1,v.2.2.2.2.2.2.2.2.2.2.2.2.2.2.2.2.2.2.1,v.2.2.2.2.2.2.2.2.2.2.2.2.2.2.2.2.2.2.2.1,
 v.2.2.2.2.2.2.2.2.2.2.2.2.2.2.2.2.2.2.2.2.1,v.2.2.2.2.2.2.2.2.2.2.2.2.2.2.2.2.2.2.2.2.2++[b.1]))) none) (some (Sum.inr v.2))) (some (Sum.inr
 v.2))) (b_6.1,(0:Int),(0:Int),(0:Int),(0:Int),(0:Int),(0:Int),(0:Int),(0:Int),[],[],b_6.2,b.1,b_1.1,b_2.1,b_3.1,b_4.1,b_5.1,
 (0:Int),(0:Int),[],[])) fun(b:Int×Int×Int×Int×Int×Int×Int×Int×List UInt8×List Int×(List Int×Bool)×Int×Int×Int×Int×Int×Int×Int×Int×List UInt8×List Int)=>obind (w_C b.2.2.2.2.2.2.2.2.2.2.1) fun b_7=>obind (w_C
 b_7.2) fun b_8=>obind (w_ap b_8.2) fun b_9=>cnd b_9.2.2 (some (false,(0:Int),(0:Int),(0:Int),(0:Int),(0:Int),(0:Int),[],
 (0:Int),(0:Int),[])) (obind (w_G (b.2.2.2.2.2.2.2.2.2.2.2.1,b.2.2.2.2.2.2.2.2.2.2.2.2.1,b.2.2.2.2.2.2.2.2.2.2.2.2.2.1,
 b.2.2.2.2.2.2.2.2.2.2.2.2.2.2.1,b.2.2.2.2.2.2.2.2.2.2.2.2.2.2.2.1,b.2.2.2.2.2.2.2.2.2.2.2.2.2.2.2.2.1,b.2.2.2.2.2.2.2.2.2.2.2.2.2.2.2.2.2.2.2.2,
 b_7.1,b_8.1,b_9.1)) fun b_10=>cnd (List.all b_10 fun(n:Int)=>decide ((0:Int)≤n)&&decide (n<(256:Int))) (cnd (List.all x fun(n:Int)
 => decide ((0:Int)≤n)&&decide (n<(256:Int))) (cnd (!bytesI b_10==bytesI x) (some (false,(0:Int),(0:Int),(0:Int),(0:Int),(0:Int),
 (0:Int),[],(0:Int),(0:Int),[])) (some (true,b.2.2.2.2.2.2.2.2.2.2.2.1,b.2.2.2.2.2.2.2.2.2.2.2.2.1,b.2.2.2.2.2.2.2.2.2.2.2.2.2.1,
 b.2.2.2.2.2.2.2.2.2.2.2.2.2.2.1,b.2.2.2.2.2.2.2.2.2.2.2.2.2.2.2.1,b.2.2.2.2.2.2.2.2.2.2.2.2.2.2.2.2.1,b.2.2.2.2.2.2.2.2.2.2.2.2.2.2.2.2.2.2.2.2,
 b_7.1,b_8.1,b_9.1))) none) none)) none)
theorem q_7:∀w_C w_ap w_G N x,u_7.F L0 P0 (orcOf [u_C.con w_C,u_ap.con w_ap,u_G.con w_G]) N x=V_7 w_C w_ap w_G N x:=by intros;kernel_rfl
def W_7 (N:Nat):=V_7 (W_C N) (W_ap N) (W_G N) N
theorem con_7_ok (N:Nat):(u_7.con (W_7 N)).ok P0:=Uf.ok mixed (q_7 (W_C N) (W_ap N) (W_G N) N) ⟨con_C_ok N,con_ap_ok N,con_G_ok N,trivial⟩ Tryz.func19 (by kernel_rfl) fun x y=>by kernel_rfl
def u_aU:Uf:=⟨57,26,Tryz.f57,[.val (.list T3_),.val (.list T3_)],[],
⟨[(4,.val .bool)],[]⟩,[],
[(4,.loop [] ⟨[(5,.val (.int .i64))],[]⟩ [(.exit 0,⟨[],[]⟩),(.ret,⟨[(4,.val .bool)],[]⟩)])],
[],fun y=>(valW .bool y,[],[])⟩
def V_aU (N:Nat) (x:List (Int×Int×Int)×List (Int×Int×Int)):Option (Bool):=
 cnd (decide ((↑(List.length x.1):Int)≠(↑(List.length x.2):Int))) (some false) (obind (loopN N (fun(v:Int)=>cnd (decide (v<(↑(List.length
 x.1):Int))) (cnd (decide ((0:Int)≤v)&&decide (v<(↑(List.length x.1):Int))) (cnd (decide ((0:Int)≤v)&&decide (v<(↑(List.length x.2):
 Int))) (cnd (!(decide (Prod.fst (List.getD x.1 (Int.toNat v) ((0:Int),(0:Int),(0:Int)))=Prod.fst (List.getD x.2 (Int.toNat v) ((0:Int),(0:Int),
 (0:Int))))&&(decide (Prod.fst (Prod.snd (List.getD x.1 (Int.toNat v) ((0:Int),(0:Int),(0:Int))))=Prod.fst (Prod.snd (List.getD x.2 (Int.toNat
 v) ((0:Int),(0:Int),(0:Int)))))&&decide (Prod.snd (Prod.snd (List.getD x.1 (Int.toNat v) ((0:Int),(0:Int),(0:Int))))=Prod.snd (Prod.snd
 (List.getD x.2 (Int.toNat v) ((0:Int),(0:Int),(0:Int)))))))) (some (Sum.inr (Sum.inr false))) (some (Sum.inl (wr .i64 (v+(1:Int)))))) none)
 none) (some (Sum.inr (Sum.inl ())))) (Int.ofNat (0:Nat))) fun(b:PUnit⊕Bool)=>selim (fun(b:PUnit)=>some true) (fun(c:Bool)=>some c)
 b)
theorem q_aU:∀N x,u_aU.F L0 P0 (orcOf []) N x=V_aU N x:=by intros;kernel_rfl
def W_aU (N:Nat):=V_aU N
theorem con_aU_ok (N:Nat):(u_aU.con (W_aU N)).ok P0:=Uf.ok mixed (q_aU N) trivial Tryz.func57 (by kernel_rfl) fun x y=>by kernel_rfl
def u_aD:Uf:=⟨31,94,Tryz.f31,[.val (.agg T0_),.val (.agg T0_)],[],
⟨[(4,.val .bool)],[]⟩,[],
[],
[(1000001,.reg [(12,[],⟨[(2,.ptr 600002 0),(3,.ptr 600003 0),(16,.val .bool)],[(600002,.box 31 (.val T0_)),(600003,.box 31 (.val T0_))]⟩),(7,[],⟨[(2,.ptr 600002 0),(3,.ptr 600003 0),(23,.val .bool)],[(600002,.box 31 (.val T0_)),(600003,.box 31 (.val T0_))]⟩),(7,[],⟨[(2,.ptr 600002 0),(3,.ptr 600003 0),(30,.val .bool)],[(600002,.box 31 (.val T0_)),(600003,.box 31 (.val T0_))]⟩),(7,[],⟨[(2,.ptr 600002 0),(3,.ptr 600003 0),(37,.val .bool)],[(600002,.box 31 (.val T0_)),(600003,.box 31 (.val T0_))]⟩),(7,[],⟨[(2,.ptr 600002 0),(3,.ptr 600003 0),(44,.val .bool)],[(600002,.box 31 (.val T0_)),(600003,.box 31 (.val T0_))]⟩),(7,[],⟨[(2,.ptr 600002 0),(3,.ptr 600003 0),(51,.val .bool)],[(600002,.box 31 (.val T0_)),(600003,.box 31 (.val T0_))]⟩),(7,[],⟨[(2,.ptr 600002 0),(3,.ptr 600003 0),(58,.val .bool)],[(600002,.box 31 (.val T0_)),(600003,.box 31 (.val T0_))]⟩),(7,[],⟨[(2,.ptr 600002 0),(3,.ptr 600003 0),(65,.val .bool)],[(600002,.box 31 (.val T0_)),(600003,.box 31 (.val T0_))]⟩),(7,[],⟨[(2,.ptr 600002 0),(3,.ptr 600003 0),(72,.val .bool)],[(600002,.box 31 (.val T0_)),(600003,.box 31 (.val T0_))]⟩),(7,[],⟨[(2,.ptr 600002 0),(3,.ptr 600003 0),(79,.val .bool)],[(600002,.box 31 (.val T0_)),(600003,.box 31 (.val T0_))]⟩),(7,[],⟨[(2,.ptr 600002 0),(3,.ptr 600003 0),(86,.val .bool)],[(600002,.box 31 (.val T0_)),(600003,.box 31 (.val T0_))]⟩)])],fun y=>(valW .bool y,[],[])⟩
def V_aD (w_E:List Int×List Int→Option (Bool)) (w_aU:List (Int×Int×Int)×List (Int×Int×Int)→Option (Bool)) (N:Nat) (x:A1_×A1_):Option (Bool):=
 obind (cnd (decide (x.1.1=x.2.1)) (some (decide (x.1.2.1=x.2.2.1),x)) (some (false,x))) fun(b:Bool×A1_×A1_)=>obind (cnd b.1 (some (decide (b.2.1.2.2.1=b.2.2.2.2.1),b.2)) (some (false,b.2))) fun(b:Bool×A1_×A1_)=>obind (cnd b.1 (some (decide (b.2.1.2.2.2.1=b.2.2.2.2.2.1),b.2)) (some (false,b.2))) fun(b:Bool×A1_×A1_)=>obind (cnd b.1 (some (decide (b.2.1.2.2.2.2.1=b.2.2.2.2.2.2.1),b.2)) (some (false,b.2)))
 fun(b:Bool×A1_×A1_)=>obind (cnd b.1 (some (decide (b.2.1.2.2.2.2.2.1=b.2.2.2.2.2.2.2.1),
 b.2)) (some (false,b.2))) fun(b:Bool×A1_×A1_)=>obind (cnd b.1 (obind (w_E
 (b.2.1.2.2.2.2.2.2.1,b.2.2.2.2.2.2.2.2.1)) fun b_1=>some (b_1,b.2)) (some (false,b.2))) fun(b:Bool×A1_×A1_)=>obind (cnd b.1 (some (decide (b.2.1.2.2.2.2.2.2.2.1=b.2.2.2.2.2.2.2.2.2.1),b.2)) (some (false,b.2))) fun(b:Bool×A1_×A1_)=>obind (cnd b.1 (some (decide (b.2.1.2.2.2.2.2.2.2.2.1=b.2.2.2.2.2.2.2.2.2.2.1),b.2))
 (some (false,b.2))) fun(b:Bool×A1_×A1_)=>obind (cnd b.1 (some (decide
 (b.2.1.2.2.2.2.2.2.2.2.2.1=b.2.2.2.2.2.2.2.2.2.2.2.1),b.2)) (some (false,b.2))) fun(b:Bool×A1_×A1_)=>obind (cnd b.1 (some (decide (b.2.1.2.2.2.2.2.2.2.2.2.2.1=b.2.2.2.2.2.2.2.2.2.2.2.2.1),b.2)) (some (false,b.2))) fun(b:Bool×A1_×A1_)=>obind (cnd b.1 (some (decide (b.2.1.2.2.2.2.2.2.2.2.2.2.2.1=
 b.2.2.2.2.2.2.2.2.2.2.2.2.2.1),b.2)) (some (false,b.2))) fun(b:Bool×A1_×A1_)=>cnd b.1
 (obind (w_aU (b.2.1.2.2.2.2.2.2.2.2.2.2.2.2,b.2.2.2.2.2.2.2.2.2.2.2.2.2.2)) fun b=>some b) (some false)
theorem q_aD:∀w_E w_aU N x,u_aD.F L0 P0 (orcOf [u_E.con w_E,u_aU.con w_aU]) N x=V_aD w_E w_aU N x:=by intros;kernel_rfl
def W_aD (N:Nat):=V_aD (W_E N) (W_aU N) N
theorem con_aD_ok (N:Nat):(u_aD.con (W_aD N)).ok P0:=Uf.ok mixed (q_aD (W_E N) (W_aU N) N) ⟨con_E_ok N,con_aU_ok N,trivial⟩ Tryz.func31 (by kernel_rfl) fun x y=>by kernel_rfl
def u_aC:Uf:=⟨58,26,Tryz.f58,[.val (.list T5_),.val (.list T5_)],[],
⟨[(4,.val .bool)],[]⟩,[],
[(4,.loop [] ⟨[(5,.val (.int .i64))],[]⟩ [(.exit 0,⟨[],[]⟩),(.ret,⟨[(4,.val .bool)],[]⟩)])],
[],fun y=>(valW .bool y,[],[])⟩
def V_aC (N:Nat) (x:List (Int×List UInt8)×List (Int×List UInt8)):Option (Bool):=
 cnd (decide ((↑(List.length x.1):Int)≠(↑(List.length x.2):Int))) (some false) (obind (loopN N (fun(v:Int)=>cnd (decide (v<(↑(List.length
 x.1):Int))) (cnd (decide ((0:Int)≤v)&&decide (v<(↑(List.length x.1):Int))) (cnd (decide ((0:Int)≤v)&&decide (v<(↑(List.length x.2):
 Int))) (cnd (!(decide (Prod.fst (List.getD x.1 (Int.toNat v) ((0:Int),[]))=Prod.fst (List.getD x.2 (Int.toNat v) ((0:Int),[])))&&Prod.snd
 (List.getD x.1 (Int.toNat v) ((0:Int),[]))==Prod.snd (List.getD x.2 (Int.toNat v) ((0:Int),[])))) (some (Sum.inr (Sum.inr false))) (some
 (Sum.inl (wr .i64 (v+(1:Int)))))) none) none) (some (Sum.inr (Sum.inl ())))) (Int.ofNat (0:Nat))) fun(b:PUnit⊕Bool)=>selim (fun(b:PUnit)
 => some true) (fun(c:Bool)=>some c) b)
theorem q_aC:∀N x,u_aC.F L0 P0 (orcOf []) N x=V_aC N x:=by intros;kernel_rfl
def W_aC (N:Nat):=V_aC N
theorem con_aC_ok (N:Nat):(u_aC.con (W_aC N)).ok P0:=Uf.ok mixed (q_aC N) trivial Tryz.func58 (by kernel_rfl) fun x y=>by kernel_rfl
def u_aN:Uf:=⟨59,26,Tryz.f59,[.val (.list T4_),.val (.list T4_)],[],
⟨[(4,.val .bool)],[]⟩,[],
[(4,.loop [] ⟨[(5,.val (.int .i64))],[]⟩ [(.exit 0,⟨[],[]⟩),(.ret,⟨[(4,.val .bool)],[]⟩)])],
[],fun y=>(valW .bool y,[],[])⟩
def V_aN (N:Nat) (x:List A4_×List A4_):Option (Bool):=
 cnd (decide ((↑(List.length x.1):Int)≠(↑(List.length x.2):Int))) (some false) (obind (loopN N (fun(v:Int)=>cnd (decide (v<(↑(List.length
 x.1):Int))) (cnd (decide ((0:Int)≤v)&&decide (v<(↑(List.length x.1):Int))) (cnd (decide ((0:Int)≤v)&&decide (v<(↑(List.length x.2):
 Int))) (cnd (!(decide (Prod.fst (List.getD x.1 (Int.toNat v) ((0:Int),(0:Int),(0:Int),[],(0:Int)))=Prod.fst (List.getD x.2 (Int.toNat v)
 ((0:Int),(0:Int),(0:Int),[],(0:Int))))&&(decide (Prod.fst (Prod.snd (List.getD x.1 (Int.toNat v) ((0:Int),(0:Int),(0:Int),[],(0:Int))))=
 Prod.fst (Prod.snd (List.getD x.2 (Int.toNat v) ((0:Int),(0:Int),(0:Int),[],(0:Int)))))&&(decide (Prod.fst (Prod.snd (Prod.snd (List.getD x.1
 (Int.toNat v) ((0:Int),(0:Int),(0:Int),[],(0:Int)))))=Prod.fst (Prod.snd (Prod.snd (List.getD x.2 (Int.toNat v) ((0:Int),(0:Int),(0:Int),
 [],(0:Int))))))&&(Prod.fst (Prod.snd (Prod.snd (Prod.snd (List.getD x.1 (Int.toNat v) ((0:Int),(0:Int),(0:Int),[],(0:Int))))))==Prod.fst
 (Prod.snd (Prod.snd (Prod.snd (List.getD x.2 (Int.toNat v) ((0:Int),(0:Int),(0:Int),[],(0:Int))))))&&decide (Prod.snd (Prod.snd (Prod.snd
 (Prod.snd (List.getD x.1 (Int.toNat v) ((0:Int),(0:Int),(0:Int),[],(0:Int))))))=Prod.snd (Prod.snd (Prod.snd (Prod.snd (List.getD x.2
 (Int.toNat v) ((0:Int),(0:Int),(0:Int),[],(0:Int)))))))))))) (some (Sum.inr (Sum.inr false))) (some (Sum.inl (wr .i64 (v+(1:Int)))))) none)
 none) (some (Sum.inr (Sum.inl ())))) (Int.ofNat (0:Nat))) fun(b:PUnit⊕Bool)=>selim (fun(b:PUnit)=>some true) (fun(c:Bool)=>some c)
 b)
theorem q_aN:∀N x,u_aN.F L0 P0 (orcOf []) N x=V_aN N x:=by intros;kernel_rfl
def W_aN (N:Nat):=V_aN N
theorem con_aN_ok (N:Nat):(u_aN.con (W_aN N)).ok P0:=Uf.ok mixed (q_aN N) trivial Tryz.func59 (by kernel_rfl) fun x y=>by kernel_rfl
def u_aP:Uf:=⟨32,45,Tryz.f32,[.val (.agg T1_),.val (.agg T1_)],[],
⟨[(4,.val .bool)],[]⟩,[],
[],
[(1000001,.reg [(12,[],⟨[(2,.ptr 600002 0),(3,.ptr 600003 0),(16,.val .bool)],[(600002,.box 37 (.val T1_)),(600003,.box 37 (.val T1_))]⟩),(7,[],⟨[(2,.ptr 600002 0),(3,.ptr 600003 0),(23,.val .bool)],[(600002,.box 37 (.val T1_)),(600003,.box 37 (.val T1_))]⟩),(7,[],⟨[(2,.ptr 600002 0),(3,.ptr 600003 0),(30,.val .bool)],[(600002,.box 37 (.val T1_)),(600003,.box 37 (.val T1_))]⟩),(7,[],⟨[(2,.ptr 600002 0),(3,.ptr 600003 0),(37,.val .bool)],[(600002,.box 37 (.val T1_)),(600003,.box 37 (.val T1_))]⟩)])],fun y=>(valW .bool y,[],[])⟩
def V_aP (w_aC:List (Int×List UInt8)×List (Int×List UInt8)→Option (Bool)) (w_aN:List A4_×List A4_→Option (Bool)) (N:Nat) (x:A0_×A0_):Option (Bool):=
 obind (cnd (decide (x.1.1=x.2.1)) (some (decide (x.1.2.1=x.2.2.1),x)) (some (false,x))) fun(b:Bool×A0_×A0_)=>obind (cnd b.1 (obind (w_aC (b.2.1.2.2.1,b.2.2.2.2.1)) fun b_1=>some
 (b_1,b.2)) (some (false,b.2))) fun(b:Bool×A0_×A0_)=>
 obind (cnd b.1 (obind (w_aC (b.2.1.2.2.2.1,b.2.2.2.2.2.1)) fun b_1=>some (b_1,b.2)) (some (false,b.2))) fun(b:Bool×A0_×A0_)=>obind (cnd b.1 (obind (w_aN
 (b.2.1.2.2.2.2.1,b.2.2.2.2.2.2.1)) fun b_1=>some (b_1,b.2)) (some (false,b.2))) fun(b:Bool×A0_×A0_)=>cnd b.1 (some (decide (b.2.1.2.2.2.2.2.1=b.2.2.2.2.2.2.2.1)&&decide (b.2.1.2.2.2.2.2.2=
 b.2.2.2.2.2.2.2.2))) (some false)
theorem q_aP:∀w_aC w_aN N x,u_aP.F L0 P0 (orcOf [u_aC.con w_aC,u_aN.con w_aN]) N x=V_aP w_aC w_aN N x:=by intros;kernel_rfl
def W_aP (N:Nat):=V_aP (W_aC N) (W_aN N) N
theorem con_aP_ok (N:Nat):(u_aP.con (W_aP N)).ok P0:=Uf.ok mixed (q_aP (W_aC N) (W_aN N) N) ⟨con_aC_ok N,con_aN_ok N,trivial⟩ Tryz.func32 (by kernel_rfl) fun x y=>by kernel_rfl
def u_D:Uf:=⟨14,45,Tryz.f14,[.val (.agg T2_),.val (.agg T2_)],[],
⟨[(4,.val .bool)],[]⟩,[],
[],
[(1000001,.reg [(12,[],⟨[(2,.ptr 600002 0),(3,.ptr 600003 0),(16,.val .bool)],[(600002,.box 39 (.val T2_)),(600003,.box 39 (.val T2_))]⟩),(7,[],⟨[(2,.ptr 600002 0),(3,.ptr 600003 0),(23,.val .bool)],[(600002,.box 39 (.val T2_)),(600003,.box 39 (.val T2_))]⟩),(7,[],⟨[(2,.ptr 600002 0),(3,.ptr 600003 0),(30,.val .bool)],[(600002,.box 39 (.val T2_)),(600003,.box 39 (.val T2_))]⟩),(7,[],⟨[(2,.ptr 600002 0),(3,.ptr 600003 0),(37,.val .bool)],[(600002,.box 39 (.val T2_)),(600003,.box 39 (.val T2_))]⟩)])],fun y=>(valW .bool y,[],[])⟩
def V_D (w_aD:A1_×A1_→Option (Bool)) (w_aP:A0_×A0_→Option (Bool)) (N:Nat) (x:A3_×A3_):Option (Bool):=
 obind (cnd (x.1.1==x.2.1) (some (decide (x.1.2.1=x.2.2.1),x)) (some (false,x))) fun(b:Bool×A3_×A3_)=>obind (cnd b.1 (some (b.2.1.2.2.1==b.2.2.2.2.1,b.2)) (some (false,b.2))) fun(b:Bool×A3_×A3_)=>obind (cnd b.1 (obind (w_aD (b.2.1.2.2.2.1,b.2.2.2.2.2.1)) fun b_1=>some
 (b_1,b.2)) (some (false,b.2))) fun(b:Bool×A3_×A3_)=>obind (cnd b.1 (obind
 (w_aP (b.2.1.2.2.2.2.1,b.2.2.2.2.2.2.1)) fun b_1=>some (b_1,b.2)) (some (false,b.2))) fun(b:Bool×A3_×A3_)=>cnd b.1 (some (decide (b.2.1.2.2.2.2.2=b.2.2.2.2.2.2.2))) (some false)
theorem q_D:∀w_aD w_aP N x,u_D.F L0 P0 (orcOf [u_aD.con w_aD,u_aP.con w_aP]) N x=V_D w_aD w_aP N x:=by intros;kernel_rfl
def W_D (N:Nat):=V_D (W_aD N) (W_aP N) N
theorem con_D_ok (N:Nat):(u_D.con (W_D N)).ok P0:=Uf.ok mixed (q_D (W_aD N) (W_aP N) N) ⟨con_aD_ok N,con_aP_ok N,trivial⟩ Tryz.func14 (by kernel_rfl) fun x y=>by kernel_rfl
def u_ar:Uf:=⟨20,12,Tryz.f20,[.val (.agg T2_)],[],
⟨[(2,.ptr 600002 0)],[(600002,.box 39 (.val T2_))]⟩,[],
[],
[],fun y=>(valW (.agg T2_) y,[],[])⟩
def V_ar (N:Nat) (x:A3_):Option A3_:=
 cnd (!x.1) (some x) (some (false,x.2.1,[],((0:Int),(0:Int),(0:Int),(0:Int),(0:Int),(0:Int),[],(0:Int),(0:Int),(0:Int),(0:Int),(0:Int),[]),((0:Int),(0:Int),[],[],[],(0:Int),(0:Int)),x.2.2.2.2.2))
theorem q_ar:∀N x,u_ar.F L0 P0 (orcOf []) N x=V_ar N x:=by intros;kernel_rfl
def W_ar (N:Nat):=V_ar N
theorem con_ar_ok (N:Nat):(u_ar.con (W_ar N)).ok P0:=Uf.ok mixed (q_ar N) trivial Tryz.func20 (by kernel_rfl) fun x y=>by kernel_rfl
def u_af:Uf:=⟨147,9,Tryz.f147,[.val T3_,.ptr 0 0],[.box 3 (.int .i64)],
⟨[(1,.ptr 1000000 0),(3,.val .bool)],[(1000000,.box 3 (.val (.int .i64)))]⟩,[true],
[],
[],fun y=>(valW .bool y.1,[.box 3 (cellsW (.int .i64) y.2)],[])⟩
def V_af (N:Nat) (x:(Int×Int×Int)×Int):Option (Bool×Int):=
 some (decide (x.1.2.2<wr .i64 (x.2-(20:Int))),x.2)
theorem q_af:∀N x,u_af.F L0 P0 (orcOf []) N x=V_af N x:=by intros;kernel_rfl
def W_af (N:Nat):=V_af N
theorem con_af_ok (N:Nat):(u_af.con (W_af N)).ok P0:=Uf.ok mixed (q_af N) trivial Tryz.func147 (by kernel_rfl) fun x y=>by kernel_rfl
def u_bz:Uf:=⟨174,19,Tryz.f174,[.val (.list T3_),.fn 147 [0]],[.box 3 (.int .i64)],
⟨[(1,.fn 147 [1000000]),(4,.val (.int .i64))],[(1000000,.box 3 (.val (.int .i64)))]⟩,[true],
[(2,.loop [] ⟨[(1,.fn 147 [1000000]),(8,.val (.int .i64))],[(1000000,.box 3 (.val (.int .i64)))]⟩ [(.exit 0,⟨[(1,.fn 147 [1000000])],[(1000000,.box 3 (.val (.int .i64)))]⟩),(.ret,⟨[(1,.fn 147 [1000000]),(4,.val (.int .i64))],[(1000000,.box 3 (.val (.int .i64)))]⟩)])],
[],fun y=>(valW (.int .i64) y.1,[.box 3 (cellsW (.int .i64) y.2)],[])⟩
def V_bz (w_af:(Int×Int×Int)×Int→Option (Bool×Int)) (N:Nat) (x:List (Int×Int×Int)×Int):Option (Int×Int):=
 obind (loopN N (fun(v:Int×Int)=>cnd (decide (v.1<(↑(List.length x.1):Int))) (cnd (decide ((0:Int)≤v.1)&&decide (v.1<(↑(List.length
 x.1):Int))) (obind (w_af ((Prod.fst (List.getD x.1 (Int.toNat v.1) ((0:Int),(0:Int),(0:Int))),Prod.fst (Prod.snd (List.getD x.1
 (Int.toNat v.1) ((0:Int),(0:Int),(0:Int)))),Prod.snd (Prod.snd (List.getD x.1 (Int.toNat v.1) ((0:Int),(0:Int),(0:Int))))),v.2)) fun b=>cnd
 b.1 (some (Sum.inr (Sum.inr (v.1,b.2)))) (some (Sum.inl (wr .i64 (v.1+(1:Int)),b.2)))) none) (some (Sum.inr (Sum.inl v.2)))) ((0:Int),x.2)) fun
 (b:Int⊕Int×Int)=>selim (fun(b:Int)=>some ((-1:Int),b)) (fun(c:Int×Int)=>some c) b
theorem q_bz:∀w_af N x,u_bz.F L0 P0 (orcOf [u_af.con w_af]) N x=V_bz w_af N x:=by intros;kernel_rfl
def W_bz (N:Nat):=V_bz (W_af N) N
theorem con_bz_ok (N:Nat):(u_bz.con (W_bz N)).ok P0:=Uf.ok mixed (q_bz (W_af N) N) ⟨con_af_ok N,trivial⟩ Tryz.func174 (by kernel_rfl) fun x y=>by kernel_rfl
def u_bx:Uf:=⟨142,42,Tryz.f142,[.acc 0,.fn 147 [1]],[.nrow 53 T3_ true,.box 3 (.int .i64)],
⟨[(1,.fn 147 [1000001]),(4,.val (.list T3_))],[(1000001,.box 3 (.val (.int .i64)))]⟩,[false,true],
[(5,.loop [] ⟨[(0,.acc 1000000),(1,.fn 147 [1000001]),(5,.val (.int .i64)),(6,.val (.int .i64))],[(1000000,.nrow 53 T3_ false true),(1000001,.box 3 (.val (.int .i64)))]⟩ [(.exit 0,⟨[(0,.acc 1000000),(1,.fn 147 [1000001]),(5,.val (.int .i64))],[(1000000,.nrow 53 T3_ false true),(1000001,.box 3 (.val (.int .i64)))]⟩)])],
[],fun y=>(valW (.list T3_) y.1,[.dead,.box 3 (cellsW (.int .i64) y.2)],[])⟩
def V_bx (w_bz:List (Int×Int×Int)×Int→Option (Int×Int)) (w_af:(Int×Int×Int)×Int→Option (Bool×Int)) (N:Nat) (x:List (Int×Int×Int)×Int):Option (List (Int×Int×Int)×Int):=
 obind (w_bz x) fun b=>cnd (decide (b.1=(-1:Int))) (some (x.1,b.2)) (obind (loopN N (fun(v:Int×Int×List (Int×Int×Int)×Int)=>cnd (decide (v.2.1<(↑(List.length v.2.2.1):Int))) (cnd (decide ((0:Int)≤v.2.1)&&decide (v.2.1 <
 (↑(List.length v.2.2.1):Int))) (obind (w_af ((Prod.fst (List.getD v.2.2.1 (Int.toNat v.2.1) ((0:Int),(0:Int),(0:Int))),Prod.fst
 (Prod.snd (List.getD v.2.2.1 (Int.toNat v.2.1) ((0:Int),(0:Int),(0:Int)))),Prod.snd (Prod.snd (List.getD v.2.2.1 (Int.toNat v.2.1) ((0:Int),
 (0:Int),(0:Int))))),v.2.2.2)) fun b=>cnd (!b.1) (cnd (decide ((0:Int)≤v.1)&&decide (v.1<(↑(List.length v.2.2.1):Int))) (some (Sum.inl
 (wr .i64 (v.1+(1:Int)),wr .i64 (v.2.1+(1:Int)),putL v.2.2.1 [(Prod.fst (List.getD v.2.2.1 (Int.toNat v.2.1) ((0:Int),(0:Int),(0:Int))),
 Prod.fst (Prod.snd (List.getD v.2.2.1 (Int.toNat v.2.1) ((0:Int),(0:Int),(0:Int)))),Prod.snd (Prod.snd (List.getD v.2.2.1 (Int.toNat v.2.1)
 ((0:Int),(0:Int),(0:Int)))))] (Int.toNat v.1),b.2))) none) (some (Sum.inl (v.1,wr .i64 (v.2.1+(1:Int)),v.2.2.1,b.2)))) none) (some (Sum.inr
 (v.1,v.2.2)))) (b.1,wr .i64 (b.1+(1:Int)),x.1,b.2)) fun(b:Int×List (Int×Int×Int)×Int)=>cnd (decide ((0:Int)≤Option.getD (some
 b.1) (0:Int))) (cnd (decide (Option.getD (some b.1) (0:Int)≤(↑(List.length b.2.1):Int))) (cnd (decide (Option.getD none (0:Int)≤b.1)) (cnd
 (decide ((↑(0:Nat):Int)+b.1≤(↑(List.length (putL b.2.1 (List.replicate (Prod.snd (Prod.snd (cutT (0:Nat) (List.length b.2.1) (List.length
 b.2.1) (some b.1) none))-Prod.fst (Prod.snd (cutT (0:Nat) (List.length b.2.1) (List.length b.2.1) (some b.1) none))) ((0:Int),(0:Int),(0:Int)))
 ((0:Nat)+Prod.fst (Prod.snd (cutT (0:Nat) (List.length b.2.1) (List.length b.2.1) (some b.1) none))))):Int))) (some (List.drop ((0:Nat) +
 Prod.fst (Prod.snd (cutT (0:Nat) (List.length (putL b.2.1 (List.replicate (Prod.snd (Prod.snd (cutT (0:Nat) (List.length b.2.1) (List.length b.2.1)
 (some b.1) none))-Prod.fst (Prod.snd (cutT (0:Nat) (List.length b.2.1) (List.length b.2.1) (some b.1) none))) ((0:Int),(0:Int),(0:Int)))
 ((0:Nat)+Prod.fst (Prod.snd (cutT (0:Nat) (List.length b.2.1) (List.length b.2.1) (some b.1) none))))) (List.length (putL b.2.1 (List.replicate
 (Prod.snd (Prod.snd (cutT (0:Nat) (List.length b.2.1) (List.length b.2.1) (some b.1) none))-Prod.fst (Prod.snd (cutT (0:Nat) (List.length b.2.1)
 (List.length b.2.1) (some b.1) none))) ((0:Int),(0:Int),(0:Int))) ((0:Nat)+Prod.fst (Prod.snd (cutT (0:Nat) (List.length b.2.1) (List.length
 b.2.1) (some b.1) none))))) none (some b.1)))) (List.take ((0:Nat)+Prod.fst (Prod.snd (cutT (0:Nat) (List.length (putL b.2.1 (List.replicate
 (Prod.snd (Prod.snd (cutT (0:Nat) (List.length b.2.1) (List.length b.2.1) (some b.1) none))-Prod.fst (Prod.snd (cutT (0:Nat) (List.length b.2.1)
 (List.length b.2.1) (some b.1) none))) ((0:Int),(0:Int),(0:Int))) ((0:Nat)+Prod.fst (Prod.snd (cutT (0:Nat) (List.length b.2.1) (List.length
 b.2.1) (some b.1) none))))) (List.length (putL b.2.1 (List.replicate (Prod.snd (Prod.snd (cutT (0:Nat) (List.length b.2.1) (List.length b.2.1) (some
 b.1) none))-Prod.fst (Prod.snd (cutT (0:Nat) (List.length b.2.1) (List.length b.2.1) (some b.1) none))) ((0:Int),(0:Int),(0:Int))) ((0:Nat) +
 Prod.fst (Prod.snd (cutT (0:Nat) (List.length b.2.1) (List.length b.2.1) (some b.1) none))))) none (some b.1)))+(Prod.snd (Prod.snd (cutT (0:Nat)
 (List.length (putL b.2.1 (List.replicate (Prod.snd (Prod.snd (cutT (0:Nat) (List.length b.2.1) (List.length b.2.1) (some b.1) none))-Prod.fst
 (Prod.snd (cutT (0:Nat) (List.length b.2.1) (List.length b.2.1) (some b.1) none))) ((0:Int),(0:Int),(0:Int))) ((0:Nat)+Prod.fst (Prod.snd (cutT
 (0:Nat) (List.length b.2.1) (List.length b.2.1) (some b.1) none))))) (List.length (putL b.2.1 (List.replicate (Prod.snd (Prod.snd (cutT (0:Nat)
 (List.length b.2.1) (List.length b.2.1) (some b.1) none))-Prod.fst (Prod.snd (cutT (0:Nat) (List.length b.2.1) (List.length b.2.1) (some b.1)
 none))) ((0:Int),(0:Int),(0:Int))) ((0:Nat)+Prod.fst (Prod.snd (cutT (0:Nat) (List.length b.2.1) (List.length b.2.1) (some b.1) none))))) none
 (some b.1)))-Prod.fst (Prod.snd (cutT (0:Nat) (List.length (putL b.2.1 (List.replicate (Prod.snd (Prod.snd (cutT (0:Nat) (List.length b.2.1)
 (List.length b.2.1) (some b.1) none))-Prod.fst (Prod.snd (cutT (0:Nat) (List.length b.2.1) (List.length b.2.1) (some b.1) none))) ((0:Int),
 (0:Int),(0:Int))) ((0:Nat)+Prod.fst (Prod.snd (cutT (0:Nat) (List.length b.2.1) (List.length b.2.1) (some b.1) none))))) (List.length (putL b.2.1
 (List.replicate (Prod.snd (Prod.snd (cutT (0:Nat) (List.length b.2.1) (List.length b.2.1) (some b.1) none))-Prod.fst (Prod.snd (cutT (0:Nat)
 (List.length b.2.1) (List.length b.2.1) (some b.1) none))) ((0:Int),(0:Int),(0:Int))) ((0:Nat)+Prod.fst (Prod.snd (cutT (0:Nat) (List.length
 b.2.1) (List.length b.2.1) (some b.1) none))))) none (some b.1))))) (putL b.2.1 (List.replicate (Prod.snd (Prod.snd (cutT (0:Nat) (List.length
 b.2.1) (List.length b.2.1) (some b.1) none))-Prod.fst (Prod.snd (cutT (0:Nat) (List.length b.2.1) (List.length b.2.1) (some b.1) none))) ((0:Int),
 (0:Int),(0:Int))) ((0:Nat)+Prod.fst (Prod.snd (cutT (0:Nat) (List.length b.2.1) (List.length b.2.1) (some b.1) none))))),b.2.2)) none) none)
 none) none)
theorem q_bx:∀w_bz w_af N x,u_bx.F L0 P0 (orcOf [u_bz.con w_bz,u_af.con w_af]) N x=V_bx w_bz w_af N x:=by intros;kernel_rfl
def W_bx (N:Nat):=V_bx (W_bz N) (W_af N) N
theorem con_bx_ok (N:Nat):(u_bx.con (W_bx N)).ok P0:=Uf.ok mixed (q_bx (W_bz N) (W_af N) N) ⟨con_bz_ok N,con_af_ok N,trivial⟩ Tryz.func142 (by kernel_rfl) fun x y=>by kernel_rfl
def u_bH:Uf:=⟨94,9,Tryz.f94,[.val (.list T3_),.val (.int .i64)],[],
⟨[(4,.val (.list T3_))],[]⟩,[],
[],
[],fun y=>(valW (.list T3_) y,[],[])⟩
def V_bH (w_e:List (Int×Int×Int)→Option (List (Int×Int×Int))) (w_bx:List (Int×Int×Int)×Int→Option (List (Int×Int×Int)×Int)) (N:Nat) (x:List (Int×Int×Int)×Int):Option (List (Int×Int×Int)):=
 obind (w_e x.1) fun b=>obind (w_bx (b,x.2)) fun b=>some b.1
theorem q_bH:∀w_e w_bx N x,u_bH.F L0 P0 (orcOf [conw_e w_e,u_bx.con w_bx]) N x=V_bH w_e w_bx N x:=by intros;kernel_rfl
def W_bH (N:Nat):=V_bH (W_e N) (W_bx N) N
theorem con_bH_ok (N:Nat):(u_bH.con (W_bH N)).ok P0:=Uf.ok mixed (q_bH (W_e N) (W_bx N) N) ⟨con_e_ok N,con_bx_ok N,trivial⟩ Tryz.func94 (by kernel_rfl) fun x y=>by kernel_rfl
def u_b5:Uf:=⟨96,49,Tryz.f96,[.val (.agg T0_)],[],
⟨[(2,.ptr 600002 0),(3,.acc 700048)],[(600002,.box 31 (.val T0_)),(700048,.nrow 46 (.agg T_) false true)]⟩,[],
[],
[(1000006,.reg [(8,[],⟨[(1,.ptr 600001 0),(2,.ptr 600002 0),(28,.val .bool)],[(600001,.box 31 (.val T0_)),(600002,.box 31 (.val T0_))]⟩)]),
(8,.cut [] [(.normal,⟨[(1,.ptr 600001 0),(2,.ptr 600002 0)],[(600001,.box 31 (.val T0_)),(600002,.box 31 (.val T0_))]⟩)]),
(3,.cut [] [(.normal,⟨[(1,.ptr 600001 0),(2,.ptr 600002 0)],[(600001,.box 31 (.val T0_)),(600002,.box 31 (.val T0_))]⟩)])],fun y=>(.tup [valW (.agg T0_) y.1,.acc 2000000 0],[],[.nrow 46 false true ⟨(.agg T_),y.2⟩])⟩
def V_b5 (w_u:A1_→Option A1_) (w_g:A1_×Int×Int→Option (M_)) (N:Nat) (x:A1_):Option (A1_×List (M_)):=
 obind (cnd (decide (x.2.2.2.2.2.2.2.2.2.1≠(0:Int))) (cnd (decide (x.2.2.2.2.2.2.2.2.2.2.1≤x.2.2.1)) (obind (w_u x) fun b=>some (b,
 (0:Int),(0:Int),(0:Int),(0:Int),(0:Int),(0:Int),[],(0:Int),(0:Int),(0:Int),(0:Int),(0:Int),[])) (some (x,(0:Int),(0:Int),(0:Int),
 (0:Int),(0:Int),(0:Int),[],(0:Int),(0:Int),(0:Int),(0:Int),(0:Int),[]))) (some (x,(0:Int),(0:Int),(0:Int),(0:Int),(0:Int),(0:Int),
 [],(0:Int),(0:Int),(0:Int),(0:Int),(0:Int),[]))) fun(b:A1_×A1_)=>cnd (decide
 (b.1.2.2.2.2.2.2.2.2.2.1≠(0:Int))) (some (b.1,[])) (obind (obind (cnd (decide (b.1.2.2.2.2.2.2.2.2.2.2.2.1=(0:Int))) (some (decide
 (b.1.2.2.2.2.2.1≠(0:Int)),(b.1.1,b.1.2.1,b.1.2.2.1,b.1.2.2.2.1,b.1.2.2.2.2.1,b.1.2.2.2.2.2.1,b.1.2.2.2.2.2.2.1,b.1.2.2.2.2.2.2.2.1,
 b.1.2.2.2.2.2.2.2.2.1,(1:Int),b.1.2.2.2.2.2.2.2.2.2.2),b.2)) (some (false,(b.1.1,b.1.2.1,b.1.2.2.1,b.1.2.2.2.1,b.1.2.2.2.2.1,
 b.1.2.2.2.2.2.1,b.1.2.2.2.2.2.2.1,b.1.2.2.2.2.2.2.2.1,b.1.2.2.2.2.2.2.2.2.1,(1:Int),b.1.2.2.2.2.2.2.2.2.2.2),b.2))) fun(b:Bool×A1_×A1_)=>cnd b.1 (cnd (decide (b.2.1.2.2.2.2.2.1≠b.2.1.1)) (some ((b.2.1.1,b.2.1.2.1,b.2.1.2.2.1,
 b.2.1.2.2.2.1,b.2.1.2.2.2.2.1,b.2.1.2.2.2.2.2.1,b.2.1.2.2.2.2.2.2.1,b.2.1.2.2.2.2.2.2.2.1,b.2.1.2.2.2.2.2.2.2.2.1,b.2.1.2.2.2.2.2.1,
 b.2.1.2.2.2.2.2.2.2.2.2.2),b.2.2)) (some b.2)) (some b.2)) fun(b:A1_×A1_)=>obind (w_g ((b.1.1,b.1.2.1,b.1.2.2.1,b.1.2.2.2.1,b.1.2.2.2.2.1,b.1.2.2.2.2.2.1,b.1.2.2.2.2.2.2.1,b.1.2.2.2.2.2.2.2.1,b.1.2.2.2.2.2.2.2.2.1,
 b.1.2.2.2.2.2.2.2.2.2.1,wr .i64 (b.1.2.2.1+(3:Int)),b.1.2.2.2.2.2.2.2.2.2.2.2),(1:Int),b.1.2.2.2.2.2.2.2.2.2.1)) fun b_1=>some ((b.1.1,
 b.1.2.1,b.1.2.2.1,b.1.2.2.2.1,b.1.2.2.2.2.1,b.1.2.2.2.2.2.1,b.1.2.2.2.2.2.2.1,b.1.2.2.2.2.2.2.2.1,b.1.2.2.2.2.2.2.2.2.1,
 b.1.2.2.2.2.2.2.2.2.2.1,wr .i64 (b.1.2.2.1+(3:Int)),b.1.2.2.2.2.2.2.2.2.2.2.2),[b_1]))
theorem q_b5:∀w_u w_g N x,u_b5.F L0 P0 (orcOf [u_u.con w_u,u_g.con w_g]) N x=V_b5 w_u w_g N x:=by intros;kernel_rfl
def W_b5 (N:Nat):=V_b5 (W_u N) (W_g N) N
theorem con_b5_ok (N:Nat):(u_b5.con (W_b5 N)).ok P0:=Uf.ok mixed (q_b5 (W_u N) (W_g N) N) ⟨con_u_ok N,con_g_ok N,trivial⟩ Tryz.func96 (by kernel_rfl) fun x y=>by kernel_rfl
def u_b3:Uf:=⟨97,34,Tryz.f97,[.val (.agg T0_)],[],
⟨[(2,.val (.list (.agg T_)))],[]⟩,[],
[(6,.loop [19] ⟨[(1,.ptr 600001 0),(3,.acc 700003),(21,.val (.int .i64))],[(600001,.box 31 (.val T0_)),(700003,.nrow 46 (.agg T_) true true)]⟩ [(.exit 0,⟨[(3,.val (.list (.agg T_)))],[]⟩)])],
[(4,.cut [] [(.normal,⟨[(1,.ptr 600001 0),(3,.acc 700003)],[(600001,.box 31 (.val T0_)),(700003,.nrow 46 (.agg T_) true true)]⟩)])],fun y=>(valW (.list (.agg T_)) y,[],[])⟩
def V_b3 (w_g:A1_×Int×Int→Option (M_)) (w_A:A1_→Option (Bool)) (w_8:A1_×Int×Int→Option (M_)) (N:Nat) (x:A1_):Option (List (M_)):=
 obind (cnd (decide (x.2.2.2.1≠(0:Int))) (obind (w_g (x,(4:Int),x.2.2.2.1)) fun b=>some (x,[b])) (some (x,[]))) fun(b:A1_×List A2_)=>obind (w_A b.1) fun b_1=>cnd b_1 (obind (loopN N (fun(v:Int×A1_×List A2_)=>cnd (decide
 (v.1<(↑(List.length b.1.2.2.2.2.2.2.2.2.2.2.2.2):Int))) (cnd (decide ((0:Int)≤v.1)&&decide (v.1<(↑(List.length
 b.1.2.2.2.2.2.2.2.2.2.2.2.2):Int))) (obind (w_8 (v.2.1,(5:Int),Prod.fst (List.getD b.1.2.2.2.2.2.2.2.2.2.2.2.2 (Int.toNat v.1)
 ((0:Int),(0:Int),(0:Int))))) fun b=>cnd (decide ((List.length v.2.2+List.length [b])*(104:Nat)≤(140737488355328:Nat))) (some (Sum.inl (wr
 .i64 (v.1+(1:Int)),v.2.1,v.2.2++[b]))) none) none) (some (Sum.inr v.2.2))) ((0:Int),b)) fun(b:List A2_)=>some b) (some b.2)
theorem q_b3:∀w_g w_A w_8 N x,u_b3.F L0 P0 (orcOf [u_g.con w_g,u_A.con w_A,u_8.con w_8]) N x=V_b3 w_g w_A w_8 N x:=by intros;kernel_rfl
def W_b3 (N:Nat):=V_b3 (W_g N) (W_A N) (W_8 N) N
theorem con_b3_ok (N:Nat):(u_b3.con (W_b3 N)).ok P0:=Uf.ok mixed (q_b3 (W_g N) (W_A N) (W_8 N) N) ⟨con_g_ok N,con_A_ok N,con_8_ok N,trivial⟩ Tryz.func97 (by kernel_rfl) fun x y=>by kernel_rfl
def u_bY:Uf:=⟨48,66,Tryz.f48,[.val (.agg T0_)],[],
⟨[(2,.ptr 600002 0),(3,.acc 700058)],[(600002,.box 31 (.val T0_)),(700058,.nrow 46 (.agg T_) false true)]⟩,[],
[],
[(13,.cut [] [(.normal,⟨[(2,.ptr 600002 0),(4,.ptr 600004 0),(6,.acc 700058)],[(600002,.box 31 (.val T0_)),(600004,.box 31 (.val T0_)),(700058,.nrow 46 (.agg T_) false true)]⟩)]),
(10,.cut [] [(.normal,⟨[(2,.ptr 600002 0),(4,.ptr 600004 0)],[(600002,.box 31 (.val T0_)),(600004,.box 31 (.val T0_))]⟩)]),
(8,.cut [] [(.normal,⟨[(2,.ptr 600002 0),(4,.ptr 600004 0)],[(600002,.box 31 (.val T0_)),(600004,.box 31 (.val T0_))]⟩)])],fun y=>(.tup [valW (.agg T0_) y.1,.acc 2000000 0],[],[.nrow 46 false true ⟨(.agg T_),y.2⟩])⟩
def V_bY (w_v:A1_→Option A1_) (w_bH:List (Int×Int×Int)×Int→Option (List (Int×Int×Int))) (w_A:A1_→Option (Bool)) (w_q:A1_×Int→Option A1_) (w_b5:A1_→Option (A1_×List (M_))) (w_b3:A1_→Option (List (M_))) (N:Nat) (x:A1_):Option (A1_×List (M_)):=
 obind (w_v x) fun b=>obind (w_bH (b.2.2.2.2.2.2.2.2.2.2.2.2,wr .i64 (b.2.2.1+(1:Int)))) fun b_1=>obind (cnd (decide (b.1=
 (1:Int))) (cnd (decide (Int.tmod (wr .i64 (b.2.2.1+(1:Int))) (2:Int)=(0:Int))) (some (((0:Int),(0:Int),(0:Int),(0:Int),(0:Int),(0:Int),[],
 (0:Int),(0:Int),(0:Int),(0:Int),(0:Int),[]),b.1,b.2.1,wr .i64 (b.2.2.1+(1:Int)),b.2.2.2.1,b.2.2.2.2.1,b.2.2.2.2.2.1,b.2.2.2.2.2.2.1,
 wr .i64 (b.2.2.2.2.2.2.2.1+(1:Int)),wr .i64 (b.2.2.1+(1:Int)),b.2.2.2.2.2.2.2.2.2.1,b.2.2.2.2.2.2.2.2.2.2.1,b.2.2.2.2.2.2.2.2.2.2.2.1,b_1))
 (some (((0:Int),(0:Int),(0:Int),(0:Int),(0:Int),(0:Int),[],(0:Int),(0:Int),(0:Int),(0:Int),(0:Int),[]),b.1,b.2.1,wr .i64 (b.2.2.1 +
 (1:Int)),b.2.2.2.1,b.2.2.2.2.1,b.2.2.2.2.2.1,b.2.2.2.2.2.2.1,b.2.2.2.2.2.2.2.1,b.2.2.2.2.2.2.2.2.1,b.2.2.2.2.2.2.2.2.2.1,
 b.2.2.2.2.2.2.2.2.2.2.1,b.2.2.2.2.2.2.2.2.2.2.2.1,b_1))) (some (((0:Int),(0:Int),(0:Int),(0:Int),(0:Int),(0:Int),[],(0:Int),(0:Int),
 (0:Int),(0:Int),(0:Int),[]),b.1,b.2.1,wr .i64 (b.2.2.1+(1:Int)),b.2.2.2.1,b.2.2.2.2.1,b.2.2.2.2.2.1,b.2.2.2.2.2.2.1,b.2.2.2.2.2.2.2.1,
 b.2.2.2.2.2.2.2.2.1,b.2.2.2.2.2.2.2.2.2.1,b.2.2.2.2.2.2.2.2.2.2.1,b.2.2.2.2.2.2.2.2.2.2.2.1,b_1))) fun(b_2:A1_×A1_)=>obind (cnd (decide (b_2.2.2.2.2.1≠(0:Int))) (obind (w_A b_2.2) fun b=>cnd (!b) (obind (w_q
 (b_2.2,(0:Int))) fun b=>some (b_2.1,b)) (some b_2)) (some b_2)) fun(b_3:A1_×A1_)=>obind (cnd
 (decide (b_3.2.2.2.2.1=(0:Int))) (cnd (decide (b_3.2.1≠(1:Int))) (obind (w_b5 b_3.2) fun b=>some (b_3.1,b)) (some (b_3.1,b_3.2,
 []))) (some (b_3.1,b_3.2,[]))) fun(b_4:A1_×A1_×List A2_)=>cnd (decide (Int.tmod (wr .i64 (b.2.2.1+(1:Int))) (2:Int)=(0:Int))) (obind (w_b3 b_4.2.1) fun b
 => cnd (decide ((List.length b_4.2.2+List.length b)*(104:Nat)≤(140737488355328:Nat))) (some (b_4.2.1,b_4.2.2++b)) none) (some b_4.2)
theorem q_bY:∀w_v w_bH w_A w_q w_b5 w_b3 N x,u_bY.F L0 P0 (orcOf [u_v.con w_v,u_bH.con w_bH,u_A.con w_A,u_q.con w_q,u_b5.con w_b5,u_b3.con w_b3]) N x=V_bY w_v w_bH w_A w_q w_b5 w_b3 N x:=by intros;kernel_rfl
def W_bY (N:Nat):=V_bY (W_v N) (W_bH N) (W_A N) (W_q N) (W_b5 N) (W_b3 N) N
theorem con_bY_ok (N:Nat):(u_bY.con (W_bY N)).ok P0:=Uf.ok mixed (q_bY (W_v N) (W_bH N) (W_A N) (W_q N) (W_b5 N) (W_b3 N) N) ⟨con_v_ok N,con_bH_ok N,con_A_ok N,con_q_ok N,con_b5_ok N,con_b3_ok N,trivial⟩ Tryz.func48 (by kernel_rfl) fun x y=>by kernel_rfl
def u_bU:Uf:=⟨98,34,Tryz.f98,[.val (.agg T1_)],[],
⟨[(2,.ptr 600002 0),(3,.val .bool)],[(600002,.box 101 (.val T6_))]⟩,[],
[],
[(5,.cut [] [(.normal,⟨[(1,.ptr 600001 0),(2,.ptr 600002 0),(4,.ptr 600004 0)],[(600001,.box 37 (.val T1_)),(600002,.box 101 (.val T6_)),(600004,.box 101 (.val T6_))]⟩)])],fun y=>(.tup [valW (.agg T6_) y.2,valW .bool y.1],[],[])⟩
def V_bU (w_ai:A0_→Option (Int⊕Unit)) (N:Nat) (x:A0_):Option (Bool×Int×Int):=
 obind (obind (w_ai x) fun b=>selim (fun(b:Int)=>some (x,((0:Int),(0:Int)),x.1,wr .i64 (b-(1:Int)))) (fun(c:PUnit)=>some (x,
 ((0:Int),(0:Int)),x.1,x.2.1)) b) fun(b:A0_×(Int×Int)×Int×Int)=>cnd (decide (b.1.1<(1:Int))) (some (false,(0:Int),(0:Int))) (cnd (decide (b.2.2.2<b.2.2.1))
 (some (false,(0:Int),(0:Int))) (some (true,b.2.2)))
theorem q_bU:∀w_ai N x,u_bU.F L0 P0 (orcOf [u_ai.con w_ai]) N x=V_bU w_ai N x:=by intros;kernel_rfl
def W_bU (N:Nat):=V_bU (W_ai N) N
theorem con_bU_ok (N:Nat):(u_bU.con (W_bU N)).ok P0:=Uf.ok mixed (q_bU (W_ai N) N) ⟨con_ai_ok N,trivial⟩ Tryz.func98 (by kernel_rfl) fun x y=>by kernel_rfl
def u_y:Uf:=⟨150,14,Tryz.f150,[.val (.agg T6_)],[],
⟨[(2,.val (.alt 201 (.agg T6_) (.alt1 232 (.agg .unit))))],[]⟩,[],
[],
[],fun y=>(valW (.alt 201 (.agg T6_) (.alt1 232 (.agg .unit))) y,[],[])⟩
def V_y (N:Nat) (x:Int×Int):Option ((Int×Int)⊕Unit):=
 cnd (decide (x.1=(0:Int))) (some (Sum.inr ())) (some (Sum.inl x))
theorem q_y:∀N x,u_y.F L0 P0 (orcOf []) N x=V_y N x:=by intros;kernel_rfl
def W_y (N:Nat):=V_y N
theorem con_y_ok (N:Nat):(u_y.con (W_y N)).ok P0:=Uf.ok mixed (q_y N) trivial Tryz.func150 (by kernel_rfl) fun x y=>by kernel_rfl
def u_bZ:Uf:=⟨99,21,Tryz.f99,[.val (.agg T6_),.val (.int .i64)],[],
⟨[(4,.val .bool)],[]⟩,[],
[],
[],fun y=>(valW .bool y,[],[])⟩
def V_bZ (w_y:Int×Int→Option ((Int×Int)⊕Unit)) (N:Nat) (x:(Int×Int)×Int):Option (Bool):=
 obind (w_y x.1) fun b=>selim (fun(b:Int×Int)=>some (decide (b.2≤x.2))) (fun(c:PUnit)=>some true) b
theorem q_bZ:∀w_y N x,u_bZ.F L0 P0 (orcOf [u_y.con w_y]) N x=V_bZ w_y N x:=by intros;kernel_rfl
def W_bZ (N:Nat):=V_bZ (W_y N) N
theorem con_bZ_ok (N:Nat):(u_bZ.con (W_bZ N)).ok P0:=Uf.ok mixed (q_bZ (W_y N) N) ⟨con_y_ok N,trivial⟩ Tryz.func99 (by kernel_rfl) fun x y=>by kernel_rfl
def u_bO:Uf:=⟨100,17,Tryz.f100,[.val (.agg T6_)],[],
⟨[(2,.val .bool)],[]⟩,[],
[],
[],fun y=>(valW .bool y,[],[])⟩
def V_bO (w_y:Int×Int→Option ((Int×Int)⊕Unit)) (N:Nat) (x:Int×Int):Option (Bool):=
 obind (w_y x) fun b=>selim (fun(b:Int×Int)=>some (decide ((3:Int)≤b.1))) (fun(c:PUnit)=>some false) b
theorem q_bO:∀w_y N x,u_bO.F L0 P0 (orcOf [u_y.con w_y]) N x=V_bO w_y N x:=by intros;kernel_rfl
def W_bO (N:Nat):=V_bO (W_y N) N
theorem con_bO_ok (N:Nat):(u_bO.con (W_bO N)).ok P0:=Uf.ok mixed (q_bO (W_y N) N) ⟨con_y_ok N,trivial⟩ Tryz.func100 (by kernel_rfl) fun x y=>by kernel_rfl
def u_bL:Uf:=⟨103,26,Tryz.f103,[.val (.agg T6_),.val (.int .i64)],[],
⟨[(4,.ptr 600004 0)],[(600004,.box 35 (.val T6_))]⟩,[],
[],
[],fun y=>(valW (.agg T6_) y,[],[])⟩
def V_bL (w_y:Int×Int→Option ((Int×Int)⊕Unit)) (N:Nat) (x:(Int×Int)×Int):Option (Int×Int):=
 obind (w_y x.1) fun b=>selim (fun(b:Int×Int)=>cnd (!decide (min (max b.1 (0:Int)) (3:Int)<(0:Int))) (some (wr .i64 (b.1 +
 (1:Int)),wr .i64 (x.2+wr .i64 ((2:Int)*(2:Int) ^ min (Int.toNat (min (max b.1 (0:Int)) (3:Int))) (64:Nat))))) none) (fun(c:PUnit)=>some
 (wr .i64 ((0:Int)+(1:Int)),wr .i64 (x.2+wr .i64 ((2:Int)*(2:Int) ^ (0:Nat))))) b
theorem q_bL:∀w_y N x,u_bL.F L0 P0 (orcOf [u_y.con w_y]) N x=V_bL w_y N x:=by intros;kernel_rfl
def W_bL (N:Nat):=V_bL (W_y N) N
theorem con_bL_ok (N:Nat):(u_bL.con (W_bL N)).ok P0:=Uf.ok mixed (q_bL (W_y N) N) ⟨con_y_ok N,trivial⟩ Tryz.func103 (by kernel_rfl) fun x y=>by kernel_rfl
def u_bV:Uf:=⟨49,52,Tryz.f49,[.val (.agg T1_),.val (.int .i64)],[],
⟨[(4,.ptr 600004 0),(5,.ptr 600005 0),(6,.val .bool)],[(600004,.box 37 (.val T1_)),(600005,.box 101 (.val T6_))]⟩,[],
[],
[],fun y=>(.tup [valW (.agg T1_) y.2.1,valW (.agg T6_) y.2.2,valW .bool y.1],[],[])⟩
def V_bV (w_a:A0_→Option A0_) (w_bU:A0_→Option (Bool×Int×Int)) (w_bZ:(Int×Int)×Int→Option (Bool)) (w_bO:Int×Int→Option (Bool)) (w_aa:A0_×Int×Int→Option (List (Int×Int)×A0_)) (w_p:A0_→Option A5_) (w_bL:(Int×Int)×Int→Option (Int×Int)) (N:Nat) (x:A0_×Int):Option (Bool×A0_×Int×Int):=
 obind (w_a x.1) fun b=>obind (w_bU x.1) fun b_1=>cnd (!b_1.1) (some (false,b,(0:Int),(0:Int))) (obind (w_bZ
 (x.1.2.2.2.2.2,x.2)) fun b_2=>cnd (!b_2) (some (false,b,(0:Int),(0:Int))) (obind (w_bO x.1.2.2.2.2.2) fun b_3=>cnd b_3 (obind
 (w_aa (b,b_1.2.2,(2:Int))) fun b=>obind (w_p b.2) fun b=>some (false,b.2,(0:Int),(0:Int))) (obind (w_bL
 (x.1.2.2.2.2.2,x.2)) fun b_4=>some (true,(b.1,b.2.1,b.2.2.1,b.2.2.2.1,b.2.2.2.2.1,b_4),b_1.2))))
theorem q_bV:∀w_a w_bU w_bZ w_bO w_aa w_p w_bL N x,u_bV.F L0 P0 (orcOf [u_a.con w_a,u_bU.con w_bU,u_bZ.con w_bZ,u_bO.con w_bO,u_aa.con w_aa,u_p.con w_p,u_bL.con w_bL]) N x=V_bV w_a w_bU w_bZ w_bO w_aa w_p w_bL N x:=by intros;kernel_rfl
def W_bV (N:Nat):=V_bV (W_a N) (W_bU N) (W_bZ N) (W_bO N) (W_aa N) (W_p N) (W_bL N) N
theorem con_bV_ok (N:Nat):(u_bV.con (W_bV N)).ok P0:=Uf.ok mixed (q_bV (W_a N) (W_bU N) (W_bZ N) (W_bO N) (W_aa N) (W_p N) (W_bL N) N) ⟨con_a_ok N,con_bU_ok N,con_bZ_ok N,con_bO_ok N,con_aa_ok N,con_p_ok N,con_bL_ok N,trivial⟩ Tryz.func49 (by kernel_rfl) fun x y=>by kernel_rfl
def u_as:Uf:=⟨21,86,Tryz.f21,[.val (.agg T2_)],[],
⟨[(2,.ptr 600002 0),(3,.val (.list (.agg T_)))],[(600002,.box 39 (.val T2_))]⟩,[],
[(7,.loop [] ⟨[(1,.ptr 600001 0),(2,.ptr 600002 0),(4,.ptr 600004 0),(5,.acc 700022),(26,.val (.int .i64))],[(600001,.box 39 (.val T2_)),(600002,.box 39 (.val T2_)),(600004,.box 39 (.val T2_)),(700022,.nrow 46 (.agg T_) false true)]⟩ [(.exit 0,⟨[(1,.ptr 600001 0),(2,.ptr 600002 0),(4,.ptr 600004 0),(5,.acc 700022)],[(600001,.box 39 (.val T2_)),(600002,.box 39 (.val T2_)),(600004,.box 39 (.val T2_)),(700022,.nrow 46 (.agg T_) false true)]⟩)])],
[(19,.cut [] [(.normal,⟨[(1,.ptr 600001 0),(2,.ptr 600002 0),(4,.ptr 600004 0),(5,.acc 700022),(7,.ptr 600007 0)],[(600001,.box 39 (.val T2_)),(600002,.box 39 (.val T2_)),(600004,.box 39 (.val T2_)),(700022,.nrow 46 (.agg T_) false true),(600007,.box 37 (.val T1_))]⟩)])],fun y=>(.tup [valW (.agg T2_) y.2,valW (.list (.agg T_)) y.1],[],[])⟩
def V_as (w_i:A3_→Option A3_) (w_bY:A1_→Option (A1_×List (M_))) (w_bV:A0_×Int→Option (Bool×A0_×Int×Int)) (w_z:A3_×Int×Int→Option (M_)) (w_x:A3_×A0_→Option (List (M_))) (N:Nat) (x:A3_):Option (List (M_)×A3_):=
 obind (w_i x) fun b=>cnd (!x.1) (some ([],b)) (obind (w_bY x.2.2.2.1) fun b_1=>obind (loopN N (fun(v:Int×A3_×A3_×A3_×List A2_)=>cnd (decide (v.1<(↑(List.length b_1.2)
 : Int))) (cnd (decide ((0:Int)≤v.1)&&decide (v.1<(↑(List.length v.2.2.2.2):Int))) (cnd (decide (Prod.fst (List.getD v.2.2.2.2 (Int.toNat
 v.1) ((0:Int),(0:Int),(0:Int),(0:Int),(0:Int),(0:Int),[],(0:Int),(0:Int),[]))=(5:Int))) (cnd (decide ((0:Int)≤v.1)&&decide (v.1 <
 (↑(List.length v.2.2.2.2):Int))) (some (Sum.inl (wr .i64 (v.1+(1:Int)),v.2.1,v.2.2.1,v.2.2.2.1,putL v.2.2.2.2 [(Prod.fst (List.getD
 v.2.2.2.2 (Int.toNat v.1) ((0:Int),(0:Int),(0:Int),(0:Int),(0:Int),(0:Int),[],(0:Int),(0:Int),[])),Prod.fst (Prod.snd (List.getD v.2.2.2.2
 (Int.toNat v.1) ((0:Int),(0:Int),(0:Int),(0:Int),(0:Int),(0:Int),[],(0:Int),(0:Int),[]))),Prod.fst (Prod.snd (Prod.snd (List.getD
 v.2.2.2.2 (Int.toNat v.1) ((0:Int),(0:Int),(0:Int),(0:Int),(0:Int),(0:Int),[],(0:Int),(0:Int),[])))),Prod.fst (Prod.snd (Prod.snd
 (Prod.snd (List.getD v.2.2.2.2 (Int.toNat v.1) ((0:Int),(0:Int),(0:Int),(0:Int),(0:Int),(0:Int),[],(0:Int),(0:Int),[]))))),Prod.fst
 (Prod.snd (Prod.snd (Prod.snd (Prod.snd (List.getD v.2.2.2.2 (Int.toNat v.1) ((0:Int),(0:Int),(0:Int),(0:Int),(0:Int),(0:Int),[],(0:Int),
 (0:Int),[])))))),Prod.fst (Prod.snd (Prod.snd (Prod.snd (Prod.snd (Prod.snd (List.getD v.2.2.2.2 (Int.toNat v.1) ((0:Int),(0:Int),(0:Int),
 (0:Int),(0:Int),(0:Int),[],(0:Int),(0:Int),[]))))))),Prod.fst (Prod.snd (Prod.snd (Prod.snd (Prod.snd (Prod.snd (Prod.snd (List.getD
 v.2.2.2.2 (Int.toNat v.1) ((0:Int),(0:Int),(0:Int),(0:Int),(0:Int),(0:Int),[],(0:Int),(0:Int),[])))))))),Prod.fst (Prod.snd (Prod.snd
 (Prod.snd (Prod.snd (Prod.snd (Prod.snd (Prod.snd (List.getD v.2.2.2.2 (Int.toNat v.1) ((0:Int),(0:Int),(0:Int),(0:Int),(0:Int),(0:Int),[],
 (0:Int),(0:Int),[]))))))))),max (wr .i64 (v.2.1.2.2.2.2.1.1-(1:Int))) (0:Int),Prod.snd (Prod.snd (Prod.snd (Prod.snd (Prod.snd (Prod.snd
 (Prod.snd (Prod.snd (Prod.snd (List.getD v.2.2.2.2 (Int.toNat v.1) ((0:Int),(0:Int),(0:Int),(0:Int),(0:Int),(0:Int),[],(0:Int),(0:Int),
 [])))))))))))] (Int.toNat v.1)))) none) (some (Sum.inl (wr .i64 (v.1+(1:Int)),v.2)))) none) (some (Sum.inr v.2))) ((0:Int),x,(false,(0:Int),
 [],((0:Int),(0:Int),(0:Int),(0:Int),(0:Int),(0:Int),[],(0:Int),(0:Int),(0:Int),(0:Int),(0:Int),[]),((0:Int),(0:Int),[],[],[],
 (0:Int),(0:Int)),(0:Int)),(b.1,b.2.1,b.2.2.1,b_1.1,b.2.2.2.2),b_1.2)) fun(b:A3_×A3_×A3_×List A2_)=>cnd (decide (b.2.2.1.2.2.2.1.2.2.2.1=(0:Int))) (some (b.2.2.2,b.2.2.1)) (obind
 (w_bV (b.1.2.2.2.2.1,b.2.2.1.2.2.2.1.2.2.1)) fun b_2=>obind (cnd b_2.1 (obind (w_z (b.2.2.1,(8:Int),
 b.2.2.1.2.2.2.1.2.2.2.1)) fun b_3=>cnd (decide ((List.length b.2.2.2+List.length [(b_3.1,b_3.2.1,b_3.2.2.1,b_3.2.2.2.1,b_3.2.2.2.2.1,
 b_3.2.2.2.2.2.1,b_3.2.2.2.2.2.2.1,b_2.2.2.1,b_2.2.2.2,b_3.2.2.2.2.2.2.2.2.2)])*(104:Nat)≤(140737488355328:Nat))) (some (b.1,b.2.1,b.2.2.1,
 b.2.2.2++[(b_3.1,b_3.2.1,b_3.2.2.1,b_3.2.2.2.1,b_3.2.2.2.2.1,b_3.2.2.2.2.2.1,b_3.2.2.2.2.2.2.1,b_2.2.2.1,b_2.2.2.2,
 b_3.2.2.2.2.2.2.2.2.2)],b_2.2.1)) none) (some (b.1,b.2.1,b.2.2.1,b.2.2.2,b_2.2.1))) fun(b:A3_×A3_×A3_×List A2_×A0_)=>obind (w_x ((b.2.2.1.1,b.2.2.1.2.1,b.2.2.1.2.2.1,b.2.2.1.2.2.2.1,b.2.2.2.2,
 b.2.2.1.2.2.2.2.2),b.1.2.2.2.2.1)) fun b_3=>cnd (decide ((List.length b.2.2.2.1+List.length b_3)*(104:Nat)≤(140737488355328:Nat))) (some
 (b.2.2.2.1++b_3,b.2.2.1.1,b.2.2.1.2.1,b.2.2.1.2.2.1,b.2.2.1.2.2.2.1,b.2.2.2.2,b.2.2.1.2.2.2.2.2)) none))
theorem q_as:∀w_i w_bY w_bV w_z w_x N x,u_as.F L0 P0 (orcOf [u_i.con w_i,u_bY.con w_bY,u_bV.con w_bV,u_z.con w_z,u_x.con w_x]) N x=V_as w_i w_bY w_bV w_z w_x N x:=by intros;kernel_rfl
def W_as (N:Nat):=V_as (W_i N) (W_bY N) (W_bV N) (W_z N) (W_x N) N
theorem con_as_ok (N:Nat):(u_as.con (W_as N)).ok P0:=Uf.ok mixed (q_as (W_i N) (W_bY N) (W_bV N) (W_z N) (W_x N) N) ⟨con_i_ok N,con_bY_ok N,con_bV_ok N,con_z_ok N,con_x_ok N,trivial⟩ Tryz.func21 (by kernel_rfl) fun x y=>by kernel_rfl
def u_b7:Uf:=⟨5,161,Tryz.f5,[.val (.list (.int .u8)),.val (.list (.int .u8)),.val (.list (.int .u8)),.val (.int .u8)],[],
⟨[(8,.val .bool)],[]⟩,[],
[(13,.unroll 4)],
[(1000003,.reg [(8,[],⟨[(35,.val .bool)],[]⟩)]),
(1000025,.reg [(12,[14],⟨[(10,.ptr 600010 0),(21,.ptr 600021 0),(24,.ptr 600024 0),(154,.val .bool)],[(600010,.box 39 (.val T2_)),(600021,.box 39 (.val T2_)),(600024,.box 39 (.val T2_))]⟩)]),
(17,.cut [14] [(.normal,⟨[(10,.ptr 600010 0)],[(600010,.box 39 (.val T2_))]⟩),(.exit 1,⟨[(10,.ptr 600010 0)],[(600010,.box 39 (.val T2_))]⟩)]),
(14,.cut [14] [(.normal,⟨[(10,.ptr 600010 0)],[(600010,.box 39 (.val T2_))]⟩),(.ret,⟨[(8,.val .bool)],[]⟩)]),
(11,.cut [12] [(.normal,⟨[(10,.ptr 600010 0),(13,.val (.list (.int .u8)))],[(600010,.box 39 (.val T2_))]⟩)])],fun y=>(valW .bool y,[],[])⟩
def V_b7 (w_bl:Unit→Option (Bool)) (w_aZ:List Int×Int→Option A3_) (w_5:List Int→Option (List Int×Int)) (w_I:Int×List Int×Int→Option ((List Int×Int)×M_)) (w_G:M_→Option (List Int)) (w_7:List Int→Option (Bool×M_)) (w_s:A3_×List Int→Option (List (M_)×A3_)) (w_D:A3_×A3_→Option (Bool)) (w_ar:A3_→Option A3_) (w_as:A3_→Option (List (M_)×A3_)) (N:Nat) (x:List Int×List Int×List Int×Int):Option (Bool):=
 obind (w_bl ()) fun b=>cnd (!b) (some false) (obind (cnd (decide ((150:Int)<(↑(List.length x.1):Int))) (some true) (some (decide
 ((15:Int)<(↑(List.length x.2.1):Int))))) fun(b:Bool)=>cnd b (some true) (cnd (decide ((60:Int)<(↑(List.length x.2.2.1):Int))) (some
 true) (obind (w_aZ (x.1,wr .i64 ((1:Int)+wr .i64 (Int.tmod x.2.2.2 (8:Int))))) fun b=>obind (w_5 x.2.1) fun b_1=>obind
 (w_I (wr .i64 ((1:Int)+Int.tmod (wr .i64 ((1:Int)+wr .i64 (Int.tmod x.2.2.2 (8:Int)))) (8:Int)),b_1)) fun b_2=>obind
 (w_G b_2.2) fun b_3=>obind (w_5 x.2.1) fun b_4=>obind (w_I (wr .i64 ((1:Int)+wr .i64 (Int.tmod x.2.2.2 (8:Int))),
 b_4)) fun b_5=>obind (w_G b_5.2) fun b_6=>cnd (decide (List.length b_6*(1:Nat)≤(140737488355328:Nat))) (obind (cnd (!decide
 ((↑(List.length b_6):Int)=(0:Int))) (cnd (decide ((0:Int)≤wr .i64 (wr .i64 ((↑(List.length b_6):Int)-(1:Int))-Int.tmod (↑(List.length
 x.2.2.1):Int) (↑(List.length b_6):Int)))&&decide (wr .i64 (wr .i64 ((↑(List.length b_6):Int)-(1:Int))-Int.tmod (↑(List.length x.2.2.1):
 Int) (↑(List.length b_6):Int))<(↑(List.length b_6):Int))) (cnd (decide ((0:Int)≤wr .i64 (wr .i64 ((↑(List.length b_6):Int)-(1:Int)) -
 Int.tmod (↑(List.length x.2.2.1):Int) (↑(List.length b_6):Int)))&&decide (wr .i64 (wr .i64 ((↑(List.length b_6):Int)-(1:Int))-Int.tmod
 (↑(List.length x.2.2.1):Int) (↑(List.length b_6):Int))<(↑(List.length b_6):Int))) (some (putL b_6 [wr .u8 (↑(BitVec.toNat (BitVec.ofInt
 (8:Nat) (List.getD b_6 (Int.toNat (wr .i64 (wr .i64 ((↑(List.length b_6):Int)-(1:Int))-Int.tmod (↑(List.length x.2.2.1):Int) (↑(List.length
 b_6):Int)))) (0:Int)) ^^^ BitVec.ofInt (8:Nat) (wr .u8 ((1:Int)+wr .u8 (↑(List.length x.2.2.1):Int))))):Int)] (Int.toNat (wr .i64 (wr .i64
 ((↑(List.length b_6):Int)-(1:Int))-Int.tmod (↑(List.length x.2.2.1):Int) (↑(List.length b_6):Int)))),b)) none) none) none) fun(b:List Int×A3_)=>obind (obind (w_7
 x.2.2.1) fun b_7=>obind (cnd b_7.1 (cnd (decide (b_7.2.2.2.1=wr .i64 ((1:Int)+wr .i64 (Int.tmod x.2.2.2 (8:Int))))) (some (Sum.inr b.2)) (some
 (Sum.inl b.2))) (some (Sum.inl b.2))) fun(b:Bool×Int×List UInt8×A1_×A0_×Int⊕Bool×Int×List UInt8×A1_×A0_×Int)=>selim (fun(b:A3_)=>obind (w_s (b,x.2.2.1)) fun b_8=>
 cnd (decide ((↑(List.length b_8.1):Int)≠(0:Int))) (some (Sum.inr false)) (obind (w_D (b_8.2,b.1,b.2.1,b.2.2.1,b.2.2.2.1,
 b.2.2.2.2.1,wr .i64 (b.2.2.2.2.2+(1:Int)))) fun b_9=>cnd (!b_9) (some (Sum.inr false)) (obind (w_ar b) fun b_10=>obind
 (w_s (b_10,x.2.2.1)) fun b_11=>obind (w_as b_10) fun b_12=>obind (cnd (decide (wr .i64 ((↑(List.length b_11.1):Int) +
 (↑(List.length b_12.1):Int))≠(0:Int))) (some (true,b,b_10,b_12.2)) (obind (w_D (b_11.2,b_10)) fun b_13=>some (!b_13,b,
 b_10,b_12.2))) fun(b:Bool×A3_×A3_×A3_)=>cnd b.1 (some (Sum.inr false)) (obind (w_D (b.2.2.2,
 b.2.2.1)) fun b_13=>cnd (!b_13) (some (Sum.inr false)) (some (Sum.inl b.2.1)))))) (fun(c:A3_)=>some (Sum.inl c)) b) fun(b_7:Bool×Int×List UInt8×A1_×A0_×Int⊕Bool)=>selim (fun(b_8:A3_)=>obind (obind (w_7 b_3) fun b=>obind (cnd b.1 (cnd (decide (b.2.2.2.1=wr .i64 ((1:Int) +
 wr .i64 (Int.tmod x.2.2.2 (8:Int))))) (some (Sum.inr b_8)) (some (Sum.inl b_8))) (some (Sum.inl b_8))) fun(b:Bool×Int×List UInt8×A1_×A0_×Int⊕Bool×Int×List UInt8×A1_×A0_×Int)=>selim (fun(b:A3_)=>obind (w_s (b,b_3)) fun b_9=>cnd (decide ((↑(List.length b_9.1):Int)≠(0:Int))) (some (Sum.inr false)) (obind
 (w_D (b_9.2,b.1,b.2.1,b.2.2.1,b.2.2.2.1,b.2.2.2.2.1,wr .i64 (b.2.2.2.2.2+(1:Int)))) fun b_10=>cnd (!b_10) (some (Sum.inr
 false)) (obind (w_ar b) fun b_11=>obind (w_s (b_11,b_3)) fun b_12=>obind (w_as b_11) fun b_13=>obind (cnd
 (decide (wr .i64 ((↑(List.length b_12.1):Int)+(↑(List.length b_13.1):Int))≠(0:Int))) (some (true,b,b_11,b_13.2)) (obind (w_D (b_12.2,b_11)) fun b_14=>some (!b_14,b,b_11,b_13.2))) fun(b:Bool×A3_×A3_×A3_)=>cnd b.1 (some (Sum.inr
 false)) (obind (w_D (b.2.2.2,b.2.2.1)) fun b_14=>cnd (!b_14) (some (Sum.inr false)) (some (Sum.inl b.2.1)))))) (fun(c:A3_)=>some (Sum.inl c)) b) fun(b_9:Bool×Int×List UInt8×A1_×A0_×Int⊕Bool)=>selim (fun(b_10:A3_)=>obind (obind (w_7 b.1) fun b_11=>obind
 (cnd b_11.1 (cnd (decide (b_11.2.2.2.1=wr .i64 ((1:Int)+wr .i64 (Int.tmod x.2.2.2 (8:Int))))) (some (Sum.inr b_10)) (some (Sum.inl b_10))) (some
 (Sum.inl b_10))) fun(b_12:Bool×Int×List UInt8×A1_×A0_×Int⊕Bool×Int×List UInt8×A1_×A0_×Int)=>selim (fun(b_13:A3_)=>obind (w_s (b_13,b.1)) fun b_14=>cnd (decide
 ((↑(List.length b_14.1):Int)≠(0:Int))) (some (Sum.inr false)) (obind (w_D (b_14.2,b_13.1,b_13.2.1,b_13.2.2.1,b_13.2.2.2.1,
 b_13.2.2.2.2.1,wr .i64 (b_13.2.2.2.2.2+(1:Int)))) fun b_15=>cnd (!b_15) (some (Sum.inr false)) (obind (w_ar b_13) fun b_16=>obind
 (w_s (b_16,b.1)) fun b=>obind (w_as b_16) fun b_17=>obind (cnd (decide (wr .i64 ((↑(List.length b.1):Int) +
 (↑(List.length b_17.1):Int))≠(0:Int))) (some (true,b_13,b_16,b_17.2)) (obind (w_D (b.2,b_16)) fun b=>some (!b,b_13,b_16,
 b_17.2))) fun(b:Bool×A3_×A3_×A3_)=>cnd b.1 (some (Sum.inr false)) (obind (w_D (b.2.2.2,b.2.2.1)) fun
 b_18=>cnd (!b_18) (some (Sum.inr false)) (some (Sum.inl b.2.1)))))) (fun(c:A3_)=>some (Sum.inl c)) b_12) fun(b:Bool×Int×List UInt8×A1_×A0_×Int⊕Bool)=>selim (fun(b:A3_)=>some true) (fun(c:Bool)=>some c) b) (fun(c:Bool)=>some c) b_9) (fun(c:Bool)=>some c) b_7) none)))
theorem q_b7:∀w_bl w_aZ w_5 w_I w_G w_7 w_s w_D w_ar w_as N x,u_b7.F L0 P0 (orcOf [u_bl.con w_bl,u_aZ.con w_aZ,u_5.con w_5,u_I.con w_I,u_G.con w_G,u_7.con w_7,u_s.con w_s,u_D.con w_D,u_ar.con w_ar,u_as.con w_as]) N x=V_b7 w_bl w_aZ w_5 w_I w_G w_7 w_s w_D w_ar w_as N x:=by intros;kernel_rfl
def W_b7 (N:Nat):=V_b7 (W_bl N) (W_aZ N) (W_5 N) (W_I N) (W_G N) (W_7 N) (W_s N) (W_D N) (W_ar N) (W_as N) N
theorem con_b7_ok (N:Nat):(u_b7.con (W_b7 N)).ok P0:=Uf.ok mixed (q_b7 (W_bl N) (W_aZ N) (W_5 N) (W_I N) (W_G N) (W_7 N) (W_s N) (W_D N) (W_ar N) (W_as N) N) ⟨con_bl_ok N,con_aZ_ok N,con_5_ok N,con_I_ok N,con_G_ok N,con_7_ok N,con_s_ok N,con_D_ok N,con_ar_ok N,con_as_ok N,trivial⟩ Tryz.func5 (by kernel_rfl) fun x y=>by kernel_rfl
end
end Go.Proofs.YtgpgmncgbebgdaaGreat.nodeDeafX
