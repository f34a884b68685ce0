/- NodeServes: for all arguments the call returns true. The law is brought to a function of Lean's own (W_..) by the machine of the texts beside it, and that is reckoned; no condition. -/
import Derived.Test.YtgpgmncgbebgdaaGreatNodeServesW0
namespace Go.Proofs.YtgpgmncgbebgdaaGreat.nodeServesX
open Go.Abs Go.RowKit Go.ChangeShapes Go.WideShapes Go.ChangeAt
set_option maxRecDepth 100000
set_option linter.unusedVariables false
set_option linter.unusedSimpArgs false
noncomputable section
def u_aS:Uf:=⟨34,78,Tryz.f34,[.ptr 0 0,.val (.int .i64)],[.box 72 T7_],
⟨[(0,.ptr 1000000 0),(4,.ptr 600004 0)],[(1000000,.box 72 (.val T7_)),(600004,.box 37 (.val T1_))]⟩,[true],
[(4,.loop [] ⟨[(0,.ptr 1000000 0),(4,.ptr 600004 0),(5,.ptr 600005 0),(6,.val (.int .i64)),(7,.val (.int .i64))],[(1000000,.box 72 (.val T7_)),(600004,.box 37 (.val T1_)),(600005,.box 37 (.val T1_))]⟩ [(.exit 0,⟨[(0,.ptr 1000000 0),(4,.ptr 600004 0),(5,.ptr 600005 0)],[(1000000,.box 72 (.val T7_)),(600004,.box 37 (.val T1_)),(600005,.box 37 (.val T1_))]⟩)])],
[],fun y=>(valW (.agg T1_) y.2,[.box 72 (cellsW T7_ y.1)],[])⟩
def V_aS (w_a:Int×List Int×Int→Option (Int×List Int×Int)) (w_ar:A0_×Int→Option A0_) (w_W:List Int×Int→Option (Bool×List Int×Int)) (w_as:A0_×Int×Int→Option A0_) (w_l:A0_×Int→Option A0_) (w_av:A0_×Int→Option (Bool×A0_×Int×Int)) (w_w:List Int×Int→Option (List UInt8×List Int×Int)) (w_aq:A0_×Int×List UInt8→Option A0_) (N:Nat) (x:Int×List Int×Int):Option ((List Int×Int)×A0_):=
 obind (w_a ((5:Int),x.2)) fun b=>obind (w_ar (((0:Int),(0:Int),[],[],[],(0:Int),(0:Int)),wr .i64 ((1:Int)+b.1))) fun
 b_1=>obind (loopN N (fun(v:Int×Int×(List Int×Int)×A0_×A0_)=>cnd (decide (v.2.1<x.1)) (obind (w_W v.2.2.1) fun b=>cnd (!b.1) (obind (w_a ((6:Int),b.2)) fun b=>cnd
 (decide (b.1=(0:Int))) (obind (w_a ((3:Int),b.2)) fun b=>obind (w_a ((4:Int),b.2)) fun b_2=>obind (w_as
 (v.2.2.2.2,max (1:Int) (wr .i64 (wr .i64 (v.2.2.2.2.1-(1:Int))+b.1)),wr .i64 (max (1:Int) (wr .i64 (wr .i64 (v.2.2.2.2.1-(1:Int))+b.1)) +
 b_2.1))) fun b=>some (Sum.inl (v.1,wr .i64 (v.2.1+(1:Int)),b_2.2,v.2.2.2.1,b))) (cnd (decide (b.1=(1:Int))) (obind (w_a
 ((5:Int),b.2)) fun b=>obind (w_l (v.2.2.2.2,wr .i64 (v.2.2.2.2.1+b.1))) fun b_2=>some (Sum.inl (v.1,wr .i64 (v.2.1+(1:Int)),
 b.2,v.2.2.2.1,b_2))) (cnd (decide (b.1=(2:Int))) (obind (w_a ((6:Int),b.2)) fun b=>obind (w_av (v.2.2.2.2,wr .i64 (wr
 .i64 (v.1+(1:Int))+b.1))) fun b_2=>some (Sum.inl (wr .i64 (wr .i64 (v.1+(1:Int))+b.1),wr .i64 (v.2.1+(1:Int)),b.2,v.2.2.2.1,
 b_2.2.1))) (obind (w_a ((5:Int),b.2)) fun b=>obind (w_w b.2) fun b_2=>obind (w_aq (v.2.2.2.2,max (1:Int) (wr
 .i64 (wr .i64 (v.2.2.2.2.1-(1:Int))+b.1)),b_2.1)) fun b=>some (Sum.inl (v.1,wr .i64 (v.2.1+(1:Int)),b_2.2,v.2.2.2.1,b)))))) (some
 (Sum.inr (b.2,v.2.2.2)))) (some (Sum.inr v.2.2))) ((0:Int),(0:Int),b.2,((0:Int),(0:Int),[],[],[],(0:Int),(0:Int)),b_1)) fun(b:(List Int×Int)×A0_×A0_)=>some (b.1,b.2.2)
theorem q_aS:∀w_a w_ar w_W w_as w_l w_av w_w w_aq N x,u_aS.F L0 P0 (orcOf [u_a.con w_a,u_ar.con w_ar,u_W.con w_W,u_as.con w_as,u_l.con w_l,u_av.con w_av,u_w.con w_w,u_aq.con w_aq]) N x=V_aS w_a w_ar w_W w_as w_l w_av w_w w_aq N x:=by intros;kernel_rfl
def W_aS (N:Nat):=V_aS (W_a N) (W_ar N) (W_W N) (W_as N) (W_l N) (W_av N) (W_w N) (W_aq N) N
theorem con_aS_ok (N:Nat):(u_aS.con (W_aS N)).ok P0:=Uf.ok mixed (q_aS (W_a N) (W_ar N) (W_W N) (W_as N) (W_l N) (W_av N) (W_w N) (W_aq N) N) ⟨con_a_ok N,con_ar_ok N,con_W_ok N,con_as_ok N,con_l_ok N,con_av_ok N,con_w_ok N,con_aq_ok N,trivial⟩ Tryz.func34 (by kernel_rfl) fun x y=>by kernel_rfl
def u_aQ:Uf:=⟨15,41,Tryz.f15,[.val (.list (.int .u8)),.val (.int .i64)],[],
⟨[(4,.ptr 600004 0)],[(600004,.box 39 (.val T2_))]⟩,[],
[],
[],fun y=>(valW (.agg T2_) y,[],[])⟩
def V_aQ (w_bq:List Int→Option (List Int×Int)) (w_a:Int×List Int×Int→Option (Int×List Int×Int)) (w_aL:A3_×Int×List UInt8×Int→Option (Bool×A3_)) (w_aV:Int×Int×List Int×Int→Option ((List Int×Int)×A1_)) (w_aS:Int×List Int×Int→Option ((List Int×Int)×A0_)) (N:Nat) (x:List Int×Int):Option A3_:=
 obind (w_bq x.1) fun b=>obind (w_a ((3:Int),b)) fun b=>obind (w_a ((3:Int),b.2)) fun b_1=>obind (w_a
 ((9:Int),b_1.2)) fun b_2=>obind (w_aL ((false,b.1,[],((0:Int),(0:Int),(0:Int),(0:Int),(0:Int),(0:Int),[],(0:Int),(0:Int),
 (0:Int),(0:Int),(0:Int),[]),((0:Int),(0:Int),[],[],[],(0:Int),(0:Int)),b_1.1),x.2,[(110:UInt8)],b_2.1)) fun b=>obind (w_aV (x.2,(20:Int),b_2.2)) fun b_3=>cnd (decide (x.2≠(1:Int))) (obind (w_aS ((12:Int),b_3.1)) fun b_4=>obind (w_a
 ((5:Int),b_4.1)) fun b_5=>cnd (decide (b_5.1=(0:Int))) (some (b.2.1,b.2.2.1,b.2.2.2.1,(b_3.2.1,b.2.2.1,b_3.2.2.2),((0:Int),(0:Int),[],
 [],[],(0:Int),(0:Int)),b.2.2.2.2.2.2)) (some (b.2.1,b.2.2.1,b.2.2.2.1,(b_3.2.1,b.2.2.1,b_3.2.2.2),b_4.2,b.2.2.2.2.2.2))) (some (b.2.1,
 b.2.2.1,b.2.2.2.1,(b_3.2.1,b.2.2.1,b_3.2.2.2),b.2.2.2.2.2))
theorem q_aQ:∀w_bq w_a w_aL w_aV w_aS N x,u_aQ.F L0 P0 (orcOf [u_bq.con w_bq,u_a.con w_a,u_aL.con w_aL,u_aV.con w_aV,u_aS.con w_aS]) N x=V_aQ w_bq w_a w_aL w_aV w_aS N x:=by intros;kernel_rfl
def W_aQ (N:Nat):=V_aQ (W_bq N) (W_a N) (W_aL N) (W_aV N) (W_aS N) N
theorem con_aQ_ok (N:Nat):(u_aQ.con (W_aQ N)).ok P0:=Uf.ok mixed (q_aQ (W_bq N) (W_a N) (W_aL N) (W_aV N) (W_aS N) N) ⟨con_bq_ok N,con_a_ok N,con_aL_ok N,con_aV_ok N,con_aS_ok N,trivial⟩ Tryz.func15 (by kernel_rfl) fun x y=>by kernel_rfl
def u_ai:Uf:=⟨89,9,Tryz.f89,[.val (.int .i64)],[],
⟨[(2,.val .bool)],[]⟩,[],
[],
[],fun y=>(valW .bool y,[],[])⟩
def V_ai (N:Nat) (x:Int):Option (Bool):=
 cnd (decide ((0:Int)≤x)) (some (decide (x≤(1000000:Int)))) (some false)
theorem q_ai:∀N x,u_ai.F L0 P0 (orcOf []) N x=V_ai N x:=by intros;kernel_rfl
def W_ai (N:Nat):=V_ai N
theorem con_ai_ok (N:Nat):(u_ai.con (W_ai N)).ok P0:=Uf.ok mixed (q_ai N) trivial Tryz.func89 (by kernel_rfl) fun x y=>by kernel_rfl
def u_u:Uf:=⟨56,26,Tryz.f56,[.val (.list (.int .i64)),.val (.list (.int .i64))],[],
⟨[(4,.val .bool)],[]⟩,[],
[(4,.loop [] ⟨[(5,.val (.int .i64))],[]⟩ [(.exit 0,⟨[],[]⟩),(.ret,⟨[(4,.val .bool)],[]⟩)])],
[],fun y=>(valW .bool y,[],[])⟩
def V_u (N:Nat) (x:List Int×List Int):Option (Bool):=
 cnd (decide ((↑(List.length x.1):Int)≠(↑(List.length x.2):Int))) (some false) (obind (loopN N (fun(v:Int)=>cnd (decide (v<(↑(List.length
 x.1):Int))) (cnd (decide ((0:Int)≤v)&&decide (v<(↑(List.length x.1):Int))) (cnd (decide ((0:Int)≤v)&&decide (v<(↑(List.length x.2):
 Int))) (cnd (decide (List.getD x.1 (Int.toNat v) (0:Int)≠List.getD x.2 (Int.toNat v) (0:Int))) (some (Sum.inr (Sum.inr false))) (some (Sum.inl (wr
 .i64 (v+(1:Int)))))) none) none) (some (Sum.inr (Sum.inl ())))) (Int.ofNat (0:Nat))) fun(b:PUnit⊕Bool)=>selim (fun(b:PUnit)=>some
 true) (fun(c:Bool)=>some c) b)
theorem q_u:∀N x,u_u.F L0 P0 (orcOf []) N x=V_u N x:=by intros;kernel_rfl
def W_u (N:Nat):=V_u N
theorem con_u_ok (N:Nat):(u_u.con (W_u N)).ok P0:=Uf.ok mixed (q_u N) trivial Tryz.func56 (by kernel_rfl) fun x y=>by kernel_rfl
def u_ae:Uf:=⟨91,73,Tryz.f91,[.val (.agg T_),.val (.agg T_)],[],
⟨[(4,.val .bool)],[]⟩,[],
[],
[(1000001,.reg [(12,[],⟨[(2,.ptr 600002 0),(3,.ptr 600003 0),(16,.val .bool)],[(600002,.box 46 (.val T_)),(600003,.box 46 (.val T_))]⟩),(7,[],⟨[(2,.ptr 600002 0),(3,.ptr 600003 0),(23,.val .bool)],[(600002,.box 46 (.val T_)),(600003,.box 46 (.val T_))]⟩),(7,[],⟨[(2,.ptr 600002 0),(3,.ptr 600003 0),(30,.val .bool)],[(600002,.box 46 (.val T_)),(600003,.box 46 (.val T_))]⟩),(7,[],⟨[(2,.ptr 600002 0),(3,.ptr 600003 0),(37,.val .bool)],[(600002,.box 46 (.val T_)),(600003,.box 46 (.val T_))]⟩),(7,[],⟨[(2,.ptr 600002 0),(3,.ptr 600003 0),(44,.val .bool)],[(600002,.box 46 (.val T_)),(600003,.box 46 (.val T_))]⟩),(7,[],⟨[(2,.ptr 600002 0),(3,.ptr 600003 0),(51,.val .bool)],[(600002,.box 46 (.val T_)),(600003,.box 46 (.val T_))]⟩),(7,[],⟨[(2,.ptr 600002 0),(3,.ptr 600003 0),(58,.val .bool)],[(600002,.box 46 (.val T_)),(600003,.box 46 (.val T_))]⟩),(7,[],⟨[(2,.ptr 600002 0),(3,.ptr 600003 0),(65,.val .bool)],[(600002,.box 46 (.val T_)),(600003,.box 46 (.val T_))]⟩)])],fun y=>(valW .bool y,[],[])⟩
def V_ae (w_u:List Int×List Int→Option (Bool)) (N:Nat) (x:(M_)×M_):Option (Bool):=
 obind (cnd (decide (x.1.1=x.2.1)) (some (decide (x.1.2.1=x.2.2.1),x)) (some (false,x))) fun(b:Bool×A2_×A2_)=>obind (cnd b.1 (some (decide
 (b.2.1.2.2.1=b.2.2.2.2.1),b.2)) (some (false,b.2))) fun(b:Bool×A2_×A2_)=>obind (cnd b.1 (some (decide (b.2.1.2.2.2.1=b.2.2.2.2.2.1),b.2)) (some
 (false,b.2))) fun(b:Bool×A2_×A2_)=>obind (cnd b.1 (some (decide (b.2.1.2.2.2.2.1=b.2.2.2.2.2.2.1),b.2)) (some (false,b.2))) fun(b:Bool×A2_×A2_)=>obind
 (cnd b.1 (some (decide (b.2.1.2.2.2.2.2.1=b.2.2.2.2.2.2.2.1),b.2)) (some (false,b.2))) fun(b:Bool×A2_×A2_)=>obind (cnd b.1 (some (decide
 (b.2.1.2.2.2.2.2.2.2.1=b.2.2.2.2.2.2.2.2.2.1),b.2)) (some (false,b.2))) fun(b:Bool×A2_×A2_)=>obind (cnd b.1 (some (decide (b.2.1.2.2.2.2.2.2.2.2.1
 = b.2.2.2.2.2.2.2.2.2.2.1),b.2)) (some (false,b.2))) fun(b:Bool×A2_×A2_)=>obind (cnd b.1 (some (b.2.1.2.2.2.2.2.2.2.2.2==b.2.2.2.2.2.2.2.2.2.2.2,
 b.2)) (some (false,b.2))) fun(b:Bool×A2_×A2_)=>cnd b.1 (obind (w_u (b.2.1.2.2.2.2.2.2.1,b.2.2.2.2.2.2.2.2.1)) fun b=>some b) (some
 false)
theorem q_ae:∀w_u N x,u_ae.F L0 P0 (orcOf [u_u.con w_u]) N x=V_ae w_u N x:=by intros;kernel_rfl
def W_ae (N:Nat):=V_ae (W_u N) N
theorem con_ae_ok (N:Nat):(u_ae.con (W_ae N)).ok P0:=Uf.ok mixed (q_ae (W_u N) N) ⟨con_u_ok N,trivial⟩ Tryz.func91 (by kernel_rfl) fun x y=>by kernel_rfl
def u_9:Uf:=⟨42,160,Tryz.f42,[.val (.agg T_)],[],
⟨[(2,.val .bool)],[]⟩,[],
[],
[(1000001,.reg [(8,[],⟨[(1,.ptr 600001 0),(12,.val .bool)],[(600001,.box 46 (.val T_))]⟩),(5,[],⟨[(1,.ptr 600001 0),(17,.val .bool)],[(600001,.box 46 (.val T_))]⟩),(5,[],⟨[(1,.ptr 600001 0),(22,.val .bool)],[(600001,.box 46 (.val T_))]⟩),(5,[],⟨[(1,.ptr 600001 0),(27,.val .bool)],[(600001,.box 46 (.val T_))]⟩),(5,[],⟨[(1,.ptr 600001 0),(32,.val .bool)],[(600001,.box 46 (.val T_))]⟩),(7,[],⟨[(1,.ptr 600001 0),(39,.val .bool)],[(600001,.box 46 (.val T_))]⟩),(5,[],⟨[(1,.ptr 600001 0),(44,.val .bool)],[(600001,.box 46 (.val T_))]⟩)]),
(1000009,.reg [(8,[],⟨[(1,.ptr 600001 0),(3,.ptr 600003 0),(80,.val .bool)],[(600001,.box 46 (.val T_)),(600003,.box 46 (.val T_))]⟩),(5,[],⟨[(1,.ptr 600001 0),(3,.ptr 600003 0),(85,.val .bool)],[(600001,.box 46 (.val T_)),(600003,.box 46 (.val T_))]⟩),(5,[],⟨[(1,.ptr 600001 0),(3,.ptr 600003 0),(90,.val .bool)],[(600001,.box 46 (.val T_)),(600003,.box 46 (.val T_))]⟩)]),
(1000017,.reg [(8,[],⟨[(1,.ptr 600001 0),(3,.ptr 600003 0),(132,.val .bool)],[(600001,.box 46 (.val T_)),(600003,.box 46 (.val T_))]⟩)]),
(20,.cut [] [(.normal,⟨[(1,.ptr 600001 0),(3,.ptr 600003 0),(139,.val .bool)],[(600001,.box 46 (.val T_)),(600003,.box 46 (.val T_))]⟩)]),
(8,.cut [] [(.normal,⟨[(1,.ptr 600001 0),(3,.ptr 600003 0),(61,.val .bool)],[(600001,.box 46 (.val T_)),(600003,.box 46 (.val T_))]⟩)]),
(22,.cut [] [(.normal,⟨[(1,.ptr 600001 0),(3,.ptr 600003 0),(4,.val .bool)],[(600001,.box 46 (.val T_)),(600003,.box 46 (.val T_))]⟩)])],fun y=>(valW .bool y,[],[])⟩
def V_9 (w_H:List Int→Option (Bool)) (w_ai:Int→Option (Bool)) (w_v:Int×Int→Option (Bool)) (w_ae:(M_)×M_→Option (Bool)) (N:Nat) (x:M_):Option (Bool):=
 obind (cnd (decide (x.1<(1:Int))) (some (true,x)) (some (decide ((9:Int)<x.1),x))) fun(b:Bool×A2_)=>obind (cnd b.1 (some (true,b.2)) (some (decide (b.2.2.1<(1:Int)),b.2))) fun(b:Bool×A2_)=>obind (cnd b.1 (some (true,b.2)) (some (decide ((8:Int)<b.2.2.1),b.2))) fun(b:Bool×A2_)=>obind (cnd b.1 (some (true,b.2)) (some (decide (b.2.2.2.1<(1:Int)),b.2))) fun(b
 : Bool×A2_)=>obind (cnd b.1 (some (true,b.2)) (some (decide ((8:Int) <
 b.2.2.2.1),b.2))) fun(b:Bool×A2_)=>obind (cnd b.1 (some (true,b.2)) (some
 (decide (b.2.2.1=b.2.2.2.1),b.2))) fun(b:Bool×A2_)=>obind (cnd b.1 (some
 (true,b.2)) (some (decide (b.2.2.2.2.1<(1:Int)),b.2))) fun(b:Bool×A2_)=>
 cnd b.1 (some false) (cnd (decide ((1073741824:Int)<b.2.2.2.2.1)) (some false) (obind (obind (cnd (decide (b.2.1=(2:Int))) (some (decide (b.2.1
 = (2:Int)),b.2,b.2.1,b.2.2.1,b.2.2.2.1,b.2.2.2.2.1,(0:Int),(0:Int),[],(0:Int),(0:Int),[])) (some (decide (b.2.1=(5:Int)),b.2,b.2.1,
 b.2.2.1,b.2.2.2.1,b.2.2.2.2.1,(0:Int),(0:Int),[],(0:Int),(0:Int),[]))) fun(b_1:Bool×A2_×A2_)=>cnd b_1.1 (obind (cnd (decide ((0:Int) ≤
 b_1.2.1.2.2.2.2.1)) (some (decide (b_1.2.1.2.2.2.2.1≤(1073741824:Int)),b_1.2.1,b_1.2.2.1,b_1.2.2.2.1,b_1.2.2.2.2.1,b_1.2.2.2.2.2.1,
 b_1.2.1.2.2.2.2.1,b_1.2.1.2.2.2.2.2.1,b_1.2.1.2.2.2.2.2.2.1,b_1.2.2.2.2.2.2.2.2.2)) (some (false,b_1.2.1,b_1.2.2.1,b_1.2.2.2.1,b_1.2.2.2.2.1,
 b_1.2.2.2.2.2.1,b_1.2.1.2.2.2.2.1,b_1.2.1.2.2.2.2.2.1,b_1.2.1.2.2.2.2.2.2.1,b_1.2.2.2.2.2.2.2.2.2))) fun(b:Bool×A2_×A2_)=>obind (cnd b.1 (some
 (decide ((0:Int)≤b.2.1.2.2.2.2.2.1),b.2)) (some (false,b.2))) fun(b:Bool×A2_×A2_)=>obind (cnd b.1 (some (decide (b.2.1.2.2.2.2.2.1 ≤
 (1073741824:Int)),b.2)) (some (false,b.2))) fun(b:Bool×A2_×A2_)=>cnd b.1 (obind (w_H b.2.1.2.2.2.2.2.2.1) fun b_2=>cnd (decide (b.2.1.1
 = (2:Int))) (cnd b_2 (obind (w_ai b.2.1.2.2.2.2.2.2.2.1) fun b_3=>some (b_3,b.2.1,b.2.2.1,b.2.2.2.1,b.2.2.2.2.1,b.2.2.2.2.2.1,
 b.2.2.2.2.2.2.1,b.2.2.2.2.2.2.2.1,b.2.2.2.2.2.2.2.2.1,b.2.1.2.2.2.2.2.2.2.1,b.2.2.2.2.2.2.2.2.2.2)) (some (false,b.2.1,b.2.2.1,b.2.2.2.1,
 b.2.2.2.2.1,b.2.2.2.2.2.1,b.2.2.2.2.2.2.1,b.2.2.2.2.2.2.2.1,b.2.2.2.2.2.2.2.2.1,b.2.1.2.2.2.2.2.2.2.1,b.2.2.2.2.2.2.2.2.2.2))) (cnd b_2 (obind
 (w_ai b.2.1.2.2.2.2.2.2.2.2.1) fun b_3=>some (b_3,b.2.1,b.2.2.1,b.2.2.2.1,b.2.2.2.2.1,b.2.2.2.2.2.1,b.2.2.2.2.2.2.1,
 b.2.2.2.2.2.2.2.1,b.2.2.2.2.2.2.2.2.1,b.2.2.2.2.2.2.2.2.2.1,b.2.1.2.2.2.2.2.2.2.2.1,b.2.2.2.2.2.2.2.2.2.2.2)) (some (false,b.2.1,b.2.2.1,
 b.2.2.2.1,b.2.2.2.2.1,b.2.2.2.2.2.1,b.2.2.2.2.2.2.1,b.2.2.2.2.2.2.2.1,b.2.2.2.2.2.2.2.2.1,b.2.2.2.2.2.2.2.2.2.1,b.2.1.2.2.2.2.2.2.2.2.1,
 b.2.2.2.2.2.2.2.2.2.2.2)))) (cnd (decide (b.2.1.1=(2:Int))) (some (false,b.2.1,b.2.2.1,b.2.2.2.1,b.2.2.2.2.1,b.2.2.2.2.2.1,b.2.2.2.2.2.2.1,
 b.2.2.2.2.2.2.2.1,b.2.2.2.2.2.2.2.2.1,b.2.1.2.2.2.2.2.2.2.1,b.2.2.2.2.2.2.2.2.2.2)) (some (false,b.2.1,b.2.2.1,b.2.2.2.1,b.2.2.2.2.1,
 b.2.2.2.2.2.1,b.2.2.2.2.2.2.1,b.2.2.2.2.2.2.2.1,b.2.2.2.2.2.2.2.2.1,b.2.2.2.2.2.2.2.2.2.1,b.2.1.2.2.2.2.2.2.2.2.1,b.2.2.2.2.2.2.2.2.2.2.2))))
 (cnd (decide (b.2.1=(7:Int))) (obind (cnd (decide ((1:Int)≤b_1.2.1.2.2.2.2.2.2.2.1)) (obind (w_ai b_1.2.1.2.2.2.2.2.2.2.1) fun b=>
 some (b,b_1.2.1,b_1.2.2.1,b_1.2.2.2.1,b_1.2.2.2.2.1,b_1.2.2.2.2.2.1,b_1.2.2.2.2.2.2.1,b_1.2.2.2.2.2.2.2.1,b_1.2.2.2.2.2.2.2.2.1,
 b_1.2.1.2.2.2.2.2.2.2.1,b_1.2.2.2.2.2.2.2.2.2.2.1,b_1.2.1.2.2.2.2.2.2.2.2.2)) (some (false,b_1.2.1,b_1.2.2.1,b_1.2.2.2.1,b_1.2.2.2.2.1,
 b_1.2.2.2.2.2.1,b_1.2.2.2.2.2.2.1,b_1.2.2.2.2.2.2.2.1,b_1.2.2.2.2.2.2.2.2.1,b_1.2.1.2.2.2.2.2.2.2.1,b_1.2.2.2.2.2.2.2.2.2.2.1,
 b_1.2.1.2.2.2.2.2.2.2.2.2))) fun(b:Bool×A2_×A2_)=>cnd b.1 (some (decide ((↑(List.length b.2.1.2.2.2.2.2.2.2.2.2):Int)≤(12:Int)),b.2)) (some (false,
 b.2))) (obind (cnd (decide (b.2.1=(8:Int))) (some (decide (b.2.1=(8:Int)),b_1.2)) (some (decide (b.2.1=(9:Int)),b_1.2))) fun(b:Bool×A2_×A2_)=>
 cnd b.1 (obind (w_v (b.2.1.2.2.2.2.2.2.2.1,b.2.1.2.2.2.2.2.2.2.2.1)) fun b_2=>some (b_2,b.2.1,b.2.2.1,b.2.2.2.1,b.2.2.2.2.1,
 b.2.2.2.2.2.1,b.2.2.2.2.2.2.1,b.2.2.2.2.2.2.2.1,b.2.2.2.2.2.2.2.2.1,b.2.1.2.2.2.2.2.2.2.1,b.2.1.2.2.2.2.2.2.2.2.1,b.2.2.2.2.2.2.2.2.2.2.2))
 (some (true,b.2))))) fun(b:Bool×A2_×A2_)=>cnd b.1 (obind (w_ae (b.2.2,b.2.1)) fun b=>some b) (some false)))
theorem q_9:∀w_H w_ai w_v w_ae N x,u_9.F L0 P0 (orcOf [u_H.con w_H,u_ai.con w_ai,u_v.con w_v,u_ae.con w_ae]) N x=V_9 w_H w_ai w_v w_ae N x:=by intros;kernel_rfl
def W_9 (N:Nat):=V_9 (W_H N) (W_ai N) (W_v N) (W_ae N) N
theorem con_9_ok (N:Nat):(u_9.con (W_9 N)).ok P0:=Uf.ok mixed (q_9 (W_H N) (W_ai N) (W_v N) (W_ae N) N) ⟨con_H_ok N,con_ai_ok N,con_v_ok N,con_ae_ok N,trivial⟩ Tryz.func42 (by kernel_rfl) fun x y=>by kernel_rfl
def u_G:Uf:=⟨43,25,Tryz.f43,[.val (.list (.int .u8)),.val (.int .i64)],[],
⟨[(4,.acc 700006)],[(700006,.nrow 5 (.int .u8) false true)]⟩,[],
[(2,.loop [] ⟨[(1,.val (.int .i64)),(5,.acc 700006)],[(700006,.nrow 5 (.int .u8) false true)]⟩ [(.exit 0,⟨[(1,.val (.int .i64)),(5,.acc 700006)],[(700006,.nrow 5 (.int .u8) false true)]⟩)])],
[],fun y=>(.acc 2000000 0,[],[.nrow 5 false true ⟨(.int .u8),y⟩])⟩
def V_G (N:Nat) (x:List Int×Int):Option (List Int):=
 cnd (decide (List.length x.1*(1:Nat)≤(140737488355328:Nat))) (obind (loopN N (fun(v:Int×List Int)=>cnd (decide ((128:Int)≤v.1)) (cnd
 (decide ((List.length v.2+List.length [wr .u8 (wr .i64 (Int.tmod v.1 (128:Int)+(128:Int)))])*(1:Nat)≤(140737488355328:Nat))) (some (Sum.inl
 (wr .i64 (Int.tdiv v.1 (128:Int)),v.2++[wr .u8 (wr .i64 (Int.tmod v.1 (128:Int)+(128:Int)))]))) none) (some (Sum.inr v))) (x.2,x.1)) fun(b:
 Int×List Int)=>cnd (decide ((List.length b.2+List.length [wr .u8 b.1])*(1:Nat)≤(140737488355328:Nat))) (some (b.2++[wr .u8 b.1])) none)
 none
theorem q_G:∀N x,u_G.F L0 P0 (orcOf []) N x=V_G N x:=by intros;kernel_rfl
def W_G (N:Nat):=V_G N
theorem con_G_ok (N:Nat):(u_G.con (W_G N)).ok P0:=Uf.ok mixed (q_G N) trivial Tryz.func43 (by kernel_rfl) fun x y=>by kernel_rfl
def u_aE:Uf:=⟨44,11,Tryz.f44,[.val (.list (.int .u8)),.val .str],[],
⟨[(4,.acc 700008)],[(700008,.nrow 5 (.int .u8) false true)]⟩,[],
[],
[],fun y=>(.acc 2000000 0,[],[.nrow 5 false true ⟨(.int .u8),y⟩])⟩
def V_aE (w_G:List Int×Int→Option (List Int)) (N:Nat) (x:List Int×List UInt8):Option (List Int):=
 obind (w_G (x.1,(↑(List.length x.2):Int))) fun b=>cnd (decide ((List.length b+List.length (List.map (fun(b:UInt8)=>(↑(UInt8.toNat b):Int)) x.2))*(1:Nat)≤(140737488355328:Nat))) (some (b++List.map (fun(b:UInt8)=>(↑(UInt8.toNat b):Int)) x.2)) none
theorem q_aE:∀w_G N x,u_aE.F L0 P0 (orcOf [u_G.con w_G]) N x=V_aE w_G N x:=by intros;kernel_rfl
def W_aE (N:Nat):=V_aE (W_G N) N
theorem con_aE_ok (N:Nat):(u_aE.con (W_aE N)).ok P0:=Uf.ok mixed (q_aE (W_G N) N) ⟨con_G_ok N,trivial⟩ Tryz.func44 (by kernel_rfl) fun x y=>by kernel_rfl
def u_aT:Uf:=⟨45,33,Tryz.f45,[.val (.list (.int .u8))],[],
⟨[(2,.val (.int .u32))],[]⟩,[],
[(7,.loop [] ⟨[(3,.val (.int .u32)),(5,.val (.int .i64))],[]⟩ [(.exit 2,⟨[(3,.val (.int .u32))],[]⟩)]),
(3,.loop [] ⟨[(3,.val (.int .u32)),(4,.val (.int .i64))],[]⟩ [(.exit 0,⟨[(3,.val (.int .u32))],[]⟩)])],
[],fun y=>(valW (.int .u32) y,[],[])⟩
def V_aT (N:Nat) (x:List Int):Option (Int):=
 obind (loopN N (fun(v:Int×Int)=>cnd (decide (v.2<(↑(List.length x):Int))) (cnd (decide ((0:Int)≤v.2)&&decide (v.2<(↑(List.length x):
 Int))) (obind (loopN N (fun(v:Int×Int)=>cnd (decide (v.2<(8:Int))) (cnd (decide (Int.tmod v.1 (2:Int)=(1:Int))) (some (Sum.inl (wr .u32
 (↑(BitVec.toNat (BitVec.ofInt (32:Nat) (wr .u32 (Int.tdiv v.1 (2:Int))) ^^^ BitVec.ofInt (32:Nat) (3988292384:Int))):Int),wr .i64 (v.2 +
 (1:Int))))) (some (Sum.inl (wr .u32 (Int.tdiv v.1 (2:Int)),wr .i64 (v.2+(1:Int)))))) (some (Sum.inr v.1))) (wr .u32 (↑(BitVec.toNat (BitVec.ofInt
 (32:Nat) v.1 ^^^ BitVec.ofInt (32:Nat) (wr .u32 (List.getD x (Int.toNat v.2) (0:Int))))):Int),(0:Int))) fun(b:Int)=>some (Sum.inl (b,wr
 .i64 (v.2+(1:Int))))) none) (some (Sum.inr v.1))) ((4294967295:Int),(0:Int))) fun(b:Int)=>some (wr .u32 (↑(BitVec.toNat (BitVec.ofInt
 (32:Nat) (IntKind.max .u32) ^^^ BitVec.ofInt (32:Nat) b)):Int))
theorem q_aT:∀N x,u_aT.F L0 P0 (orcOf []) N x=V_aT N x:=by intros;kernel_rfl
def W_aT (N:Nat):=V_aT N
theorem con_aT_ok (N:Nat):(u_aT.con (W_aT N)).ok P0:=Uf.ok mixed (q_aT N) trivial Tryz.func45 (by kernel_rfl) fun x y=>by kernel_rfl
def u_af:Uf:=⟨18,68,Tryz.f18,[.val (.agg T_)],[],
⟨[(2,.val (.list (.int .u8)))],[]⟩,[],
[(7,.loop [3] ⟨[(1,.ptr 600001 0),(4,.acc 700051),(5,.val (.int .i64))],[(600001,.box 46 (.val T_)),(700051,.nrow 5 (.int .u8) true true)]⟩ [(.exit 0,⟨[(1,.ptr 600001 0),(4,.acc 700051)],[(600001,.box 46 (.val T_)),(700051,.nrow 5 (.int .u8) true true)]⟩)])],
[(4,.cut [] [(.normal,⟨[(1,.ptr 600001 0),(3,.acc 700025)],[(600001,.box 46 (.val T_)),(700025,.nrow 3 (.int .i64) true true)]⟩)])],fun y=>(valW (.list (.int .u8)) y,[],[])⟩
def V_af (w_9:M_→Option (Bool)) (w_G:List Int×Int→Option (List Int)) (w_aE:List Int×List UInt8→Option (List Int)) (w_aT:List Int→Option (Int)) (N:Nat) (x:M_):Option (List Int):=
 obind (w_9 x) fun b=>cnd (!b) (some []) (cnd (decide ((List.length [x.1,x.2.1,x.2.2.1,x.2.2.2.1,x.2.2.2.2.1,x.2.2.2.2.2.1,
 (↑(List.length x.2.2.2.2.2.2.1):Int)]+List.length x.2.2.2.2.2.2.1)*(8:Nat)≤(140737488355328:Nat))) (cnd (decide ((List.length ([x.1,x.2.1,
 x.2.2.1,x.2.2.2.1,x.2.2.2.2.1,x.2.2.2.2.2.1,(↑(List.length x.2.2.2.2.2.2.1):Int)]++x.2.2.2.2.2.2.1)+List.length [x.2.2.2.2.2.2.2.1,
 x.2.2.2.2.2.2.2.2.1])*(8:Nat)≤(140737488355328:Nat))) (obind (loopN N (fun(v:Int×A2_×List Int)=>cnd (decide (v.1<(↑(List.length ([x.1,x.2.1,x.2.2.1,x.2.2.2.1,x.2.2.2.2.1,x.2.2.2.2.2.1,(↑(List.length
 x.2.2.2.2.2.2.1):Int)]++x.2.2.2.2.2.2.1++[x.2.2.2.2.2.2.2.1,x.2.2.2.2.2.2.2.2.1])):Int))) (cnd (decide ((0:Int)≤v.1)&&decide (v.1 <
 (↑(List.length ([x.1,x.2.1,x.2.2.1,x.2.2.2.1,x.2.2.2.2.1,x.2.2.2.2.2.1,(↑(List.length x.2.2.2.2.2.2.1):Int)]++x.2.2.2.2.2.2.1++
 [x.2.2.2.2.2.2.2.1,x.2.2.2.2.2.2.2.2.1])):Int))) (obind (w_G (v.2.2,List.getD ([x.1,x.2.1,x.2.2.1,x.2.2.2.1,x.2.2.2.2.1,
 x.2.2.2.2.2.1,(↑(List.length x.2.2.2.2.2.2.1):Int)]++x.2.2.2.2.2.2.1++[x.2.2.2.2.2.2.2.1,x.2.2.2.2.2.2.2.2.1]) (Int.toNat v.1) (0:Int))) fun
 b=>some (Sum.inl (wr .i64 (v.1+(1:Int)),v.2.1,b))) none) (some (Sum.inr v.2))) ((0:Int),x,[])) fun(b:A2_×List Int)=>obind (w_aE (b.2,b.1.2.2.2.2.2.2.2.2.2)) fun b=>obind (w_aT b) fun b_1=>
 cnd (decide ((List.length b+List.length [wr .u8 (Int.fdiv b_1 ((2:Int) ^ (24:Nat))),wr .u8 (Int.fdiv b_1 ((2:Int) ^ (16:Nat))),wr .u8 (Int.fdiv
 b_1 ((2:Int) ^ (8:Nat))),wr .u8 b_1])*(1:Nat)≤(140737488355328:Nat))) (some (b++[wr .u8 (Int.fdiv b_1 ((2:Int) ^ (24:Nat))),wr .u8 (Int.fdiv
 b_1 ((2:Int) ^ (16:Nat))),wr .u8 (Int.fdiv b_1 ((2:Int) ^ (8:Nat))),wr .u8 b_1])) none) none) none)
theorem q_af:∀w_9 w_G w_aE w_aT N x,u_af.F L0 P0 (orcOf [u_9.con w_9,u_G.con w_G,u_aE.con w_aE,u_aT.con w_aT]) N x=V_af w_9 w_G w_aE w_aT N x:=by intros;kernel_rfl
def W_af (N:Nat):=V_af (W_9 N) (W_G N) (W_aE N) (W_aT N) N
theorem con_af_ok (N:Nat):(u_af.con (W_af N)).ok P0:=Uf.ok mixed (q_af (W_9 N) (W_G N) (W_aE N) (W_aT N) N) ⟨con_9_ok N,con_G_ok N,con_aE_ok N,con_aT_ok N,trivial⟩ Tryz.func18 (by kernel_rfl) fun x y=>by kernel_rfl
def u_aD:Uf:=⟨57,26,Tryz.f57,[.val (.list T3_),.val (.list T3_)],[],
⟨[(4,.val .bool)],[]⟩,[],
[(4,.loop [] ⟨[(5,.val (.int .i64))],[]⟩ [(.exit 0,⟨[],[]⟩),(.ret,⟨[(4,.val .bool)],[]⟩)])],
[],fun y=>(valW .bool y,[],[])⟩
def V_aD (N:Nat) (x:List (Int×Int×Int)×List (Int×Int×Int)):Option (Bool):=
 cnd (decide ((↑(List.length x.1):Int)≠(↑(List.length x.2):Int))) (some false) (obind (loopN N (fun(v:Int)=>cnd (decide (v<(↑(List.length
 x.1):Int))) (cnd (decide ((0:Int)≤v)&&decide (v<(↑(List.length x.1):Int))) (cnd (decide ((0:Int)≤v)&&decide (v<(↑(List.length x.2):
 Int))) (cnd (!(decide (Prod.fst (List.getD x.1 (Int.toNat v) ((0:Int),(0:Int),(0:Int)))=Prod.fst (List.getD x.2 (Int.toNat v) ((0:Int),(0:Int),
 (0:Int))))&&(decide (Prod.fst (Prod.snd (List.getD x.1 (Int.toNat v) ((0:Int),(0:Int),(0:Int))))=Prod.fst (Prod.snd (List.getD x.2 (Int.toNat
 v) ((0:Int),(0:Int),(0:Int)))))&&decide (Prod.snd (Prod.snd (List.getD x.1 (Int.toNat v) ((0:Int),(0:Int),(0:Int))))=Prod.snd (Prod.snd
 (List.getD x.2 (Int.toNat v) ((0:Int),(0:Int),(0:Int)))))))) (some (Sum.inr (Sum.inr false))) (some (Sum.inl (wr .i64 (v+(1:Int)))))) none)
 none) (some (Sum.inr (Sum.inl ())))) (Int.ofNat (0:Nat))) fun(b:PUnit⊕Bool)=>selim (fun(b:PUnit)=>some true) (fun(c:Bool)=>some c)
 b)
theorem q_aD:∀N x,u_aD.F L0 P0 (orcOf []) N x=V_aD N x:=by intros;kernel_rfl
def W_aD (N:Nat):=V_aD N
theorem con_aD_ok (N:Nat):(u_aD.con (W_aD N)).ok P0:=Uf.ok mixed (q_aD N) trivial Tryz.func57 (by kernel_rfl) fun x y=>by kernel_rfl
def u_aC:Uf:=⟨31,94,Tryz.f31,[.val (.agg T0_),.val (.agg T0_)],[],
⟨[(4,.val .bool)],[]⟩,[],
[],
[(1000001,.reg [(12,[],⟨[(2,.ptr 600002 0),(3,.ptr 600003 0),(16,.val .bool)],[(600002,.box 31 (.val T0_)),(600003,.box 31 (.val T0_))]⟩),(7,[],⟨[(2,.ptr 600002 0),(3,.ptr 600003 0),(23,.val .bool)],[(600002,.box 31 (.val T0_)),(600003,.box 31 (.val T0_))]⟩),(7,[],⟨[(2,.ptr 600002 0),(3,.ptr 600003 0),(30,.val .bool)],[(600002,.box 31 (.val T0_)),(600003,.box 31 (.val T0_))]⟩),(7,[],⟨[(2,.ptr 600002 0),(3,.ptr 600003 0),(37,.val .bool)],[(600002,.box 31 (.val T0_)),(600003,.box 31 (.val T0_))]⟩),(7,[],⟨[(2,.ptr 600002 0),(3,.ptr 600003 0),(44,.val .bool)],[(600002,.box 31 (.val T0_)),(600003,.box 31 (.val T0_))]⟩),(7,[],⟨[(2,.ptr 600002 0),(3,.ptr 600003 0),(51,.val .bool)],[(600002,.box 31 (.val T0_)),(600003,.box 31 (.val T0_))]⟩),(7,[],⟨[(2,.ptr 600002 0),(3,.ptr 600003 0),(58,.val .bool)],[(600002,.box 31 (.val T0_)),(600003,.box 31 (.val T0_))]⟩),(7,[],⟨[(2,.ptr 600002 0),(3,.ptr 600003 0),(65,.val .bool)],[(600002,.box 31 (.val T0_)),(600003,.box 31 (.val T0_))]⟩),(7,[],⟨[(2,.ptr 600002 0),(3,.ptr 600003 0),(72,.val .bool)],[(600002,.box 31 (.val T0_)),(600003,.box 31 (.val T0_))]⟩),(7,[],⟨[(2,.ptr 600002 0),(3,.ptr 600003 0),(79,.val .bool)],[(600002,.box 31 (.val T0_)),(600003,.box 31 (.val T0_))]⟩),(7,[],⟨[(2,.ptr 600002 0),(3,.ptr 600003 0),(86,.val .bool)],[(600002,.box 31 (.val T0_)),(600003,.box 31 (.val T0_))]⟩)])],fun y=>(valW .bool y,[],[])⟩
def V_aC (w_u:List Int×List Int→Option (Bool)) (w_aD:List (Int×Int×Int)×List (Int×Int×Int)→Option (Bool)) (N:Nat) (x:A1_×A1_):Option (Bool):=
 obind (cnd (decide (x.1.1=x.2.1)) (some (decide (x.1.2.1=x.2.2.1),x)) (some (false,x))) fun(b:Bool×A1_×A1_)=>obind (cnd b.1 (some (decide (b.2.1.2.2.1=b.2.2.2.2.1),b.2)) (some (false,b.2))) fun(b:Bool×A1_×A1_)=>obind (cnd b.1 (some (decide (b.2.1.2.2.2.1=b.2.2.2.2.2.1),b.2)) (some (false,b.2))) fun(b:Bool×A1_×A1_)=>obind (cnd b.1 (some (decide (b.2.1.2.2.2.2.1=b.2.2.2.2.2.2.1),b.2)) (some (false,b.2)))
 fun(b:Bool×A1_×A1_)=>obind (cnd b.1 (some (decide (b.2.1.2.2.2.2.2.1=b.2.2.2.2.2.2.2.1),
 b.2)) (some (false,b.2))) fun(b:Bool×A1_×A1_)=>obind (cnd b.1 (obind (w_u
 (b.2.1.2.2.2.2.2.2.1,b.2.2.2.2.2.2.2.2.1)) fun b_1=>some (b_1,b.2)) (some (false,b.2))) fun(b:Bool×A1_×A1_)=>obind (cnd b.1 (some (decide (b.2.1.2.2.2.2.2.2.2.1=b.2.2.2.2.2.2.2.2.2.1),b.2)) (some (false,b.2))) fun(b:Bool×A1_×A1_)=>obind (cnd b.1 (some (decide (b.2.1.2.2.2.2.2.2.2.2.1=b.2.2.2.2.2.2.2.2.2.2.1),b.2))
 (some (false,b.2))) fun(b:Bool×A1_×A1_)=>obind (cnd b.1 (some (decide
 (b.2.1.2.2.2.2.2.2.2.2.2.1=b.2.2.2.2.2.2.2.2.2.2.2.1),b.2)) (some (false,b.2))) fun(b:Bool×A1_×A1_)=>obind (cnd b.1 (some (decide (b.2.1.2.2.2.2.2.2.2.2.2.2.1=b.2.2.2.2.2.2.2.2.2.2.2.2.1),b.2)) (some (false,b.2))) fun(b:Bool×A1_×A1_)=>obind (cnd b.1 (some (decide (b.2.1.2.2.2.2.2.2.2.2.2.2.2.1=
 b.2.2.2.2.2.2.2.2.2.2.2.2.2.1),b.2)) (some (false,b.2))) fun(b:Bool×A1_×A1_)=>cnd b.1
 (obind (w_aD (b.2.1.2.2.2.2.2.2.2.2.2.2.2.2,b.2.2.2.2.2.2.2.2.2.2.2.2.2.2)) fun b=>some b) (some false)
theorem q_aC:∀w_u w_aD N x,u_aC.F L0 P0 (orcOf [u_u.con w_u,u_aD.con w_aD]) N x=V_aC w_u w_aD N x:=by intros;kernel_rfl
def W_aC (N:Nat):=V_aC (W_u N) (W_aD N) N
theorem con_aC_ok (N:Nat):(u_aC.con (W_aC N)).ok P0:=Uf.ok mixed (q_aC (W_u N) (W_aD N) N) ⟨con_u_ok N,con_aD_ok N,trivial⟩ Tryz.func31 (by kernel_rfl) fun x y=>by kernel_rfl
def u_ao:Uf:=⟨58,26,Tryz.f58,[.val (.list T5_),.val (.list T5_)],[],
⟨[(4,.val .bool)],[]⟩,[],
[(4,.loop [] ⟨[(5,.val (.int .i64))],[]⟩ [(.exit 0,⟨[],[]⟩),(.ret,⟨[(4,.val .bool)],[]⟩)])],
[],fun y=>(valW .bool y,[],[])⟩
def V_ao (N:Nat) (x:List (Int×List UInt8)×List (Int×List UInt8)):Option (Bool):=
 cnd (decide ((↑(List.length x.1):Int)≠(↑(List.length x.2):Int))) (some false) (obind (loopN N (fun(v:Int)=>cnd (decide (v<(↑(List.length
 x.1):Int))) (cnd (decide ((0:Int)≤v)&&decide (v<(↑(List.length x.1):Int))) (cnd (decide ((0:Int)≤v)&&decide (v<(↑(List.length x.2):
 Int))) (cnd (!(decide (Prod.fst (List.getD x.1 (Int.toNat v) ((0:Int),[]))=Prod.fst (List.getD x.2 (Int.toNat v) ((0:Int),[])))&&Prod.snd
 (List.getD x.1 (Int.toNat v) ((0:Int),[]))==Prod.snd (List.getD x.2 (Int.toNat v) ((0:Int),[])))) (some (Sum.inr (Sum.inr false))) (some
 (Sum.inl (wr .i64 (v+(1:Int)))))) none) none) (some (Sum.inr (Sum.inl ())))) (Int.ofNat (0:Nat))) fun(b:PUnit⊕Bool)=>selim (fun(b:PUnit)
 => some true) (fun(c:Bool)=>some c) b)
theorem q_ao:∀N x,u_ao.F L0 P0 (orcOf []) N x=V_ao N x:=by intros;kernel_rfl
def W_ao (N:Nat):=V_ao N
theorem con_ao_ok (N:Nat):(u_ao.con (W_ao N)).ok P0:=Uf.ok mixed (q_ao N) trivial Tryz.func58 (by kernel_rfl) fun x y=>by kernel_rfl
def u_ay:Uf:=⟨59,26,Tryz.f59,[.val (.list T4_),.val (.list T4_)],[],
⟨[(4,.val .bool)],[]⟩,[],
[(4,.loop [] ⟨[(5,.val (.int .i64))],[]⟩ [(.exit 0,⟨[],[]⟩),(.ret,⟨[(4,.val .bool)],[]⟩)])],
[],fun y=>(valW .bool y,[],[])⟩
def V_ay (N:Nat) (x:List A4_×List A4_):Option (Bool):=
 cnd (decide ((↑(List.length x.1):Int)≠(↑(List.length x.2):Int))) (some false) (obind (loopN N (fun(v:Int)=>cnd (decide (v<(↑(List.length
 x.1):Int))) (cnd (decide ((0:Int)≤v)&&decide (v<(↑(List.length x.1):Int))) (cnd (decide ((0:Int)≤v)&&decide (v<(↑(List.length x.2):
 Int))) (cnd (!(decide (Prod.fst (List.getD x.1 (Int.toNat v) ((0:Int),(0:Int),(0:Int),[],(0:Int)))=Prod.fst (List.getD x.2 (Int.toNat v)
 ((0:Int),(0:Int),(0:Int),[],(0:Int))))&&(decide (Prod.fst (Prod.snd (List.getD x.1 (Int.toNat v) ((0:Int),(0:Int),(0:Int),[],(0:Int))))=
 Prod.fst (Prod.snd (List.getD x.2 (Int.toNat v) ((0:Int),(0:Int),(0:Int),[],(0:Int)))))&&(decide (Prod.fst (Prod.snd (Prod.snd (List.getD x.1
 (Int.toNat v) ((0:Int),(0:Int),(0:Int),[],(0:Int)))))=Prod.fst (Prod.snd (Prod.snd (List.getD x.2 (Int.toNat v) ((0:Int),(0:Int),(0:Int),
 [],(0:Int))))))&&(Prod.fst (Prod.snd (Prod.snd (Prod.snd (List.getD x.1 (Int.toNat v) ((0:Int),(0:Int),(0:Int),[],(0:Int))))))==Prod.fst
 (Prod.snd (Prod.snd (Prod.snd (List.getD x.2 (Int.toNat v) ((0:Int),(0:Int),(0:Int),[],(0:Int))))))&&decide (Prod.snd (Prod.snd (Prod.snd
 (Prod.snd (List.getD x.1 (Int.toNat v) ((0:Int),(0:Int),(0:Int),[],(0:Int))))))=Prod.snd (Prod.snd (Prod.snd (Prod.snd (List.getD x.2
 (Int.toNat v) ((0:Int),(0:Int),(0:Int),[],(0:Int)))))))))))) (some (Sum.inr (Sum.inr false))) (some (Sum.inl (wr .i64 (v+(1:Int)))))) none)
 none) (some (Sum.inr (Sum.inl ())))) (Int.ofNat (0:Nat))) fun(b:PUnit⊕Bool)=>selim (fun(b:PUnit)=>some true) (fun(c:Bool)=>some c)
 b)
theorem q_ay:∀N x,u_ay.F L0 P0 (orcOf []) N x=V_ay N x:=by intros;kernel_rfl
def W_ay (N:Nat):=V_ay N
theorem con_ay_ok (N:Nat):(u_ay.con (W_ay N)).ok P0:=Uf.ok mixed (q_ay N) trivial Tryz.func59 (by kernel_rfl) fun x y=>by kernel_rfl
def u_az:Uf:=⟨32,45,Tryz.f32,[.val (.agg T1_),.val (.agg T1_)],[],
⟨[(4,.val .bool)],[]⟩,[],
[],
[(1000001,.reg [(12,[],⟨[(2,.ptr 600002 0),(3,.ptr 600003 0),(16,.val .bool)],[(600002,.box 37 (.val T1_)),(600003,.box 37 (.val T1_))]⟩),(7,[],⟨[(2,.ptr 600002 0),(3,.ptr 600003 0),(23,.val .bool)],[(600002,.box 37 (.val T1_)),(600003,.box 37 (.val T1_))]⟩),(7,[],⟨[(2,.ptr 600002 0),(3,.ptr 600003 0),(30,.val .bool)],[(600002,.box 37 (.val T1_)),(600003,.box 37 (.val T1_))]⟩),(7,[],⟨[(2,.ptr 600002 0),(3,.ptr 600003 0),(37,.val .bool)],[(600002,.box 37 (.val T1_)),(600003,.box 37 (.val T1_))]⟩)])],fun y=>(valW .bool y,[],[])⟩
def V_az (w_ao:List (Int×List UInt8)×List (Int×List UInt8)→Option (Bool)) (w_ay:List A4_×List A4_→Option (Bool)) (N:Nat) (x:A0_×A0_):Option (Bool):=
 obind (cnd (decide (x.1.1=x.2.1)) (some (decide (x.1.2.1=x.2.2.1),x)) (some (false,x))) fun(b:Bool×A0_×A0_)=>obind (cnd b.1 (obind (w_ao (b.2.1.2.2.1,b.2.2.2.2.1)) fun b_1=>some
 (b_1,b.2)) (some (false,b.2))) fun(b:Bool×A0_×A0_)=>
 obind (cnd b.1 (obind (w_ao (b.2.1.2.2.2.1,b.2.2.2.2.2.1)) fun b_1=>some (b_1,b.2)) (some (false,b.2))) fun(b:Bool×A0_×A0_)=>obind (cnd b.1 (obind (w_ay
 (b.2.1.2.2.2.2.1,b.2.2.2.2.2.2.1)) fun b_1=>some (b_1,b.2)) (some (false,b.2))) fun(b:Bool×A0_×A0_)=>cnd b.1 (some (decide (b.2.1.2.2.2.2.2.1=b.2.2.2.2.2.2.2.1)&&decide (b.2.1.2.2.2.2.2.2=
 b.2.2.2.2.2.2.2.2))) (some false)
theorem q_az:∀w_ao w_ay N x,u_az.F L0 P0 (orcOf [u_ao.con w_ao,u_ay.con w_ay]) N x=V_az w_ao w_ay N x:=by intros;kernel_rfl
def W_az (N:Nat):=V_az (W_ao N) (W_ay N) N
theorem con_az_ok (N:Nat):(u_az.con (W_az N)).ok P0:=Uf.ok mixed (q_az (W_ao N) (W_ay N) N) ⟨con_ao_ok N,con_ay_ok N,trivial⟩ Tryz.func32 (by kernel_rfl) fun x y=>by kernel_rfl
def u_aA:Uf:=⟨14,45,Tryz.f14,[.val (.agg T2_),.val (.agg T2_)],[],
⟨[(4,.val .bool)],[]⟩,[],
[],
[(1000001,.reg [(12,[],⟨[(2,.ptr 600002 0),(3,.ptr 600003 0),(16,.val .bool)],[(600002,.box 39 (.val T2_)),(600003,.box 39 (.val T2_))]⟩),(7,[],⟨[(2,.ptr 600002 0),(3,.ptr 600003 0),(23,.val .bool)],[(600002,.box 39 (.val T2_)),(600003,.box 39 (.val T2_))]⟩),(7,[],⟨[(2,.ptr 600002 0),(3,.ptr 600003 0),(30,.val .bool)],[(600002,.box 39 (.val T2_)),(600003,.box 39 (.val T2_))]⟩),(7,[],⟨[(2,.ptr 600002 0),(3,.ptr 600003 0),(37,.val .bool)],[(600002,.box 39 (.val T2_)),(600003,.box 39 (.val T2_))]⟩)])],fun y=>(valW .bool y,[],[])⟩
def V_aA (w_aC:A1_×A1_→Option (Bool)) (w_az:A0_×A0_→Option (Bool)) (N:Nat) (x:A3_×A3_):Option (Bool):=
 obind (cnd (x.1.1==x.2.1) (some (decide (x.1.2.1=x.2.2.1),x)) (some (false,x))) fun(b:Bool×A3_×A3_)=>obind (cnd b.1 (some (b.2.1.2.2.1==b.2.2.2.2.1,b.2)) (some (false,b.2))) fun(b:Bool×A3_×A3_)=>obind (cnd b.1 (obind (w_aC (b.2.1.2.2.2.1,b.2.2.2.2.2.1)) fun b_1=>some
 (b_1,b.2)) (some (false,b.2))) fun(b:Bool×A3_×A3_)=>obind (cnd b.1 (obind
 (w_az (b.2.1.2.2.2.2.1,b.2.2.2.2.2.2.1)) fun b_1=>some (b_1,b.2)) (some (false,b.2))) fun(b:Bool×A3_×A3_)=>cnd b.1 (some (decide (b.2.1.2.2.2.2.2=b.2.2.2.2.2.2.2))) (some false)
theorem q_aA:∀w_aC w_az N x,u_aA.F L0 P0 (orcOf [u_aC.con w_aC,u_az.con w_az]) N x=V_aA w_aC w_az N x:=by intros;kernel_rfl
def W_aA (N:Nat):=V_aA (W_aC N) (W_az N) N
theorem con_aA_ok (N:Nat):(u_aA.con (W_aA N)).ok P0:=Uf.ok mixed (q_aA (W_aC N) (W_az N) N) ⟨con_aC_ok N,con_az_ok N,trivial⟩ Tryz.func14 (by kernel_rfl) fun x y=>by kernel_rfl
def u_bN:Uf:=⟨8,278,Tryz.f8,[.val (.list (.int .u8)),.val (.int .u8),.val (.int .u8),.val (.int .u8),.val (.int .u8)],[],
⟨[(10,.val .bool)],[]⟩,[],
[(21,.loop [16] ⟨[(12,.ptr 600012 0),(13,.ptr 600013 0),(17,.val .bool),(18,.val (.int .i64))],[(600012,.box 39 (.val T2_)),(600013,.box 46 (.val T_))]⟩ [(.exit 0,⟨[(12,.ptr 600012 0),(13,.ptr 600013 0),(17,.val .bool)],[(600012,.box 39 (.val T2_)),(600013,.box 46 (.val T_))]⟩)]),
(33,.loop [16] ⟨[(12,.ptr 600012 0),(13,.ptr 600013 0),(20,.val .bool),(21,.val (.int .i64))],[(600012,.box 39 (.val T2_)),(600013,.box 46 (.val T_))]⟩ [(.exit 4,⟨[(12,.ptr 600012 0),(13,.ptr 600013 0),(20,.val .bool)],[(600012,.box 39 (.val T2_)),(600013,.box 46 (.val T_))]⟩)]),
(27,.loop [16] ⟨[(12,.ptr 600012 0),(13,.ptr 600013 0),(19,.val (.int .i64))],[(600012,.box 39 (.val T2_)),(600013,.box 46 (.val T_))]⟩ [(.exit 2,⟨[(12,.ptr 600012 0),(13,.ptr 600013 0)],[(600012,.box 39 (.val T2_)),(600013,.box 46 (.val T_))]⟩),(.ret,⟨[(10,.val .bool)],[]⟩)])],
[(14,.cut [] [(.normal,⟨[(12,.ptr 600012 0),(13,.ptr 600013 0)],[(600012,.box 39 (.val T2_)),(600013,.box 46 (.val T_))]⟩)])],fun y=>(valW .bool y,[],[])⟩
def V_bN (w_bc:Unit→Option (Bool)) (w_aQ:List Int×Int→Option A3_) (w_af:M_→Option (List Int)) (w_K:A3_×List Int→Option (List (M_)×A3_)) (w_aA:A3_×A3_→Option (Bool)) (N:Nat) (x:List Int×Int×Int×Int×Int):Option (Bool):=
 obind (w_bc ()) fun b=>cnd (!b) (some false) (cnd (decide ((150:Int)<(↑(List.length x.1):Int))) (some true) (obind (w_aQ
 (x.1,wr .i64 ((1:Int)+wr .i64 (Int.tmod x.2.2.2.2 (8:Int))))) fun b=>cnd (decide (wr .i64 ((1:Int)+wr .i64 (Int.tmod x.2.1 (8:Int)))=wr
 .i64 ((1:Int)+wr .i64 (Int.tmod x.2.2.2.2 (8:Int))))) (some true) (obind (cnd (decide ((64:Int)≤x.2.1)) (cnd (decide ((0:Int)<(↑(List.length
 b.2.2.2.1.2.2.2.2.2.2.2.2.2.2.2.2):Int))) (cnd (!decide ((↑(List.length b.2.2.2.1.2.2.2.2.2.2.2.2.2.2.2.2):Int)=(0:Int))) (cnd (decide
 ((0:Int)≤Int.tmod (wr .i64 x.2.1) (↑(List.length b.2.2.2.1.2.2.2.2.2.2.2.2.2.2.2.2):Int))&&decide (Int.tmod (wr .i64 x.2.1) (↑(List.length
 b.2.2.2.1.2.2.2.2.2.2.2.2.2.2.2.2):Int)<(↑(List.length b.2.2.2.1.2.2.2.2.2.2.2.2.2.2.2.2):Int))) (some (b,(8:Int),Prod.fst (List.getD
 b.2.2.2.1.2.2.2.2.2.2.2.2.2.2.2.2 (Int.toNat (Int.tmod (wr .i64 x.2.1) (↑(List.length b.2.2.2.1.2.2.2.2.2.2.2.2.2.2.2.2):Int))) ((0:Int),(0:Int),
 (0:Int))),wr .i64 ((1:Int)+wr .i64 (Int.tmod x.2.2.2.2 (8:Int))),Prod.fst (Prod.snd (List.getD b.2.2.2.1.2.2.2.2.2.2.2.2.2.2.2.2 (Int.toNat
 (Int.tmod (wr .i64 x.2.1) (↑(List.length b.2.2.2.1.2.2.2.2.2.2.2.2.2.2.2.2):Int))) ((0:Int),(0:Int),(0:Int)))),(0:Int),(0:Int),[],wr .i64
 ((1:Int)+wr .i64 (Int.tmod x.2.2.1 (12:Int))),wr .i64 (wr .i64 ((1:Int)+wr .i64 (Int.tmod x.2.2.1 (12:Int)))+wr .i64 (Int.tmod x.2.2.2.1
 (12:Int))),[])) none) none) (some (b,(8:Int),wr .i64 ((1:Int)+wr .i64 (Int.tmod x.2.1 (8:Int))),wr .i64 ((1:Int)+wr .i64 (Int.tmod x.2.2.2.2
 (8:Int))),(1:Int),(0:Int),(0:Int),[],wr .i64 ((1:Int)+wr .i64 (Int.tmod x.2.2.1 (12:Int))),wr .i64 (wr .i64 ((1:Int)+wr .i64 (Int.tmod
 x.2.2.1 (12:Int)))+wr .i64 (Int.tmod x.2.2.2.1 (12:Int))),[]))) (some (b,(8:Int),wr .i64 ((1:Int)+wr .i64 (Int.tmod x.2.1 (8:Int))),wr .i64
 ((1:Int)+wr .i64 (Int.tmod x.2.2.2.2 (8:Int))),(1:Int),(0:Int),(0:Int),[],wr .i64 ((1:Int)+wr .i64 (Int.tmod x.2.2.1 (12:Int))),wr .i64
 (wr .i64 ((1:Int)+wr .i64 (Int.tmod x.2.2.1 (12:Int)))+wr .i64 (Int.tmod x.2.2.2.1 (12:Int))),[]))) fun(b:A3_×A2_)
 => cnd (decide (b.2.2.1=b.1.2.2.2.1.2.2.2.1)) (some true) (obind (w_af b.2) fun b_1=>obind (w_K (b.1,b_1)) fun b_2=>
 obind (w_aA (b_2.2,b.1)) fun b_3=>cnd (!b_3) (some false) (obind (loopN N (fun(v:Bool×Int×A3_×A2_)
 => cnd (decide (v.2.1<(↑(List.length v.2.2.1.2.2.2.1.2.2.2.2.2.2.2.2.2.2.2.2):Int))) (cnd v.1 (some (Sum.inl (true,wr .i64 (v.2.1+(1:Int)),
 v.2.2))) (cnd (decide ((0:Int)≤v.2.1)&&decide (v.2.1<(↑(List.length v.2.2.1.2.2.2.1.2.2.2.2.2.2.2.2.2.2.2.2):Int))) (cnd (decide (Prod.fst
 (List.getD v.2.2.1.2.2.2.1.2.2.2.2.2.2.2.2.2.2.2.2 (Int.toNat v.2.1) ((0:Int),(0:Int),(0:Int)))=v.2.2.2.2.1)) (cnd (decide ((0:Int)≤v.2.1) &&
 decide (v.2.1<(↑(List.length v.2.2.1.2.2.2.1.2.2.2.2.2.2.2.2.2.2.2.2):Int))) (some (Sum.inl (decide (Prod.fst (Prod.snd (List.getD
 v.2.2.1.2.2.2.1.2.2.2.2.2.2.2.2.2.2.2.2 (Int.toNat v.2.1) ((0:Int),(0:Int),(0:Int))))=v.2.2.2.2.2.2.1),wr .i64 (v.2.1+(1:Int)),v.2.2)))
 none) (some (Sum.inl (false,wr .i64 (v.2.1+(1:Int)),v.2.2)))) none)) (some (Sum.inr (v.1,v.2.2)))) (false,(0:Int),b)) fun(b:Bool×A3_×A2_)=>cnd (!b.1) (some (decide ((↑(List.length b_2.1):Int)=(0:Int)))) (obind (loopN N (fun(v:Int×A3_×A2_)=>cnd (decide (v.1<(↑(List.length b_2.1):Int))) (cnd (decide ((0:Int)≤v.1)&&decide (v.1<(↑(List.length b_2.1):Int))) (cnd
 (decide (Prod.fst (Prod.snd (Prod.snd (List.getD b_2.1 (Int.toNat v.1) ((0:Int),(0:Int),(0:Int),(0:Int),(0:Int),(0:Int),[],(0:Int),(0:Int),
 []))))≠v.2.2.2.1)) (some (Sum.inr (Sum.inr false))) (cnd (decide ((0:Int)≤v.1)&&decide (v.1<(↑(List.length b_2.1):Int))) (cnd (decide
 (Prod.fst (List.getD b_2.1 (Int.toNat v.1) ((0:Int),(0:Int),(0:Int),(0:Int),(0:Int),(0:Int),[],(0:Int),(0:Int),[]))≠(7:Int))) (cnd
 (decide ((0:Int)≤v.1)&&decide (v.1<(↑(List.length b_2.1):Int))) (cnd (decide (Prod.fst (List.getD b_2.1 (Int.toNat v.1) ((0:Int),(0:Int),
 (0:Int),(0:Int),(0:Int),(0:Int),[],(0:Int),(0:Int),[]))≠(9:Int))) (some (Sum.inr (Sum.inr false))) (cnd (decide ((0:Int)≤v.1)&&decide
 (v.1<(↑(List.length b_2.1):Int))) (cnd (decide (Prod.fst (Prod.snd (Prod.snd (Prod.snd (Prod.snd (Prod.snd (Prod.snd (Prod.snd (List.getD b_2.1
 (Int.toNat v.1) ((0:Int),(0:Int),(0:Int),(0:Int),(0:Int),(0:Int),[],(0:Int),(0:Int),[])))))))))<v.2.2.2.2.2.2.2.2.2.1)) (some (Sum.inr
 (Sum.inr false))) (cnd (decide ((0:Int)≤v.1)&&decide (v.1<(↑(List.length b_2.1):Int))) (cnd (decide (v.2.2.2.2.2.2.2.2.2.2.1<Prod.fst
 (Prod.snd (Prod.snd (Prod.snd (Prod.snd (Prod.snd (Prod.snd (Prod.snd (List.getD b_2.1 (Int.toNat v.1) ((0:Int),(0:Int),(0:Int),(0:Int),(0:Int),
 (0:Int),[],(0:Int),(0:Int),[]))))))))))) (some (Sum.inr (Sum.inr false))) (cnd (decide ((0:Int)≤v.1)&&decide (v.1<(↑(List.length b_2.1):
 Int))) (cnd (decide (v.2.2.2.2.2.2.2.2.2.2.1<Prod.fst (Prod.snd (Prod.snd (Prod.snd (Prod.snd (Prod.snd (Prod.snd (Prod.snd (Prod.snd (List.getD
 b_2.1 (Int.toNat v.1) ((0:Int),(0:Int),(0:Int),(0:Int),(0:Int),(0:Int),[],(0:Int),(0:Int),[])))))))))))) (some (Sum.inr (Sum.inr false)))
 (cnd (decide ((0:Int)≤v.1)&&decide (v.1<(↑(List.length b_2.1):Int))) (cnd (decide (v.2.1.2.2.2.2.1.1≤Prod.fst (Prod.snd (Prod.snd
 (Prod.snd (Prod.snd (Prod.snd (Prod.snd (Prod.snd (List.getD b_2.1 (Int.toNat v.1) ((0:Int),(0:Int),(0:Int),(0:Int),(0:Int),(0:Int),[],
 (0:Int),(0:Int),[]))))))))))) (some (Sum.inr (Sum.inr false))) (cnd (decide ((0:Int)≤v.1)&&decide (v.1<(↑(List.length b_2.1):Int))) (cnd
 (decide (max v.2.1.2.2.2.2.1.1 (1:Int)≤Prod.fst (Prod.snd (Prod.snd (Prod.snd (Prod.snd (Prod.snd (Prod.snd (Prod.snd (Prod.snd (List.getD b_2.1
 (Int.toNat v.1) ((0:Int),(0:Int),(0:Int),(0:Int),(0:Int),(0:Int),[],(0:Int),(0:Int),[])))))))))))) (some (Sum.inr (Sum.inr false))) (obind
 (loopN N (fun(v_1:Bool×Int×A3_×A2_)=>cnd (decide (v_1.2.1<(↑(List.length v_1.2.2.1.2.2.2.2.1.2.2.1):Int))) (cnd
 v_1.1 (some (Sum.inl (true,wr .i64 (v_1.2.1+(1:Int)),v_1.2.2))) (cnd (decide ((0:Int)≤v_1.2.1)&&decide (v_1.2.1<(↑(List.length
 v_1.2.2.1.2.2.2.2.1.2.2.1):Int))) (cnd (decide ((0:Int)≤v.1)&&decide (v.1<(↑(List.length b_2.1):Int))) (cnd (decide (Prod.fst (List.getD
 v_1.2.2.1.2.2.2.2.1.2.2.1 (Int.toNat v_1.2.1) ((0:Int),[]))=Prod.fst (Prod.snd (Prod.snd (Prod.snd (Prod.snd (Prod.snd (Prod.snd (Prod.snd
 (List.getD b_2.1 (Int.toNat v.1) ((0:Int),(0:Int),(0:Int),(0:Int),(0:Int),(0:Int),[],(0:Int),(0:Int),[]))))))))))) (cnd (decide ((0:Int) ≤
 v_1.2.1)&&decide (v_1.2.1<(↑(List.length v_1.2.2.1.2.2.2.2.1.2.2.1):Int))) (cnd (decide ((0:Int)≤v.1)&&decide (v.1<(↑(List.length b_2.1)
 : Int))) (some (Sum.inl (Prod.snd (List.getD v_1.2.2.1.2.2.2.2.1.2.2.1 (Int.toNat v_1.2.1) ((0:Int),[]))==Prod.snd (Prod.snd (Prod.snd (Prod.snd
 (Prod.snd (Prod.snd (Prod.snd (Prod.snd (Prod.snd (List.getD b_2.1 (Int.toNat v.1) ((0:Int),(0:Int),(0:Int),(0:Int),(0:Int),(0:Int),[],
 (0:Int),(0:Int),[])))))))))),wr .i64 (v_1.2.1+(1:Int)),v_1.2.2))) none) none) (some (Sum.inl (false,wr .i64 (v_1.2.1+(1:Int)),v_1.2.2))))
 none) none)) (some (Sum.inr (v_1.1,v_1.2.2)))) (false,(0:Int),v.2)) fun(b:Bool×A3_×A2_)=>cnd (decide ((0:Int) ≤
 v.1)&&decide (v.1<(↑(List.length b_2.1):Int))) (cnd (!b.1==decide (Prod.fst (List.getD b_2.1 (Int.toNat v.1) ((0:Int),(0:Int),(0:Int),
 (0:Int),(0:Int),(0:Int),[],(0:Int),(0:Int),[]))=(7:Int))) (some (Sum.inr (Sum.inr false))) (some (Sum.inl (wr .i64 (v.1+(1:Int)),b.2))))
 none)) none)) none)) none)) none)) none)) none) (cnd (decide ((0:Int)≤v.1)&&decide (v.1<(↑(List.length b_2.1):Int))) (cnd (decide (Prod.fst
 (Prod.snd (Prod.snd (Prod.snd (Prod.snd (Prod.snd (Prod.snd (Prod.snd (List.getD b_2.1 (Int.toNat v.1) ((0:Int),(0:Int),(0:Int),(0:Int),(0:Int),
 (0:Int),[],(0:Int),(0:Int),[])))))))))<v.2.2.2.2.2.2.2.2.2.1)) (some (Sum.inr (Sum.inr false))) (cnd (decide ((0:Int)≤v.1)&&decide (v.1 <
 (↑(List.length b_2.1):Int))) (cnd (decide (v.2.2.2.2.2.2.2.2.2.2.1<Prod.fst (Prod.snd (Prod.snd (Prod.snd (Prod.snd (Prod.snd (Prod.snd
 (Prod.snd (List.getD b_2.1 (Int.toNat v.1) ((0:Int),(0:Int),(0:Int),(0:Int),(0:Int),(0:Int),[],(0:Int),(0:Int),[]))))))))))) (some (Sum.inr
 (Sum.inr false))) (cnd (decide ((0:Int)≤v.1)&&decide (v.1<(↑(List.length b_2.1):Int))) (cnd (decide (v.2.2.2.2.2.2.2.2.2.2.1<Prod.fst
 (Prod.snd (Prod.snd (Prod.snd (Prod.snd (Prod.snd (Prod.snd (Prod.snd (Prod.snd (List.getD b_2.1 (Int.toNat v.1) ((0:Int),(0:Int),(0:Int),
 (0:Int),(0:Int),(0:Int),[],(0:Int),(0:Int),[])))))))))))) (some (Sum.inr (Sum.inr false))) (cnd (decide ((0:Int)≤v.1)&&decide (v.1 <
 (↑(List.length b_2.1):Int))) (cnd (decide (v.2.1.2.2.2.2.1.1≤Prod.fst (Prod.snd (Prod.snd (Prod.snd (Prod.snd (Prod.snd (Prod.snd (Prod.snd
 (List.getD b_2.1 (Int.toNat v.1) ((0:Int),(0:Int),(0:Int),(0:Int),(0:Int),(0:Int),[],(0:Int),(0:Int),[]))))))))))) (some (Sum.inr (Sum.inr
 false))) (cnd (decide ((0:Int)≤v.1)&&decide (v.1<(↑(List.length b_2.1):Int))) (cnd (decide (max v.2.1.2.2.2.2.1.1 (1:Int)≤Prod.fst
 (Prod.snd (Prod.snd (Prod.snd (Prod.snd (Prod.snd (Prod.snd (Prod.snd (Prod.snd (List.getD b_2.1 (Int.toNat v.1) ((0:Int),(0:Int),(0:Int),
 (0:Int),(0:Int),(0:Int),[],(0:Int),(0:Int),[])))))))))))) (some (Sum.inr (Sum.inr false))) (obind (loopN N (fun(v_1:Bool×Int×A3_×A2_)=>cnd (decide (v_1.2.1<(↑(List.length v_1.2.2.1.2.2.2.2.1.2.2.1):Int))) (cnd v_1.1 (some (Sum.inl (true,wr .i64
 (v_1.2.1+(1:Int)),v_1.2.2))) (cnd (decide ((0:Int)≤v_1.2.1)&&decide (v_1.2.1<(↑(List.length v_1.2.2.1.2.2.2.2.1.2.2.1):Int))) (cnd
 (decide ((0:Int)≤v.1)&&decide (v.1<(↑(List.length b_2.1):Int))) (cnd (decide (Prod.fst (List.getD v_1.2.2.1.2.2.2.2.1.2.2.1 (Int.toNat
 v_1.2.1) ((0:Int),[]))=Prod.fst (Prod.snd (Prod.snd (Prod.snd (Prod.snd (Prod.snd (Prod.snd (Prod.snd (List.getD b_2.1 (Int.toNat v.1) ((0:Int),
 (0:Int),(0:Int),(0:Int),(0:Int),(0:Int),[],(0:Int),(0:Int),[]))))))))))) (cnd (decide ((0:Int)≤v_1.2.1)&&decide (v_1.2.1 <
 (↑(List.length v_1.2.2.1.2.2.2.2.1.2.2.1):Int))) (cnd (decide ((0:Int)≤v.1)&&decide (v.1<(↑(List.length b_2.1):Int))) (some (Sum.inl
 (Prod.snd (List.getD v_1.2.2.1.2.2.2.2.1.2.2.1 (Int.toNat v_1.2.1) ((0:Int),[]))==Prod.snd (Prod.snd (Prod.snd (Prod.snd (Prod.snd (Prod.snd
 (Prod.snd (Prod.snd (Prod.snd (List.getD b_2.1 (Int.toNat v.1) ((0:Int),(0:Int),(0:Int),(0:Int),(0:Int),(0:Int),[],(0:Int),(0:Int),
 [])))))))))),wr .i64 (v_1.2.1+(1:Int)),v_1.2.2))) none) none) (some (Sum.inl (false,wr .i64 (v_1.2.1+(1:Int)),v_1.2.2)))) none) none)) (some
 (Sum.inr (v_1.1,v_1.2.2)))) (false,(0:Int),v.2)) fun(b:Bool×A3_×A2_)=>cnd (decide ((0:Int)≤v.1)&&decide
 (v.1<(↑(List.length b_2.1):Int))) (cnd (!b.1==decide (Prod.fst (List.getD b_2.1 (Int.toNat v.1) ((0:Int),(0:Int),(0:Int),(0:Int),(0:Int),
 (0:Int),[],(0:Int),(0:Int),[]))=(7:Int))) (some (Sum.inr (Sum.inr false))) (some (Sum.inl (wr .i64 (v.1+(1:Int)),b.2)))) none)) none))
 none)) none)) none)) none)) none)) none) (some (Sum.inr (Sum.inl v.2)))) ((0:Int),b.2)) fun(b:A3_×Int×Int×Int×Int×Int×Int×List Int×Int×Int×List UInt8⊕Bool)=>
 selim (fun(b:A3_×A2_)=>cnd (decide ((0:Int)<(↑(List.length b_2.1):Int))) (some true) (some (decide
 (b.1.2.2.2.2.1.1≤b.2.2.2.2.2.2.2.2.1)))) (fun(c:Bool)=>some c) b))))))
theorem q_bN:∀w_bc w_aQ w_af w_K w_aA N x,u_bN.F L0 P0 (orcOf [u_bc.con w_bc,u_aQ.con w_aQ,u_af.con w_af,u_K.con w_K,u_aA.con w_aA]) N x=V_bN w_bc w_aQ w_af w_K w_aA N x:=by intros;kernel_rfl
def W_bN (N:Nat):=V_bN (W_bc N) (W_aQ N) (W_af N) (W_K N) (W_aA N) N
theorem con_bN_ok (N:Nat):(u_bN.con (W_bN N)).ok P0:=Uf.ok mixed (q_bN (W_bc N) (W_aQ N) (W_af N) (W_K N) (W_aA N) N) ⟨con_bc_ok N,con_aQ_ok N,con_af_ok N,con_K_ok N,con_aA_ok N,trivial⟩ Tryz.func8 (by kernel_rfl) fun x y=>by kernel_rfl
end
end Go.Proofs.YtgpgmncgbebgdaaGreat.nodeServesX
