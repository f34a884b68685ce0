/- TruthAll: for all arguments the call returns true. The law is brought to a function of Lean's own (W_..) by the machine of the texts beside it, and that is reckoned; no condition. -/
import Derived.Test.YtigfokfefnomjaaGreatTruthAllW0
namespace Go.Proofs.YtigfokfefnomjaaGreat.truthAllX
open Go.Abs Go.RowKit Go.ChangeShapes Go.WideShapes Go.ChangeAt
set_option maxRecDepth 100000
set_option linter.unusedVariables false
set_option linter.unusedSimpArgs false
noncomputable section
noncomputable def u_4:Uf:=⟨12,64,Tryz.f12,[.val (.agg T2_)],[],
⟨[(2,.val .bool)],[]⟩,[],
[(2,.loop [] ⟨[(1,.ptr 600001 0),(3,.val (.int .i64))],[(600001,.box 32 (.val T2_))]⟩ [(.exit 0,⟨[],[]⟩),(.ret,⟨[(2,.val .bool)],[]⟩)])],
[],fun y=>(valW .bool y,[],[])⟩
noncomputable def V_4 (w_ah:List (Int×A6_)×Int→Option (Bool)) (w_aB:List (Int×A6_)×Int→Option (Int)) (N:Nat) (x:List A0_×A1_):Option (Bool):=
 obind (loopN N (fun(v:Int×List A0_×A1_)=>cnd (decide (v.1<(↑(List.length
 v.2.1):Int))) (cnd (decide ((0:Int)≤v.1)&&decide (v.1<(↑(List.length v.2.1):Int))) (cnd (!Prod.fst (List.getD v.2.1 (Int.toNat v.1)
 (false,(0:Int),[],((0:Int),(0:Int),(0:Int),(0:Int),(0:Int),(0:Int),[],(0:Int),(0:Int),(0:Int),(0:Int),(0:Int),[]),((0:Int),(0:Int),
 [],[],[],(0:Int),(0:Int)),(0:Int)))) (some (Sum.inl (wr .i64 (v.1+(1:Int)),v.2))) (cnd (decide (Prod.fst (Prod.fst (Prod.snd (Prod.snd
 (Prod.snd (Prod.snd (List.getD v.2.1 (Int.toNat v.1) (false,(0:Int),[],((0:Int),(0:Int),(0:Int),(0:Int),(0:Int),(0:Int),[],(0:Int),
 (0:Int),(0:Int),(0:Int),(0:Int),[]),((0:Int),(0:Int),[],[],[],(0:Int),(0:Int)),(0:Int))))))))=(0:Int))) (some (Sum.inl (wr .i64 (v.1 +
 (1:Int)),v.2))) (cnd (decide (Prod.fst (Prod.fst (Prod.snd (Prod.snd (Prod.snd (Prod.snd (List.getD v.2.1 (Int.toNat v.1) (false,(0:Int),[],
 ((0:Int),(0:Int),(0:Int),(0:Int),(0:Int),(0:Int),[],(0:Int),(0:Int),(0:Int),(0:Int),(0:Int),[]),((0:Int),(0:Int),[],[],[],(0:Int),
 (0:Int)),(0:Int))))))))<(1:Int))) (some (Sum.inr (Sum.inr false))) (cnd (decide (wr .i64 ((↑(List.length v.2.2.2.1):Int)+(1:Int))<Prod.fst
 (Prod.fst (Prod.snd (Prod.snd (Prod.snd (Prod.snd (List.getD v.2.1 (Int.toNat v.1) (false,(0:Int),[],((0:Int),(0:Int),(0:Int),(0:Int),
 (0:Int),(0:Int),[],(0:Int),(0:Int),(0:Int),(0:Int),(0:Int),[]),((0:Int),(0:Int),[],[],[],(0:Int),(0:Int)),(0:Int)))))))))) (some
 (Sum.inr (Sum.inr false))) (cnd (decide ((0:Int)<(↑(List.length (Prod.fst (Prod.snd (Prod.snd (Prod.snd (Prod.snd (Prod.fst (Prod.snd (Prod.snd
 (Prod.snd (Prod.snd (List.getD v.2.1 (Int.toNat v.1) (false,(0:Int),[],((0:Int),(0:Int),(0:Int),(0:Int),(0:Int),(0:Int),[],(0:Int),
 (0:Int),(0:Int),(0:Int),(0:Int),[]),((0:Int),(0:Int),[],[],[],(0:Int),(0:Int)),(0:Int)))))))))))))):Int))) (cnd (decide ((0:Int) ≤
 (0:Int))&&decide ((0:Int)<(↑(List.length (Prod.fst (Prod.snd (Prod.snd (Prod.snd (Prod.snd (Prod.fst (Prod.snd (Prod.snd (Prod.snd (Prod.snd
 (List.getD v.2.1 (Int.toNat v.1) (false,(0:Int),[],((0:Int),(0:Int),(0:Int),(0:Int),(0:Int),(0:Int),[],(0:Int),(0:Int),(0:Int),(0:Int),
 (0:Int),[]),((0:Int),(0:Int),[],[],[],(0:Int),(0:Int)),(0:Int)))))))))))))):Int))) (obind (w_ah (Prod.fst (Prod.snd (Prod.snd
 (Prod.snd (Prod.snd (Prod.fst (Prod.snd (Prod.snd (Prod.snd (Prod.snd (List.getD v.2.1 (Int.toNat v.1) (false,(0:Int),[],((0:Int),(0:Int),
 (0:Int),(0:Int),(0:Int),(0:Int),[],(0:Int),(0:Int),(0:Int),(0:Int),(0:Int),[]),((0:Int),(0:Int),[],[],[],(0:Int),(0:Int)),
 (0:Int)))))))))))),Prod.fst (Prod.snd (List.getD (Prod.fst (Prod.snd (Prod.snd (Prod.snd (Prod.snd (Prod.fst (Prod.snd (Prod.snd (Prod.snd
 (Prod.snd (List.getD v.2.1 (Int.toNat v.1) (false,(0:Int),[],((0:Int),(0:Int),(0:Int),(0:Int),(0:Int),(0:Int),[],(0:Int),(0:Int),
 (0:Int),(0:Int),(0:Int),[]),((0:Int),(0:Int),[],[],[],(0:Int),(0:Int)),(0:Int))))))))))))) (0:Nat) ((0:Int),(0:Int),(0:Int),[],
 (0:Int)))))) fun b=>cnd (!b) (some (Sum.inr (Sum.inr false))) (obind (w_aB (Prod.fst (Prod.snd (Prod.snd (Prod.snd (Prod.snd
 (Prod.fst (Prod.snd (Prod.snd (Prod.snd (Prod.snd (List.getD v.2.1 (Int.toNat v.1) (false,(0:Int),[],((0:Int),(0:Int),(0:Int),(0:Int),
 (0:Int),(0:Int),[],(0:Int),(0:Int),(0:Int),(0:Int),(0:Int),[]),((0:Int),(0:Int),[],[],[],(0:Int),(0:Int)),(0:Int)))))))))))),
 (1:Int))) fun b=>cnd (decide (b≠Prod.fst (Prod.fst (Prod.snd (Prod.snd (Prod.snd (Prod.snd (List.getD v.2.1 (Int.toNat v.1) (false,(0:Int),[],
 ((0:Int),(0:Int),(0:Int),(0:Int),(0:Int),(0:Int),[],(0:Int),(0:Int),(0:Int),(0:Int),(0:Int),[]),((0:Int),(0:Int),[],[],[],(0:Int),
 (0:Int)),(0:Int)))))))))) (some (Sum.inr (Sum.inr false))) (some (Sum.inl (wr .i64 (v.1+(1:Int)),v.2))))) none) (some (Sum.inl (wr .i64 (v.1 +
 (1:Int)),v.2)))))))) none) (some (Sum.inr (Sum.inl ())))) ((0:Int),x)) fun(b:PUnit⊕Bool)=>selim (fun(b:PUnit)=>some true) (fun(c:
 Bool)=>some c) b
theorem q_4:∀w_ah w_aB N x,u_4.F L0 P0 (orcOf [u_ah.con w_ah,u_aB.con w_aB]) N x=V_4 w_ah w_aB N x:=by intros;kernel_rfl
noncomputable def W_4 (N:Nat):=V_4 (W_ah N) (W_aB N) N
theorem con_4_ok (N:Nat):(u_4.con (W_4 N)).ok P0:=Uf.ok mixed (q_4 (W_ah N) (W_aB N) N) ⟨con_ah_ok N,con_aB_ok N,trivial⟩ Tryz.func12 (by kernel_rfl) fun x y=>by kernel_rfl
noncomputable def u_5:Uf:=⟨14,77,Tryz.f14,[.val (.agg T2_)],[],
⟨[(2,.val .bool)],[]⟩,[],
[(6,.loop [4] ⟨[(1,.ptr 600001 0),(5,.val (.int .i64))],[(600001,.box 32 (.val T2_))]⟩ [(.exit 2,⟨[(1,.ptr 600001 0)],[(600001,.box 32 (.val T2_))]⟩),(.ret,⟨[(2,.val .bool)],[]⟩)]),
(2,.loop [] ⟨[(1,.ptr 600001 0),(3,.val (.int .i64))],[(600001,.box 32 (.val T2_))]⟩ [(.exit 0,⟨[],[]⟩),(.ret,⟨[(2,.val .bool)],[]⟩)])],
[],fun y=>(valW .bool y,[],[])⟩
noncomputable def V_5 (N:Nat) (x:List A0_×A1_):Option (Bool):=
 obind (loopN N (fun(v:Int×List A0_×A1_)=>cnd (decide (v.1<(↑(List.length
 v.2.1):Int))) (cnd (decide ((0:Int)≤v.1)&&decide (v.1<(↑(List.length v.2.1):Int))) (obind (loopN N (fun(v_1:Int×List A0_×A1_)=>cnd (decide (v_1.1<(↑(List.length (Prod.fst (Prod.snd (Prod.snd (Prod.snd
 (Prod.snd (Prod.fst (Prod.snd (Prod.snd (Prod.snd (Prod.snd (List.getD v.2.1 (Int.toNat v.1) (false,(0:Int),[],((0:Int),(0:Int),(0:Int),
 (0:Int),(0:Int),(0:Int),[],(0:Int),(0:Int),(0:Int),(0:Int),(0:Int),[]),((0:Int),(0:Int),[],[],[],(0:Int),(0:Int)),
 (0:Int)))))))))))))):Int))) (cnd (decide ((0:Int)≤v.1)&&decide (v.1<(↑(List.length v_1.2.1):Int))) (cnd (Prod.fst (List.getD v_1.2.1
 (Int.toNat v.1) (false,(0:Int),[],((0:Int),(0:Int),(0:Int),(0:Int),(0:Int),(0:Int),[],(0:Int),(0:Int),(0:Int),(0:Int),(0:Int),[]),
 ((0:Int),(0:Int),[],[],[],(0:Int),(0:Int)),(0:Int)))) (cnd (decide ((0:Int)≤v_1.1)&&decide (v_1.1<(↑(List.length (Prod.fst (Prod.snd
 (Prod.snd (Prod.snd (Prod.snd (Prod.fst (Prod.snd (Prod.snd (Prod.snd (Prod.snd (List.getD v.2.1 (Int.toNat v.1) (false,(0:Int),[],((0:Int),
 (0:Int),(0:Int),(0:Int),(0:Int),(0:Int),[],(0:Int),(0:Int),(0:Int),(0:Int),(0:Int),[]),((0:Int),(0:Int),[],[],[],(0:Int),(0:Int)),
 (0:Int)))))))))))))):Int))) (cnd (decide (Prod.fst (List.getD (Prod.fst (Prod.snd (Prod.snd (Prod.snd (Prod.snd (Prod.fst (Prod.snd (Prod.snd
 (Prod.snd (Prod.snd (List.getD v.2.1 (Int.toNat v.1) (false,(0:Int),[],((0:Int),(0:Int),(0:Int),(0:Int),(0:Int),(0:Int),[],(0:Int),
 (0:Int),(0:Int),(0:Int),(0:Int),[]),((0:Int),(0:Int),[],[],[],(0:Int),(0:Int)),(0:Int))))))))))))) (Int.toNat v_1.1) ((0:Int),(0:Int),
 (0:Int),[],(0:Int)))=(1:Int))) (cnd (decide ((0:Int)≤v_1.1)&&decide (v_1.1<(↑(List.length (Prod.fst (Prod.snd (Prod.snd (Prod.snd
 (Prod.snd (Prod.fst (Prod.snd (Prod.snd (Prod.snd (Prod.snd (List.getD v.2.1 (Int.toNat v.1) (false,(0:Int),[],((0:Int),(0:Int),(0:Int),
 (0:Int),(0:Int),(0:Int),[],(0:Int),(0:Int),(0:Int),(0:Int),(0:Int),[]),((0:Int),(0:Int),[],[],[],(0:Int),(0:Int)),
 (0:Int)))))))))))))):Int))) (cnd (decide (Prod.fst (Prod.snd (List.getD (Prod.fst (Prod.snd (Prod.snd (Prod.snd (Prod.snd (Prod.fst (Prod.snd
 (Prod.snd (Prod.snd (Prod.snd (List.getD v.2.1 (Int.toNat v.1) (false,(0:Int),[],((0:Int),(0:Int),(0:Int),(0:Int),(0:Int),(0:Int),[],
 (0:Int),(0:Int),(0:Int),(0:Int),(0:Int),[]),((0:Int),(0:Int),[],[],[],(0:Int),(0:Int)),(0:Int))))))))))))) (Int.toNat v_1.1) ((0:Int),
 (0:Int),(0:Int),[],(0:Int))))<(1:Int))) (some (Sum.inr (Sum.inr false))) (cnd (decide ((0:Int)≤v_1.1)&&decide (v_1.1<(↑(List.length
 (Prod.fst (Prod.snd (Prod.snd (Prod.snd (Prod.snd (Prod.fst (Prod.snd (Prod.snd (Prod.snd (Prod.snd (List.getD v.2.1 (Int.toNat v.1) (false,
 (0:Int),[],((0:Int),(0:Int),(0:Int),(0:Int),(0:Int),(0:Int),[],(0:Int),(0:Int),(0:Int),(0:Int),(0:Int),[]),((0:Int),(0:Int),[],[],
 [],(0:Int),(0:Int)),(0:Int)))))))))))))):Int))) (cnd (decide ((↑(List.length v_1.2.2.2.1):Int)<Prod.fst (Prod.snd (List.getD (Prod.fst
 (Prod.snd (Prod.snd (Prod.snd (Prod.snd (Prod.fst (Prod.snd (Prod.snd (Prod.snd (Prod.snd (List.getD v.2.1 (Int.toNat v.1) (false,(0:Int),[],
 ((0:Int),(0:Int),(0:Int),(0:Int),(0:Int),(0:Int),[],(0:Int),(0:Int),(0:Int),(0:Int),(0:Int),[]),((0:Int),(0:Int),[],[],[],(0:Int),
 (0:Int)),(0:Int))))))))))))) (Int.toNat v_1.1) ((0:Int),(0:Int),(0:Int),[],(0:Int)))))) (some (Sum.inr (Sum.inr false))) (cnd (decide ((0:Int)
 ≤ v_1.1)&&decide (v_1.1<(↑(List.length (Prod.fst (Prod.snd (Prod.snd (Prod.snd (Prod.snd (Prod.fst (Prod.snd (Prod.snd (Prod.snd (Prod.snd
 (List.getD v.2.1 (Int.toNat v.1) (false,(0:Int),[],((0:Int),(0:Int),(0:Int),(0:Int),(0:Int),(0:Int),[],(0:Int),(0:Int),(0:Int),(0:Int),
 (0:Int),[]),((0:Int),(0:Int),[],[],[],(0:Int),(0:Int)),(0:Int)))))))))))))):Int))) (cnd (decide ((0:Int)≤wr .i64 (Prod.fst (Prod.snd
 (List.getD (Prod.fst (Prod.snd (Prod.snd (Prod.snd (Prod.snd (Prod.fst (Prod.snd (Prod.snd (Prod.snd (Prod.snd (List.getD v.2.1 (Int.toNat v.1)
 (false,(0:Int),[],((0:Int),(0:Int),(0:Int),(0:Int),(0:Int),(0:Int),[],(0:Int),(0:Int),(0:Int),(0:Int),(0:Int),[]),((0:Int),(0:Int),
 [],[],[],(0:Int),(0:Int)),(0:Int))))))))))))) (Int.toNat v_1.1) ((0:Int),(0:Int),(0:Int),[],(0:Int))))-(1:Int)))&&decide (wr .i64
 (Prod.fst (Prod.snd (List.getD (Prod.fst (Prod.snd (Prod.snd (Prod.snd (Prod.snd (Prod.fst (Prod.snd (Prod.snd (Prod.snd (Prod.snd (List.getD v.2.1
 (Int.toNat v.1) (false,(0:Int),[],((0:Int),(0:Int),(0:Int),(0:Int),(0:Int),(0:Int),[],(0:Int),(0:Int),(0:Int),(0:Int),(0:Int),[]),
 ((0:Int),(0:Int),[],[],[],(0:Int),(0:Int)),(0:Int))))))))))))) (Int.toNat v_1.1) ((0:Int),(0:Int),(0:Int),[],(0:Int))))-(1:Int)) <
 (↑(List.length v_1.2.2.2.1):Int))) (cnd (decide ((0:Int)≤v_1.1)&&decide (v_1.1<(↑(List.length (Prod.fst (Prod.snd (Prod.snd (Prod.snd
 (Prod.snd (Prod.fst (Prod.snd (Prod.snd (Prod.snd (Prod.snd (List.getD v.2.1 (Int.toNat v.1) (false,(0:Int),[],((0:Int),(0:Int),(0:Int),
 (0:Int),(0:Int),(0:Int),[],(0:Int),(0:Int),(0:Int),(0:Int),(0:Int),[]),((0:Int),(0:Int),[],[],[],(0:Int),(0:Int)),
 (0:Int)))))))))))))):Int))) (cnd (!List.getD v_1.2.2.2.1 (Int.toNat (wr .i64 (Prod.fst (Prod.snd (List.getD (Prod.fst (Prod.snd (Prod.snd
 (Prod.snd (Prod.snd (Prod.fst (Prod.snd (Prod.snd (Prod.snd (Prod.snd (List.getD v.2.1 (Int.toNat v.1) (false,(0:Int),[],((0:Int),(0:Int),
 (0:Int),(0:Int),(0:Int),(0:Int),[],(0:Int),(0:Int),(0:Int),(0:Int),(0:Int),[]),((0:Int),(0:Int),[],[],[],(0:Int),(0:Int)),
 (0:Int))))))))))))) (Int.toNat v_1.1) ((0:Int),(0:Int),(0:Int),[],(0:Int))))-(1:Int)))) []==Prod.fst (Prod.snd (Prod.snd (Prod.snd
 (List.getD (Prod.fst (Prod.snd (Prod.snd (Prod.snd (Prod.snd (Prod.fst (Prod.snd (Prod.snd (Prod.snd (Prod.snd (List.getD v.2.1 (Int.toNat v.1)
 (false,(0:Int),[],((0:Int),(0:Int),(0:Int),(0:Int),(0:Int),(0:Int),[],(0:Int),(0:Int),(0:Int),(0:Int),(0:Int),[]),((0:Int),(0:Int),
 [],[],[],(0:Int),(0:Int)),(0:Int))))))))))))) (Int.toNat v_1.1) ((0:Int),(0:Int),(0:Int),[],(0:Int))))))) (some (Sum.inr (Sum.inr false)))
 (some (Sum.inl (wr .i64 (v_1.1+(1:Int)),v_1.2)))) none) none) none)) none)) none) (some (Sum.inl (wr .i64 (v_1.1+(1:Int)),v_1.2)))) none)
 (some (Sum.inr (Sum.inl v_1.2)))) none) (some (Sum.inr (Sum.inl v_1.2)))) ((0:Int),v.2)) fun(b:List A0_×List (Int×List UInt8×Bool)×List (List UInt8)×Int×List (List Int)×List (List (List Int×Int))⊕Bool)=>selim (fun(b:List A0_×A1_)=>some
 (Sum.inl (wr .i64 (v.1+(1:Int)),b))) (fun(c:Bool)=>some (Sum.inr (Sum.inr c))) b) none) (some (Sum.inr (Sum.inl ())))) ((0:Int),x)) fun(b
 : PUnit⊕Bool)=>selim (fun(b:PUnit)=>some true) (fun(c:Bool)=>some c) b
theorem q_5:∀N x,u_5.F L0 P0 (orcOf []) N x=V_5 N x:=by intros;kernel_rfl
noncomputable def W_5 (N:Nat):=V_5 N
theorem con_5_ok (N:Nat):(u_5.con (W_5 N)).ok P0:=Uf.ok mixed (q_5 N) trivial Tryz.func14 (by kernel_rfl) fun x y=>by kernel_rfl
noncomputable def u_a4:Uf:=⟨35,38,Tryz.f35,[.val (.agg T2_)],[],
⟨[(2,.val (.list (.int .i64))),(3,.val (.list .bool))],[]⟩,[],
[(4,.loop [] ⟨[(1,.ptr 600001 0),(4,.acc 700004),(5,.acc 700005),(6,.val (.int .i64))],[(600001,.box 32 (.val T2_)),(700004,.nrow 3 (.int .i64) true true),(700005,.nrow 4 .bool true true)]⟩ [(.exit 0,⟨[(4,.val (.list (.int .i64))),(5,.val (.list .bool))],[]⟩)])],
[],fun y=>(.tup [valW (.list (.int .i64)) y.1,valW (.list .bool) y.2],[],[])⟩
noncomputable def V_a4 (N:Nat) (x:List A0_×A1_):Option (List Int×List Bool):=
 obind (loopN N (fun(v:Int×(List A0_×A1_)×List Int×List Bool)=>cnd (decide
 (v.1<(↑(List.length v.2.1.1):Int))) (cnd (decide ((0:Int)≤v.1)&&decide (v.1<(↑(List.length v.2.1.1):Int))) (cnd (decide ((List.length
 v.2.2.2+(1:Nat))*(1:Nat)≤(140737488355328:Nat))) (cnd (Prod.fst (List.getD v.2.1.1 (Int.toNat v.1) (false,(0:Int),[],((0:Int),(0:Int),
 (0:Int),(0:Int),(0:Int),(0:Int),[],(0:Int),(0:Int),(0:Int),(0:Int),(0:Int),[]),((0:Int),(0:Int),[],[],[],(0:Int),(0:Int)),
 (0:Int)))) (cnd (decide ((List.length v.2.2.1+(1:Nat))*(8:Nat)≤(140737488355328:Nat))) (some (Sum.inl (wr .i64 (v.1+(1:Int)),v.2.1,v.2.2.1
 ++ [Prod.fst (Prod.snd (Prod.snd (Prod.snd (Prod.fst (Prod.snd (Prod.snd (Prod.snd (List.getD v.2.1.1 (Int.toNat v.1) (false,(0:Int),[],((0:Int),
 (0:Int),(0:Int),(0:Int),(0:Int),(0:Int),[],(0:Int),(0:Int),(0:Int),(0:Int),(0:Int),[]),((0:Int),(0:Int),[],[],[],(0:Int),(0:Int)),
 (0:Int))))))))))],v.2.2.2++[Prod.fst (List.getD v.2.1.1 (Int.toNat v.1) (false,(0:Int),[],((0:Int),(0:Int),(0:Int),(0:Int),(0:Int),
 (0:Int),[],(0:Int),(0:Int),(0:Int),(0:Int),(0:Int),[]),((0:Int),(0:Int),[],[],[],(0:Int),(0:Int)),(0:Int)))]))) none) (cnd (decide
 ((List.length v.2.2.1+List.length [(0:Int)])*(8:Nat)≤(140737488355328:Nat))) (some (Sum.inl (wr .i64 (v.1+(1:Int)),v.2.1,v.2.2.1++
 [(0:Int)],v.2.2.2++[Prod.fst (List.getD v.2.1.1 (Int.toNat v.1) (false,(0:Int),[],((0:Int),(0:Int),(0:Int),(0:Int),(0:Int),(0:Int),[],
 (0:Int),(0:Int),(0:Int),(0:Int),(0:Int),[]),((0:Int),(0:Int),[],[],[],(0:Int),(0:Int)),(0:Int)))]))) none)) none) none) (some (Sum.inr
 v.2.2))) ((0:Int),x,[],[])) fun(b:List Int×List Bool)=>some b
theorem q_a4:∀N x,u_a4.F L0 P0 (orcOf []) N x=V_a4 N x:=by intros;kernel_rfl
noncomputable def W_a4 (N:Nat):=V_a4 N
theorem con_a4_ok (N:Nat):(u_a4.con (W_a4 N)).ok P0:=Uf.ok mixed (q_a4 N) trivial Tryz.func35 (by kernel_rfl) fun x y=>by kernel_rfl
noncomputable def u_ab:Uf:=⟨36,41,Tryz.f36,[.val (.list (.int .i64)),.val (.int .i64)],[],
⟨[(4,.val (.list (.int .i64)))],[]⟩,[],
[(5,.loop [] ⟨[(5,.acc 700005),(7,.val (.int .i64))],[(700005,.nrow 3 (.int .i64) true true)]⟩ [(.exit 2,⟨[(5,.acc 700005)],[(700005,.nrow 3 (.int .i64) true true)]⟩),(.ret,⟨[(4,.val (.list (.int .i64)))],[]⟩)]),
(3,.loop [] ⟨[(5,.acc 700005),(6,.val (.int .i64))],[(700005,.nrow 3 (.int .i64) true true)]⟩ [(.exit 0,⟨[],[]⟩),(.ret,⟨[(4,.val (.list (.int .i64)))],[]⟩)])],
[],fun y=>(valW (.list (.int .i64)) y,[],[])⟩
noncomputable def V_ab (N:Nat) (x:List Int×Int):Option (List Int):=
 obind (loopN N (fun(v:Int×List Int)=>cnd (decide ((1:Int)≤v.1)) (cnd (decide (v.1≤(↑(List.length x.1):Int))) (obind (loopN N (fun(v_1:
 Int×List Int)=>cnd (decide (v_1.1<(↑(List.length v_1.2):Int))) (cnd (decide ((0:Int)≤v_1.1)&&decide (v_1.1<(↑(List.length v_1.2):
 Int))) (cnd (decide (List.getD v_1.2 (Int.toNat v_1.1) (0:Int)=v.1)) (cnd (decide ((0:Int)≤Option.getD (some v_1.1) (0:Int))) (cnd (decide
 (Option.getD (some v_1.1) (0:Int)≤(↑(List.length v_1.2):Int))) (some (Sum.inr (Sum.inr (List.drop ((0:Nat)+Prod.fst (Prod.snd (cutT (0:Nat)
 (List.length v_1.2) (List.length v_1.2) (some v_1.1) none))) (List.take ((0:Nat)+Prod.fst (Prod.snd (cutT (0:Nat) (List.length v_1.2) (List.length
 v_1.2) (some v_1.1) none))+(Prod.snd (Prod.snd (cutT (0:Nat) (List.length v_1.2) (List.length v_1.2) (some v_1.1) none))-Prod.fst (Prod.snd
 (cutT (0:Nat) (List.length v_1.2) (List.length v_1.2) (some v_1.1) none)))) v_1.2))))) none) none) (some (Sum.inl (wr .i64 (v_1.1+(1:Int)),
 v_1.2)))) none) (some (Sum.inr (Sum.inl v_1.2)))) ((0:Int),v.2)) fun(b:List Int⊕List Int)=>selim (fun(b:List Int)=>cnd (decide
 ((List.length b+List.length [v.1])*(8:Nat)≤(140737488355328:Nat))) (cnd (decide ((0:Int)≤wr .i64 (v.1-(1:Int)))&&decide (wr .i64 (v.1 -
 (1:Int))<(↑(List.length x.1):Int))) (some (Sum.inl (List.getD x.1 (Int.toNat (wr .i64 (v.1-(1:Int)))) (0:Int),b++[v.1]))) none) none) (fun
 (c:List Int)=>some (Sum.inr (Sum.inr c))) b) (some (Sum.inr (Sum.inl ())))) (some (Sum.inr (Sum.inl ())))) (x.2,[])) fun(b:PUnit⊕List Int)
 => selim (fun(b:PUnit)=>some []) (fun(c:List Int)=>some c) b
theorem q_ab:∀N x,u_ab.F L0 P0 (orcOf []) N x=V_ab N x:=by intros;kernel_rfl
noncomputable def W_ab (N:Nat):=V_ab N
theorem con_ab_ok (N:Nat):(u_ab.con (W_ab N)).ok P0:=Uf.ok mixed (q_ab N) trivial Tryz.func36 (by kernel_rfl) fun x y=>by kernel_rfl
noncomputable def u_aa:Uf:=⟨17,25,Tryz.f17,[.val (.agg T2_)],[],
⟨[(2,.val (.list (.int .i64)))],[]⟩,[],
[(3,.loop [3] ⟨[(5,.val (.int .i64))],[]⟩ [(.exit 0,⟨[],[]⟩),(.ret,⟨[(2,.val (.list (.int .i64)))],[]⟩)])],
[],fun y=>(valW (.list (.int .i64)) y,[],[])⟩
noncomputable def V_aa (w_a4:List A0_×A1_→Option (List Int×List Bool)) (w_ab:List Int×Int→Option (List Int)) (N:Nat) (x:List A0_×A1_):Option (List Int):=
 obind (w_a4 x) fun b=>obind (loopN N (fun(v:Int)=>cnd (decide (v≤(↑(List.length b.1):Int))) (obind (w_ab (b.1,v)) fun b
 => cnd (decide ((0:Int)<(↑(List.length b):Int))) (some (Sum.inr (Sum.inr b))) (some (Sum.inl (wr .i64 (v+(1:Int)))))) (some (Sum.inr (Sum.inl
 ())))) (Int.ofNat (1:Nat))) fun(b:PUnit⊕List Int)=>selim (fun(b:PUnit)=>some []) (fun(c:List Int)=>some c) b
theorem q_aa:∀w_a4 w_ab N x,u_aa.F L0 P0 (orcOf [u_a4.con w_a4,u_ab.con w_ab]) N x=V_aa w_a4 w_ab N x:=by intros;kernel_rfl
noncomputable def W_aa (N:Nat):=V_aa (W_a4 N) (W_ab N) N
theorem con_aa_ok (N:Nat):(u_aa.con (W_aa N)).ok P0:=Uf.ok mixed (q_aa (W_a4 N) (W_ab N) N) ⟨con_a4_ok N,con_ab_ok N,trivial⟩ Tryz.func17 (by kernel_rfl) fun x y=>by kernel_rfl
noncomputable def u_aU:Uf:=⟨37,31,Tryz.f37,[.val (.list (.agg T6_))],[],
⟨[(2,.val (.list (.agg T5_)))],[]⟩,[],
[(3,.loop [] ⟨[(3,.val (.list (.agg T5_))),(4,.val (.int .i64))],[]⟩ [(.exit 0,⟨[(3,.val (.list (.agg T5_)))],[]⟩)])],
[],fun y=>(valW (.list (.agg T5_)) y,[],[])⟩
noncomputable def V_aU (w_I:List (Int×Int)×Int×Int→Option (List (Int×Int))) (N:Nat) (x:List (Int×A6_)):Option (List (Int×Int)):=
 obind (loopN N (fun(v:List (Int×Int)×Int)=>cnd (decide (v.2<(↑(List.length x):Int))) (cnd (decide ((0:Int)≤v.2)&&decide (v.2 <
 (↑(List.length x):Int))) (cnd (decide (Prod.fst (List.getD x (Int.toNat v.2) ((0:Int),(0:Int),(0:Int),[],(0:Int)))=(2:Int))) (cnd (decide
 ((0:Int)≤v.2)&&decide (v.2<(↑(List.length x):Int))) (cnd (decide ((0:Int)≤v.2)&&decide (v.2<(↑(List.length x):Int))) (obind
 (w_I (v.1,Prod.fst (Prod.snd (List.getD x (Int.toNat v.2) ((0:Int),(0:Int),(0:Int),[],(0:Int)))),Prod.fst (Prod.snd (Prod.snd
 (List.getD x (Int.toNat v.2) ((0:Int),(0:Int),(0:Int),[],(0:Int))))))) fun b=>some (Sum.inl (b,wr .i64 (v.2+(1:Int))))) none) none) (some
 (Sum.inl (v.1,wr .i64 (v.2+(1:Int)))))) none) (some (Sum.inr v.1))) ([],(0:Int))) fun(b:List (Int×Int))=>some b
theorem q_aU:∀w_I N x,u_aU.F L0 P0 (orcOf [u_I.con w_I]) N x=V_aU w_I N x:=by intros;kernel_rfl
noncomputable def W_aU (N:Nat):=V_aU (W_I N) N
theorem con_aU_ok (N:Nat):(u_aU.con (W_aU N)).ok P0:=Uf.ok mixed (q_aU (W_I N) N) ⟨con_I_ok N,trivial⟩ Tryz.func37 (by kernel_rfl) fun x y=>by kernel_rfl
noncomputable def u_aF:Uf:=⟨19,23,Tryz.f19,[.val (.agg T2_),.val (.int .i64)],[],
⟨[(4,.val (.list (.agg T5_)))],[]⟩,[],
[],
[],fun y=>(valW (.list (.agg T5_)) y,[],[])⟩
noncomputable def V_aF (w_aU:List (Int×A6_)→Option (List (Int×Int))) (N:Nat) (x:(List A0_×A1_)×Int):Option (List (Int×Int)):=
 cnd (decide (x.2<(1:Int))) (some []) (cnd (decide ((↑(List.length x.1.1):Int)<x.2)) (some []) (cnd (decide ((0:Int)≤wr .i64 (x.2-(1:Int)))
 && decide (wr .i64 (x.2-(1:Int))<(↑(List.length x.1.1):Int))) (obind (w_aU (Prod.fst (Prod.snd (Prod.snd (Prod.snd (Prod.snd
 (Prod.fst (Prod.snd (Prod.snd (Prod.snd (Prod.snd (List.getD x.1.1 (Int.toNat (wr .i64 (x.2-(1:Int)))) (false,(0:Int),[],((0:Int),(0:Int),
 (0:Int),(0:Int),(0:Int),(0:Int),[],(0:Int),(0:Int),(0:Int),(0:Int),(0:Int),[]),((0:Int),(0:Int),[],[],[],(0:Int),(0:Int)),
 (0:Int)))))))))))))) fun b=>some b) none))
theorem q_aF:∀w_aU N x,u_aF.F L0 P0 (orcOf [u_aU.con w_aU]) N x=V_aF w_aU N x:=by intros;kernel_rfl
noncomputable def W_aF (N:Nat):=V_aF (W_aU N) N
theorem con_aF_ok (N:Nat):(u_aF.con (W_aF N)).ok P0:=Uf.ok mixed (q_aF (W_aU N) N) ⟨con_aU_ok N,trivial⟩ Tryz.func19 (by kernel_rfl) fun x y=>by kernel_rfl
noncomputable def u_aw:Uf:=⟨18,26,Tryz.f18,[.val (.list (.agg T5_)),.val (.list (.agg T5_))],[],
⟨[(4,.val .bool)],[]⟩,[],
[(4,.loop [] ⟨[(5,.val (.int .i64))],[]⟩ [(.exit 0,⟨[],[]⟩),(.ret,⟨[(4,.val .bool)],[]⟩)])],
[],fun y=>(valW .bool y,[],[])⟩
noncomputable def V_aw (N:Nat) (x:List (Int×Int)×List (Int×Int)):Option (Bool):=
 cnd (decide ((↑(List.length x.1):Int)≠(↑(List.length x.2):Int))) (some false) (obind (loopN N (fun(v:Int)=>cnd (decide (v<(↑(List.length
 x.1):Int))) (cnd (decide ((0:Int)≤v)&&decide (v<(↑(List.length x.1):Int))) (cnd (decide ((0:Int)≤v)&&decide (v<(↑(List.length x.2):
 Int))) (cnd (!(decide (Prod.fst (List.getD x.1 (Int.toNat v) ((0:Int),(0:Int)))=Prod.fst (List.getD x.2 (Int.toNat v) ((0:Int),(0:Int)))) &&
 decide (Prod.snd (List.getD x.1 (Int.toNat v) ((0:Int),(0:Int)))=Prod.snd (List.getD x.2 (Int.toNat v) ((0:Int),(0:Int)))))) (some (Sum.inr
 (Sum.inr false))) (some (Sum.inl (wr .i64 (v+(1:Int)))))) none) none) (some (Sum.inr (Sum.inl ())))) (Int.ofNat (0:Nat))) fun(b:PUnit⊕Bool)
 => selim (fun(b:PUnit)=>some true) (fun(c:Bool)=>some c) b)
theorem q_aw:∀N x,u_aw.F L0 P0 (orcOf []) N x=V_aw N x:=by intros;kernel_rfl
noncomputable def W_aw (N:Nat):=V_aw N
theorem con_aw_ok (N:Nat):(u_aw.con (W_aw N)).ok P0:=Uf.ok mixed (q_aw N) trivial Tryz.func18 (by kernel_rfl) fun x y=>by kernel_rfl
noncomputable def u_bd:Uf:=⟨4,218,Tryz.f4,[.val (.list (.int .u8)),.val (.list (.int .u8)),.val (.int .u8),.val (.int .u8),.val (.int .u8),.val (.int .i64)],[],
⟨[(12,.val .bool)],[]⟩,[],
[(28,.unroll 4),
(33,.loop [] ⟨[(13,.ptr 600013 0),(20,.val (.int .i64))],[(600013,.box 32 (.val T2_))]⟩ [(.exit 3,⟨[],[]⟩),(.ret,⟨[(12,.val .bool)],[]⟩)])],
[(31,.cut [18] [(.normal,⟨[(13,.ptr 600013 0),(201,.val .bool)],[(600013,.box 32 (.val T2_))]⟩)]),
(29,.cut [18] [(.normal,⟨[(13,.ptr 600013 0)],[(600013,.box 32 (.val T2_))]⟩),(.ret,⟨[(12,.val .bool)],[]⟩)]),
(38,.cut [] [(.normal,⟨[(13,.ptr 600013 0),(21,.val (.int .i64))],[(600013,.box 32 (.val T2_))]⟩)]),
(26,.cut [] [(.normal,⟨[(13,.ptr 600013 0),(14,.ptr 600014 0),(17,.ptr 600017 0)],[(600013,.box 32 (.val T2_)),(600014,.box 32 (.val T2_)),(600017,.box 32 (.val T2_))]⟩)]),
(22,.cut [] [(.normal,⟨[(13,.ptr 600013 0),(14,.ptr 600014 0),(15,.ptr 600015 0)],[(600013,.box 32 (.val T2_)),(600014,.box 32 (.pair (.acc 601014) (.pair (.val (.list T10_)) (.pair (.val (.list .str)) (.val (.agg T4_)))))),(601014,.nrow 48 (.agg T0_) false true),(600015,.box 48 (.val T0_))]⟩)]),
(9,.cut [] [(.normal,⟨[(13,.ptr 600013 0),(14,.ptr 600014 0),(15,.ptr 600015 0)],[(600013,.box 32 (.val T2_)),(600014,.box 32 (.pair (.acc 601014) (.pair (.val (.list T10_)) (.pair (.val (.list .str)) (.val (.agg T4_)))))),(601014,.nrow 48 (.agg T0_) false true),(600015,.box 48 (.val T0_))]⟩)])],fun y=>(valW .bool y,[],[])⟩
noncomputable def V_bd (w_a9:Unit→Option (Bool)) (w_X:List Int→Option (List Int×Int)) (w_az:List Int×Int→Option ((List Int×Int)×List A0_×A1_)) (w_aq:(List A0_×A1_)×Int×List Int×Int→Option ((List Int×Int)×List A0_×A1_)) (w_r:List A0_×A1_→Option (Bool)) (w_4:List A0_×A1_→Option (Bool)) (w_s:List A0_×A1_→Option (Bool)) (w_5:List A0_×A1_→Option (Bool)) (w_v:List A0_×A1_→Option (List Int)) (w_aa:List A0_×A1_→Option (List Int)) (w_t:List Int×List Int→Option (Bool)) (w_M:(List A0_×A1_)×Int→Option (List (Int×Int))) (w_aF:(List A0_×A1_)×Int→Option (List (Int×Int))) (w_aw:List (Int×Int)×List (Int×Int)→Option (Bool)) (N:Nat) (x:List Int×List Int×Int×Int×Int×Int):Option (Bool):=
 obind (w_a9 ()) fun b=>cnd (!b) (some false) (cnd (decide ((40:Int)<(↑(List.length x.1):Int))) (some true) (cnd (decide ((250:Int) <
 (↑(List.length x.2.1):Int))) (some true) (obind (w_X x.2.1) fun b_1=>obind (w_X x.1) fun b_2=>obind (w_az b_2) fun b_3
 => obind (w_aq (b_3.2,(60:Int),b_1)) fun b_4=>cnd (decide (List.length b_4.2.1*(280:Nat)≤(140737488355328:Nat))) (obind (cnd
 (decide ((0:Int)≤Int.tmod x.2.2.1 (8:Int))&&decide (Int.tmod x.2.2.1 (8:Int)<(↑(List.length b_4.2.1):Int))) (some (b_4.2,b_4.2.2.1,
 b_4.2.2.2.1,b_4.2.2.2.2,b_4.2.1,List.getD b_4.2.1 (Int.toNat (Int.tmod x.2.2.1 (8:Int))) (false,(0:Int),[],((0:Int),(0:Int),(0:Int),
 (0:Int),(0:Int),(0:Int),[],(0:Int),(0:Int),(0:Int),(0:Int),(0:Int),[]),((0:Int),(0:Int),[],[],[],(0:Int),(0:Int)),(0:Int)))) none)
 fun(b_5:(List A0_×A1_)×List (Int×List UInt8×Bool)×List (List UInt8)×A5_×List A0_×A0_)=>cnd
 (decide (List.length b_5.2.2.2.2.2.2.2.2.2.1.2.2.2.2.1*(48:Nat)≤(140737488355328:Nat))) (obind (cnd (decide ((0:Int)<(↑(List.length
 b_5.2.2.2.2.2.2.2.2.2.1.2.2.2.2.1):Int))) (cnd (!decide ((↑(List.length b_5.2.2.2.2.2.2.2.2.2.1.2.2.2.2.1):Int)=(0:Int))) (cnd (decide
 (Int.tmod x.2.2.2.2.1 (5:Int)=(0:Int))) (cnd (decide ((0:Int)≤Int.tmod (wr .i64 x.2.2.2.1) (↑(List.length b_5.2.2.2.2.2.2.2.2.2.1.2.2.2.2.1):
 Int))&&decide (Int.tmod (wr .i64 x.2.2.2.1) (↑(List.length b_5.2.2.2.2.2.2.2.2.2.1.2.2.2.2.1):Int)<(↑(List.length
 b_5.2.2.2.2.2.2.2.2.2.1.2.2.2.2.1):Int))) (cnd (decide (List.length (Prod.fst (Prod.snd (Prod.snd (Prod.snd (List.getD
 b_5.2.2.2.2.2.2.2.2.2.1.2.2.2.2.1 (Int.toNat (Int.tmod (wr .i64 x.2.2.2.1) (↑(List.length b_5.2.2.2.2.2.2.2.2.2.1.2.2.2.2.1):Int))) ((0:Int),
 (0:Int),(0:Int),[],(0:Int)))))))+(1:Nat)≤(9223372036854775807:Nat))) (cnd (decide ((0:Int)≤Int.tmod (wr .i64 x.2.2.2.1) (↑(List.length
 b_5.2.2.2.2.2.2.2.2.2.1.2.2.2.2.1):Int))&&decide (Int.tmod (wr .i64 x.2.2.2.1) (↑(List.length b_5.2.2.2.2.2.2.2.2.2.1.2.2.2.2.1):Int) <
 (↑(List.length b_5.2.2.2.2.2.2.2.2.2.1.2.2.2.2.1):Int))) (some (b_5.1,b_5.2.1,b_5.2.2.1,b_5.2.2.2.1,b_5.2.2.2.2.1,b_5.2.2.2.2.2.1,
 b_5.2.2.2.2.2.2.1,b_5.2.2.2.2.2.2.2.1,b_5.2.2.2.2.2.2.2.2.1,(b_5.2.2.2.2.2.2.2.2.2.1.1,b_5.2.2.2.2.2.2.2.2.2.1.2.1,
 b_5.2.2.2.2.2.2.2.2.2.1.2.2.1,b_5.2.2.2.2.2.2.2.2.2.1.2.2.2.1,putL b_5.2.2.2.2.2.2.2.2.2.1.2.2.2.2.1 [(Prod.fst (List.getD
 b_5.2.2.2.2.2.2.2.2.2.1.2.2.2.2.1 (Int.toNat (Int.tmod (wr .i64 x.2.2.2.1) (↑(List.length b_5.2.2.2.2.2.2.2.2.2.1.2.2.2.2.1):Int))) ((0:Int),
 (0:Int),(0:Int),[],(0:Int))),Prod.fst (Prod.snd (List.getD b_5.2.2.2.2.2.2.2.2.2.1.2.2.2.2.1 (Int.toNat (Int.tmod (wr .i64 x.2.2.2.1)
 (↑(List.length b_5.2.2.2.2.2.2.2.2.2.1.2.2.2.2.1):Int))) ((0:Int),(0:Int),(0:Int),[],(0:Int)))),Prod.fst (Prod.snd (Prod.snd (List.getD
 b_5.2.2.2.2.2.2.2.2.2.1.2.2.2.2.1 (Int.toNat (Int.tmod (wr .i64 x.2.2.2.1) (↑(List.length b_5.2.2.2.2.2.2.2.2.2.1.2.2.2.2.1):Int))) ((0:Int),
 (0:Int),(0:Int),[],(0:Int))))),Prod.fst (Prod.snd (Prod.snd (Prod.snd (List.getD b_5.2.2.2.2.2.2.2.2.2.1.2.2.2.2.1 (Int.toNat (Int.tmod (wr .i64
 x.2.2.2.1) (↑(List.length b_5.2.2.2.2.2.2.2.2.2.1.2.2.2.2.1):Int))) ((0:Int),(0:Int),(0:Int),[],(0:Int))))))++[(120:UInt8)],Prod.snd
 (Prod.snd (Prod.snd (Prod.snd (List.getD b_5.2.2.2.2.2.2.2.2.2.1.2.2.2.2.1 (Int.toNat (Int.tmod (wr .i64 x.2.2.2.1) (↑(List.length
 b_5.2.2.2.2.2.2.2.2.2.1.2.2.2.2.1):Int))) ((0:Int),(0:Int),(0:Int),[],(0:Int)))))))] (Int.toNat (Int.tmod (wr .i64 x.2.2.2.1) (↑(List.length
 b_5.2.2.2.2.2.2.2.2.2.1.2.2.2.2.1):Int))),b_5.2.2.2.2.2.2.2.2.2.1.2.2.2.2.2),b_5.2.2.2.2.2.2.2.2.2.2)) none) none) none) (cnd (decide (Int.tmod
 x.2.2.2.2.1 (5:Int)=(1:Int))) (cnd (decide ((0:Int)≤Int.tmod (wr .i64 x.2.2.2.1) (↑(List.length b_5.2.2.2.2.2.2.2.2.2.1.2.2.2.2.1):Int)) &&
 decide (Int.tmod (wr .i64 x.2.2.2.1) (↑(List.length b_5.2.2.2.2.2.2.2.2.2.1.2.2.2.2.1):Int)<(↑(List.length b_5.2.2.2.2.2.2.2.2.2.1.2.2.2.2.1):
 Int))) (cnd (decide ((0:Int)≤Int.tmod (wr .i64 x.2.2.2.1) (↑(List.length b_5.2.2.2.2.2.2.2.2.2.1.2.2.2.2.1):Int))&&decide (Int.tmod (wr .i64
 x.2.2.2.1) (↑(List.length b_5.2.2.2.2.2.2.2.2.2.1.2.2.2.2.1):Int)<(↑(List.length b_5.2.2.2.2.2.2.2.2.2.1.2.2.2.2.1):Int))) (some (b_5.1,
 b_5.2.1,b_5.2.2.1,b_5.2.2.2.1,b_5.2.2.2.2.1,b_5.2.2.2.2.2.1,b_5.2.2.2.2.2.2.1,b_5.2.2.2.2.2.2.2.1,b_5.2.2.2.2.2.2.2.2.1,
 (b_5.2.2.2.2.2.2.2.2.2.1.1,b_5.2.2.2.2.2.2.2.2.2.1.2.1,b_5.2.2.2.2.2.2.2.2.2.1.2.2.1,b_5.2.2.2.2.2.2.2.2.2.1.2.2.2.1,putL
 b_5.2.2.2.2.2.2.2.2.2.1.2.2.2.2.1 [(Prod.fst (List.getD b_5.2.2.2.2.2.2.2.2.2.1.2.2.2.2.1 (Int.toNat (Int.tmod (wr .i64 x.2.2.2.1) (↑(List.length
 b_5.2.2.2.2.2.2.2.2.2.1.2.2.2.2.1):Int))) ((0:Int),(0:Int),(0:Int),[],(0:Int))),wr .i64 (Prod.fst (Prod.snd (List.getD
 b_5.2.2.2.2.2.2.2.2.2.1.2.2.2.2.1 (Int.toNat (Int.tmod (wr .i64 x.2.2.2.1) (↑(List.length b_5.2.2.2.2.2.2.2.2.2.1.2.2.2.2.1):Int))) ((0:Int),
 (0:Int),(0:Int),[],(0:Int))))+(1:Int)),Prod.snd (Prod.snd (List.getD b_5.2.2.2.2.2.2.2.2.2.1.2.2.2.2.1 (Int.toNat (Int.tmod (wr .i64
 x.2.2.2.1) (↑(List.length b_5.2.2.2.2.2.2.2.2.2.1.2.2.2.2.1):Int))) ((0:Int),(0:Int),(0:Int),[],(0:Int)))))] (Int.toNat (Int.tmod (wr .i64
 x.2.2.2.1) (↑(List.length b_5.2.2.2.2.2.2.2.2.2.1.2.2.2.2.1):Int))),b_5.2.2.2.2.2.2.2.2.2.1.2.2.2.2.2),b_5.2.2.2.2.2.2.2.2.2.2)) none) none)
 (cnd (decide (Int.tmod x.2.2.2.2.1 (5:Int)=(2:Int))) (cnd (decide (Option.getD none (0:Int)≤Int.tmod (wr .i64 x.2.2.2.1) (↑(List.length
 b_5.2.2.2.2.2.2.2.2.2.1.2.2.2.2.1):Int))) (cnd (decide ((↑(0:Nat):Int)+Int.tmod (wr .i64 x.2.2.2.1) (↑(List.length
 b_5.2.2.2.2.2.2.2.2.2.1.2.2.2.2.1):Int)≤(↑(List.length b_5.2.2.2.2.2.2.2.2.2.1.2.2.2.2.1):Int))) (cnd (decide ((0:Int)≤Option.getD (some (wr
 .i64 (Int.tmod (wr .i64 x.2.2.2.1) (↑(List.length b_5.2.2.2.2.2.2.2.2.2.1.2.2.2.2.1):Int)+(1:Int)))) (0:Int))) (cnd (decide (Option.getD (some
 (wr .i64 (Int.tmod (wr .i64 x.2.2.2.1) (↑(List.length b_5.2.2.2.2.2.2.2.2.2.1.2.2.2.2.1):Int)+(1:Int)))) (0:Int)≤(↑(List.length
 b_5.2.2.2.2.2.2.2.2.2.1.2.2.2.2.1):Int))) (cnd (decide (Prod.snd (Prod.snd (cutT (0:Nat) (List.length b_5.2.2.2.2.2.2.2.2.2.1.2.2.2.2.1)
 (List.length b_5.2.2.2.2.2.2.2.2.2.1.2.2.2.2.1) none (some (Int.tmod (wr .i64 x.2.2.2.1) (↑(List.length b_5.2.2.2.2.2.2.2.2.2.1.2.2.2.2.1):
 Int)))))-Prod.fst (Prod.snd (cutT (0:Nat) (List.length b_5.2.2.2.2.2.2.2.2.2.1.2.2.2.2.1) (List.length b_5.2.2.2.2.2.2.2.2.2.1.2.2.2.2.1) none
 (some (Int.tmod (wr .i64 x.2.2.2.1) (↑(List.length b_5.2.2.2.2.2.2.2.2.2.1.2.2.2.2.1):Int)))))+List.length (List.drop ((0:Nat)+Prod.fst
 (Prod.snd (cutT (0:Nat) (List.length b_5.2.2.2.2.2.2.2.2.2.1.2.2.2.2.1) (List.length b_5.2.2.2.2.2.2.2.2.2.1.2.2.2.2.1) (some (wr .i64 (Int.tmod (wr
 .i64 x.2.2.2.1) (↑(List.length b_5.2.2.2.2.2.2.2.2.2.1.2.2.2.2.1):Int)+(1:Int)))) none))) (List.take ((0:Nat)+Prod.fst (Prod.snd (cutT (0:Nat)
 (List.length b_5.2.2.2.2.2.2.2.2.2.1.2.2.2.2.1) (List.length b_5.2.2.2.2.2.2.2.2.2.1.2.2.2.2.1) (some (wr .i64 (Int.tmod (wr .i64 x.2.2.2.1)
 (↑(List.length b_5.2.2.2.2.2.2.2.2.2.1.2.2.2.2.1):Int)+(1:Int)))) none))+(Prod.snd (Prod.snd (cutT (0:Nat) (List.length
 b_5.2.2.2.2.2.2.2.2.2.1.2.2.2.2.1) (List.length b_5.2.2.2.2.2.2.2.2.2.1.2.2.2.2.1) (some (wr .i64 (Int.tmod (wr .i64 x.2.2.2.1) (↑(List.length
 b_5.2.2.2.2.2.2.2.2.2.1.2.2.2.2.1):Int)+(1:Int)))) none))-Prod.fst (Prod.snd (cutT (0:Nat) (List.length b_5.2.2.2.2.2.2.2.2.2.1.2.2.2.2.1)
 (List.length b_5.2.2.2.2.2.2.2.2.2.1.2.2.2.2.1) (some (wr .i64 (Int.tmod (wr .i64 x.2.2.2.1) (↑(List.length b_5.2.2.2.2.2.2.2.2.2.1.2.2.2.2.1):
 Int)+(1:Int)))) none)))) b_5.2.2.2.2.2.2.2.2.2.1.2.2.2.2.1))≤List.length b_5.2.2.2.2.2.2.2.2.2.1.2.2.2.2.1)) (some (b_5.1,b_5.2.1,b_5.2.2.1,
 b_5.2.2.2.1,b_5.2.2.2.2.1,b_5.2.2.2.2.2.1,b_5.2.2.2.2.2.2.1,b_5.2.2.2.2.2.2.2.1,b_5.2.2.2.2.2.2.2.2.1,(b_5.2.2.2.2.2.2.2.2.2.1.1,
 b_5.2.2.2.2.2.2.2.2.2.1.2.1,b_5.2.2.2.2.2.2.2.2.2.1.2.2.1,b_5.2.2.2.2.2.2.2.2.2.1.2.2.2.1,List.drop (0:Nat) (List.take ((0:Nat)+(Prod.snd
 (Prod.snd (cutT (0:Nat) (List.length b_5.2.2.2.2.2.2.2.2.2.1.2.2.2.2.1) (List.length b_5.2.2.2.2.2.2.2.2.2.1.2.2.2.2.1) none (some (Int.tmod (wr
 .i64 x.2.2.2.1) (↑(List.length b_5.2.2.2.2.2.2.2.2.2.1.2.2.2.2.1):Int)))))-Prod.fst (Prod.snd (cutT (0:Nat) (List.length
 b_5.2.2.2.2.2.2.2.2.2.1.2.2.2.2.1) (List.length b_5.2.2.2.2.2.2.2.2.2.1.2.2.2.2.1) none (some (Int.tmod (wr .i64 x.2.2.2.1) (↑(List.length
 b_5.2.2.2.2.2.2.2.2.2.1.2.2.2.2.1):Int)))))+List.length (List.drop ((0:Nat)+Prod.fst (Prod.snd (cutT (0:Nat) (List.length
 b_5.2.2.2.2.2.2.2.2.2.1.2.2.2.2.1) (List.length b_5.2.2.2.2.2.2.2.2.2.1.2.2.2.2.1) (some (wr .i64 (Int.tmod (wr .i64 x.2.2.2.1) (↑(List.length
 b_5.2.2.2.2.2.2.2.2.2.1.2.2.2.2.1):Int)+(1:Int)))) none))) (List.take ((0:Nat)+Prod.fst (Prod.snd (cutT (0:Nat) (List.length
 b_5.2.2.2.2.2.2.2.2.2.1.2.2.2.2.1) (List.length b_5.2.2.2.2.2.2.2.2.2.1.2.2.2.2.1) (some (wr .i64 (Int.tmod (wr .i64 x.2.2.2.1) (↑(List.length
 b_5.2.2.2.2.2.2.2.2.2.1.2.2.2.2.1):Int)+(1:Int)))) none))+(Prod.snd (Prod.snd (cutT (0:Nat) (List.length b_5.2.2.2.2.2.2.2.2.2.1.2.2.2.2.1)
 (List.length b_5.2.2.2.2.2.2.2.2.2.1.2.2.2.2.1) (some (wr .i64 (Int.tmod (wr .i64 x.2.2.2.1) (↑(List.length b_5.2.2.2.2.2.2.2.2.2.1.2.2.2.2.1):
 Int)+(1:Int)))) none))-Prod.fst (Prod.snd (cutT (0:Nat) (List.length b_5.2.2.2.2.2.2.2.2.2.1.2.2.2.2.1) (List.length
 b_5.2.2.2.2.2.2.2.2.2.1.2.2.2.2.1) (some (wr .i64 (Int.tmod (wr .i64 x.2.2.2.1) (↑(List.length b_5.2.2.2.2.2.2.2.2.2.1.2.2.2.2.1):Int) +
 (1:Int)))) none)))) b_5.2.2.2.2.2.2.2.2.2.1.2.2.2.2.1)))) (List.take (Prod.snd (Prod.snd (cutT (0:Nat) (List.length
 b_5.2.2.2.2.2.2.2.2.2.1.2.2.2.2.1) (List.length b_5.2.2.2.2.2.2.2.2.2.1.2.2.2.2.1) none (some (Int.tmod (wr .i64 x.2.2.2.1) (↑(List.length
 b_5.2.2.2.2.2.2.2.2.2.1.2.2.2.2.1):Int)))))-Prod.fst (Prod.snd (cutT (0:Nat) (List.length b_5.2.2.2.2.2.2.2.2.2.1.2.2.2.2.1) (List.length
 b_5.2.2.2.2.2.2.2.2.2.1.2.2.2.2.1) none (some (Int.tmod (wr .i64 x.2.2.2.1) (↑(List.length b_5.2.2.2.2.2.2.2.2.2.1.2.2.2.2.1):Int))))))
 b_5.2.2.2.2.2.2.2.2.2.1.2.2.2.2.1++(List.drop ((0:Nat)+Prod.fst (Prod.snd (cutT (0:Nat) (List.length b_5.2.2.2.2.2.2.2.2.2.1.2.2.2.2.1)
 (List.length b_5.2.2.2.2.2.2.2.2.2.1.2.2.2.2.1) (some (wr .i64 (Int.tmod (wr .i64 x.2.2.2.1) (↑(List.length b_5.2.2.2.2.2.2.2.2.2.1.2.2.2.2.1):
 Int)+(1:Int)))) none))) (List.take ((0:Nat)+Prod.fst (Prod.snd (cutT (0:Nat) (List.length b_5.2.2.2.2.2.2.2.2.2.1.2.2.2.2.1) (List.length
 b_5.2.2.2.2.2.2.2.2.2.1.2.2.2.2.1) (some (wr .i64 (Int.tmod (wr .i64 x.2.2.2.1) (↑(List.length b_5.2.2.2.2.2.2.2.2.2.1.2.2.2.2.1):Int) +
 (1:Int)))) none))+(Prod.snd (Prod.snd (cutT (0:Nat) (List.length b_5.2.2.2.2.2.2.2.2.2.1.2.2.2.2.1) (List.length
 b_5.2.2.2.2.2.2.2.2.2.1.2.2.2.2.1) (some (wr .i64 (Int.tmod (wr .i64 x.2.2.2.1) (↑(List.length b_5.2.2.2.2.2.2.2.2.2.1.2.2.2.2.1):Int) +
 (1:Int)))) none))-Prod.fst (Prod.snd (cutT (0:Nat) (List.length b_5.2.2.2.2.2.2.2.2.2.1.2.2.2.2.1) (List.length b_5.2.2.2.2.2.2.2.2.2.1.2.2.2.2.1)
 (some (wr .i64 (Int.tmod (wr .i64 x.2.2.2.1) (↑(List.length b_5.2.2.2.2.2.2.2.2.2.1.2.2.2.2.1):Int)+(1:Int)))) none))))
 b_5.2.2.2.2.2.2.2.2.2.1.2.2.2.2.1)++List.drop (Prod.snd (Prod.snd (cutT (0:Nat) (List.length b_5.2.2.2.2.2.2.2.2.2.1.2.2.2.2.1) (List.length
 b_5.2.2.2.2.2.2.2.2.2.1.2.2.2.2.1) none (some (Int.tmod (wr .i64 x.2.2.2.1) (↑(List.length b_5.2.2.2.2.2.2.2.2.2.1.2.2.2.2.1):Int)))))-Prod.fst
 (Prod.snd (cutT (0:Nat) (List.length b_5.2.2.2.2.2.2.2.2.2.1.2.2.2.2.1) (List.length b_5.2.2.2.2.2.2.2.2.2.1.2.2.2.2.1) none (some (Int.tmod (wr
 .i64 x.2.2.2.1) (↑(List.length b_5.2.2.2.2.2.2.2.2.2.1.2.2.2.2.1):Int)))))+List.length (List.drop ((0:Nat)+Prod.fst (Prod.snd (cutT (0:Nat)
 (List.length b_5.2.2.2.2.2.2.2.2.2.1.2.2.2.2.1) (List.length b_5.2.2.2.2.2.2.2.2.2.1.2.2.2.2.1) (some (wr .i64 (Int.tmod (wr .i64 x.2.2.2.1)
 (↑(List.length b_5.2.2.2.2.2.2.2.2.2.1.2.2.2.2.1):Int)+(1:Int)))) none))) (List.take ((0:Nat)+Prod.fst (Prod.snd (cutT (0:Nat) (List.length
 b_5.2.2.2.2.2.2.2.2.2.1.2.2.2.2.1) (List.length b_5.2.2.2.2.2.2.2.2.2.1.2.2.2.2.1) (some (wr .i64 (Int.tmod (wr .i64 x.2.2.2.1) (↑(List.length
 b_5.2.2.2.2.2.2.2.2.2.1.2.2.2.2.1):Int)+(1:Int)))) none))+(Prod.snd (Prod.snd (cutT (0:Nat) (List.length b_5.2.2.2.2.2.2.2.2.2.1.2.2.2.2.1)
 (List.length b_5.2.2.2.2.2.2.2.2.2.1.2.2.2.2.1) (some (wr .i64 (Int.tmod (wr .i64 x.2.2.2.1) (↑(List.length b_5.2.2.2.2.2.2.2.2.2.1.2.2.2.2.1):
 Int)+(1:Int)))) none))-Prod.fst (Prod.snd (cutT (0:Nat) (List.length b_5.2.2.2.2.2.2.2.2.2.1.2.2.2.2.1) (List.length
 b_5.2.2.2.2.2.2.2.2.2.1.2.2.2.2.1) (some (wr .i64 (Int.tmod (wr .i64 x.2.2.2.1) (↑(List.length b_5.2.2.2.2.2.2.2.2.2.1.2.2.2.2.1):Int) +
 (1:Int)))) none)))) b_5.2.2.2.2.2.2.2.2.2.1.2.2.2.2.1))) b_5.2.2.2.2.2.2.2.2.2.1.2.2.2.2.1))),b_5.2.2.2.2.2.2.2.2.2.1.2.2.2.2.2),
 b_5.2.2.2.2.2.2.2.2.2.2)) none) none) none) none) none) (cnd (decide (Int.tmod x.2.2.2.2.1 (5:Int)=(3:Int))) (some (b_5.1,b_5.2.1,b_5.2.2.1,
 b_5.2.2.2.1,b_5.2.2.2.2.1,b_5.2.2.2.2.2.1,b_5.2.2.2.2.2.2.1,b_5.2.2.2.2.2.2.2.1,b_5.2.2.2.2.2.2.2.2.1,(wr .i64 (b_5.2.2.2.2.2.2.2.2.2.1.1 +
 (1:Int)),b_5.2.2.2.2.2.2.2.2.2.1.2),b_5.2.2.2.2.2.2.2.2.2.2)) (cnd (decide ((0:Int)≤Int.tmod (wr .i64 x.2.2.2.1) (↑(List.length
 b_5.2.2.2.2.2.2.2.2.2.1.2.2.2.2.1):Int))&&decide (Int.tmod (wr .i64 x.2.2.2.1) (↑(List.length b_5.2.2.2.2.2.2.2.2.2.1.2.2.2.2.1):Int) <
 (↑(List.length b_5.2.2.2.2.2.2.2.2.2.1.2.2.2.2.1):Int))) (cnd (decide ((0:Int)≤Int.tmod (wr .i64 x.2.2.2.1) (↑(List.length
 b_5.2.2.2.2.2.2.2.2.2.1.2.2.2.2.1):Int))&&decide (Int.tmod (wr .i64 x.2.2.2.1) (↑(List.length b_5.2.2.2.2.2.2.2.2.2.1.2.2.2.2.1):Int) <
 (↑(List.length b_5.2.2.2.2.2.2.2.2.2.1.2.2.2.2.1):Int))) (some (b_5.1,b_5.2.1,b_5.2.2.1,b_5.2.2.2.1,b_5.2.2.2.2.1,b_5.2.2.2.2.2.1,
 b_5.2.2.2.2.2.2.1,b_5.2.2.2.2.2.2.2.1,b_5.2.2.2.2.2.2.2.2.1,(b_5.2.2.2.2.2.2.2.2.2.1.1,b_5.2.2.2.2.2.2.2.2.2.1.2.1,
 b_5.2.2.2.2.2.2.2.2.2.1.2.2.1,b_5.2.2.2.2.2.2.2.2.2.1.2.2.2.1,putL b_5.2.2.2.2.2.2.2.2.2.1.2.2.2.2.1 [(wr .i64 ((3:Int)-Prod.fst (List.getD
 b_5.2.2.2.2.2.2.2.2.2.1.2.2.2.2.1 (Int.toNat (Int.tmod (wr .i64 x.2.2.2.1) (↑(List.length b_5.2.2.2.2.2.2.2.2.2.1.2.2.2.2.1):Int))) ((0:Int),
 (0:Int),(0:Int),[],(0:Int)))),Prod.snd (List.getD b_5.2.2.2.2.2.2.2.2.2.1.2.2.2.2.1 (Int.toNat (Int.tmod (wr .i64 x.2.2.2.1) (↑(List.length
 b_5.2.2.2.2.2.2.2.2.2.1.2.2.2.2.1):Int))) ((0:Int),(0:Int),(0:Int),[],(0:Int))))] (Int.toNat (Int.tmod (wr .i64 x.2.2.2.1) (↑(List.length
 b_5.2.2.2.2.2.2.2.2.2.1.2.2.2.2.1):Int))),b_5.2.2.2.2.2.2.2.2.2.1.2.2.2.2.2),b_5.2.2.2.2.2.2.2.2.2.2)) none) none))))) none) (some b_5)) fun(b
 : (List A0_×A1_)×List (Int×List UInt8×Bool)×List (List UInt8)×A5_×List A0_×A0_)=>cnd (decide ((0:Int) ≤
 Int.tmod x.2.2.1 (8:Int))&&decide (Int.tmod x.2.2.1 (8:Int)<(↑(List.length b.2.2.2.2.1):Int))) (obind (cnd (decide ((0:Int)<(↑(List.length
 b.1.2.2.1):Int))) (cnd (decide ((0:Int)≤wr .i64 ((↑(List.length b.1.2.2.1):Int)-(1:Int)))&&decide (wr .i64 ((↑(List.length b.1.2.2.1):
 Int)-(1:Int))≤(↑(List.length b.1.2.2.1):Int))) (some (b.1,(putL b.2.2.2.2.1 [b.2.2.2.2.2] (Int.toNat (Int.tmod x.2.2.1 (8:Int))),b.2.1,
 b.2.2.1,b.2.2.2.1),b.1.1,b.1.2.1,List.drop (0:Nat) (List.take (Int.toNat (wr .i64 ((↑(List.length b.1.2.2.1):Int)-(1:Int)))) b.1.2.2.1),
 b.1.2.2.2)) none) (some (b.1,(putL b.2.2.2.2.1 [b.2.2.2.2.2] (Int.toNat (Int.tmod x.2.2.1 (8:Int))),b.2.1,b.2.2.1,b.2.2.2.1),b.1))) fun(b:
 (List A0_×A1_)×(List A0_×A1_)×List A0_×A1_)=>obind (obind (obind (w_r b.1) fun b_6=>
 obind (w_4 b.1) fun b_7=>cnd (!b_6==b_7) (some (true,b.1)) (obind (w_s b.1) fun b_8=>obind (w_5 b.1) fun b_9
 => cnd (!b_8==b_9) (some (true,b.1)) (obind (w_v b.1) fun b_10=>obind (w_aa b.1) fun b_11=>obind (w_t
 (b_10,b_11)) fun b_12=>some (!b_12,b.1)))) fun(b:Bool×List A0_×A1_)=>cnd
 b.1 (some (Sum.inr false)) (some (Sum.inl b.2))) fun(b_6:List A0_×List (Int×List UInt8×Bool)×List (List UInt8)×Int×List (List Int)×List (List (List Int×Int))⊕Bool)
 => selim (fun(b_7:List A0_×A1_)=>obind (obind (obind (w_r b.2.1) fun b_8
 => obind (w_4 b.2.1) fun b_9=>cnd (!b_8==b_9) (some (true,b_7)) (obind (w_s b.2.1) fun b_10=>obind (w_5
 b.2.1) fun b_11=>cnd (!b_10==b_11) (some (true,b_7)) (obind (w_v b.2.1) fun b_12=>obind (w_aa b.2.1) fun b=>obind
 (w_t (b_12,b)) fun b=>some (!b,b_7)))) fun(b:Bool×List A0_×A1_)
 => cnd b.1 (some (Sum.inr false)) (some (Sum.inl b.2))) fun(b_8:List A0_×List (Int×List UInt8×Bool)×List (List UInt8)×Int×List (List Int)×List (List (List Int×Int)) ⊕
 Bool)=>selim (fun(b_9:List A0_×A1_)=>obind (obind (obind (w_r b.2.2)
 fun b_10=>obind (w_4 b.2.2) fun b_11=>cnd (!b_10==b_11) (some (true,b_9)) (obind (w_s b.2.2) fun b_12=>obind
 (w_5 b.2.2) fun b_13=>cnd (!b_12==b_13) (some (true,b_9)) (obind (w_v b.2.2) fun b_14=>obind (w_aa b.2.2)
 fun b=>obind (w_t (b_14,b)) fun b=>some (!b,b_9)))) fun(b:Bool×List A0_×A1_)=>cnd b.1 (some (Sum.inr false)) (some (Sum.inl b.2))) fun(b:List A0_×List (Int×List UInt8×Bool)×List (List UInt8)×Int×List (List Int)×List (List (List Int×Int))⊕Bool)=>selim (fun(b:List A0_×A1_)=>obind (loopN N (fun(v:Int×List A0_×A1_)=>cnd (decide (v.1<(10:Int))) (obind (cnd (decide (v.1<(0:Int)))
 (some (x.2.2.2.2.2,v.2)) (some v)) fun(b:Int×List A0_×A1_)=>obind
 (w_M (b.2,b.1)) fun b_10=>obind (w_aF (b.2,b.1)) fun b_11=>obind (w_aw (b_10,b_11)) fun b_12=>cnd
 (!b_12) (some (Sum.inr (Sum.inr false))) (some (Sum.inl (wr .i64 (v.1+(1:Int)),b.2)))) (some (Sum.inr (Sum.inl ())))) ((-1:Int),b)) fun(b:
 PUnit⊕Bool)=>selim (fun(b:PUnit)=>some true) (fun(c:Bool)=>some c) b) (fun(c:Bool)=>some c) b) (fun(c:Bool)=>some c) b_8)
 (fun(c:Bool)=>some c) b_6) none) none) none)))
theorem q_bd:∀w_a9 w_X w_az w_aq w_r w_4 w_s w_5 w_v w_aa w_t w_M w_aF w_aw N x,u_bd.F L0 P0 (orcOf [u_a9.con w_a9,u_X.con w_X,u_az.con w_az,u_aq.con w_aq,u_r.con w_r,u_4.con w_4,u_s.con w_s,u_5.con w_5,u_v.con w_v,u_aa.con w_aa,u_t.con w_t,u_M.con w_M,u_aF.con w_aF,u_aw.con w_aw]) N x=V_bd w_a9 w_X w_az w_aq w_r w_4 w_s w_5 w_v w_aa w_t w_M w_aF w_aw N x:=by intros;kernel_rfl
noncomputable def W_bd (N:Nat):=V_bd (W_a9 N) (W_X N) (W_az N) (W_aq N) (W_r N) (W_4 N) (W_s N) (W_5 N) (W_v N) (W_aa N) (W_t N) (W_M N) (W_aF N) (W_aw N) N
theorem con_bd_ok (N:Nat):(u_bd.con (W_bd N)).ok P0:=Uf.ok mixed (q_bd (W_a9 N) (W_X N) (W_az N) (W_aq N) (W_r N) (W_4 N) (W_s N) (W_5 N) (W_v N) (W_aa N) (W_t N) (W_M N) (W_aF N) (W_aw N) N) ⟨con_a9_ok N,con_X_ok N,con_az_ok N,con_aq_ok N,con_r_ok N,con_4_ok N,con_s_ok N,con_5_ok N,con_v_ok N,con_aa_ok N,con_t_ok N,con_M_ok N,con_aF_ok N,con_aw_ok N,trivial⟩ Tryz.func4 (by kernel_rfl) fun x y=>by kernel_rfl
end
end Go.Proofs.YtigfokfefnomjaaGreat.truthAllX
