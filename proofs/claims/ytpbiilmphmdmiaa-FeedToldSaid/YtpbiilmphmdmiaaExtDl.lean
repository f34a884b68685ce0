/- slices.Delete: one element taken out of a row that is handed over. -/
import Derived.Test.YtpbiilmphmdmiaaExtL
import Derived.ArgAppend
import Derived.Laws.IdiomCopy
namespace Go.Abs
open Go.RowKit
set_option linter.unusedVariables false
set_option linter.unusedSimpArgs false
def DelF (P:Program) (f sz:Nat):Prop:=
 ∀(w:World) (b i n c:Nat) (arr:Array Value) (tb:Nat) (fz:Nat×Nat),w.heap[b]? = some (.cells arr tb fz)→arr.size=c*sz→(∀j,j<arr.size→¬(fz.1≤j∧j<fz.2))→
  (∀u∈arr.toList.take (n*sz),u.oneCell'=true)→i<n→n≤c→n≤140737488355328→
  Calls P f #[.slice (some ⟨b,0,none⟩) n c,.int .i64 (i:Nat),.int .i64 ((i:Int)+1)] w fun x w'=>x=.returned (.slice (some ⟨b,0,none⟩) (n-1) c)∧w'.os=w.os∧w'.tape=w.tape∧w'.output=w.output∧
   ∃A,w'.heap[b]? = some (.cells A tb fz)∧A.size=arr.size∧A.toList.take ((n-1)*sz)=arr.toList.take (i*sz)++(arr.toList.take (n*sz)).drop ((i+1)*sz)∧w'.heap.size=w.heap.size∧∀j,j≠b→w'.heap[j]? = w.heap[j]?
theorem del_flat {e:Ty} (l:List e.I) (i:Nat):(l.take i++l.drop (i+1)).flatMap (cellsV e)=(l.flatMap (cellsV e)).take (i*e.size)++(l.flatMap (cellsV e)).drop ((i+1)*e.size):=by
 rw[List.flatMap_append,flat_take,flat_drop]
def delChk (P:Program) (e sz:Nat):Bool:=match P.info? e with
 | some i=>match i.zero with
  | some z=>Nat.beq i.size sz&&Nat.beq z.cells.size sz&&z.cells.toList.all Value.oneCell'
  | none=>false
 | none=>false
theorem delE_of {P:Program} {e sz:Nat} (h:delChk P e sz=true):∃(inf:TypeInfo) (z:Value),P.info? e=some inf∧inf.size=sz∧inf.zero=some z∧z.cells.size=sz∧(∀u∈z.cells.toList,u.oneCell'=true):=by
 unfold delChk at h
 split at h
 ·rename_i i hi
  split at h
  ·rename_i z hz
   simp only[Bool.and_eq_true] at h
   exact⟨i,z,hi,Nat.eq_of_beq_eq_true h.1.1,hz,Nat.eq_of_beq_eq_true h.1.2,List.all_eq_true.1 h.2⟩
  ·cases h
 ·cases h
theorem run_appendR {P:Program} {t e:TypeId} {i:TypeInfo} (ht:P.underlying t=some (.slice e)) (hi:P.info? e=some i) (W:World) {b tb:Nat} {fz:Nat×Nat} {arr:Array Value} (hmem:W.heap[b]? = some (.cells arr tb fz))
  (hf:∀j,j<arr.size→¬(fz.1≤j∧j<fz.2)) (n c:Nat) (ty:TypeId) (a:Addr) (m c':Nat) (xs:List Value) (hl:xs.length=m*i.size) (hx:∀j u,xs[j]? = some u→W.cell? (a.add j)=some u) (h1:∀u∈xs,u.oneCell'=true)
  (hroom:n+m≤c) (hsize:arr.size=c*i.size):
  (Builtin.append_ #[t,t] ty #[.slice (some ⟨b,0,none⟩) n c,.slice (some a) m c']).run P W=.ok (.slice (some ⟨b,0,none⟩) (n+m) c) (W.setRow b (arr.toList.take (n*i.size)++(xs++arr.toList.drop (n*i.size+xs.length))).toArray):=by
 have hfc:=run_firstCells_some (P:=P) W i.size m a m c' xs hl hx
 have hfit:n*i.size+m*i.size≤arr.size:=by rw[hsize,←Nat.add_mul];exact Nat.mul_le_mul_right _ hroom
 have hst:=run_storeCells_fz P b (n*i.size) tb fz xs 0 arr W hmem hf (by omega) h1
 simp only[Nat.add_zero,List.append_assoc] at hst
 have hadd:(⟨b,0,none⟩:Addr).add (n*i.size)=⟨b,n*i.size,none⟩:=by unfold Addr.add;split<;>simp_all
 simp[Builtin.append_,run_underlying ht,sizeOf,typeInfo,hi,Builtin.lenOf,hroom,hfc,hadd,hst]
theorem run_clearR {P:Program} {t e:TypeId} {i:TypeInfo} {z:Value} (ht:P.underlying t=some (.slice e)) (hi:P.info? e=some i) (hz:i.zero=some z) (W:World) {b tb:Nat} {fz:Nat×Nat} {arr:Array Value} (hmem:W.heap[b]? = some (.cells arr tb fz))
  (hf:∀j,j<arr.size→¬(fz.1≤j∧j<fz.2)) (q c:Nat) (ty:TypeId) (h1:∀u∈z.cells.toList,u.oneCell'=true) (hfit:q+z.cells.toList.length≤arr.size):
  (Builtin.clear_ #[t] ty #[.slice (some ⟨b,q,none⟩) 1 c]).run P W=.ok (.tuple #[]) (W.setRow b (arr.toList.take q++(z.cells.toList++arr.toList.drop (q+z.cells.toList.length))).toArray):=by
 have hzv:(zeroValue e).run P W=.ok z W:=by simp[zeroValue,typeInfo,hi,hz]
 have hzc:(Builtin.zeroCells z.cells 1).toList=z.cells.toList:=by
  rw[zeroCells_made]
  simp only[Nat.one_mul]
  apply List.ext_getElem?
  intro j
  by_cases h:j<z.cells.size
  ·simp[madeCells,h,Nat.mod_eq_of_lt h]
  ·simp[madeCells,h]
 have hst:=run_storeCells_fz P b q tb fz z.cells.toList 0 arr W hmem hf (by omega) h1
 simp only[Nat.add_zero,List.append_assoc] at hst
 simp[Builtin.clear_,run_underlying ht,hzv,hzc,hst]
theorem wp_append_runR {P:Program} (w:World) {o:Oper} {a:Act} {K:Act→World→Prop} {Q:Exit→Act→World→Prop} (d s:Operand) (t t':TypeId)
  (ho:o.op=.call { callee:=.builtin .append,args:=#[d,s],argTypes:=#[t,t'] }) (v u:Value) (hd:a.eval d=v) (hs:a.eval s=u) {v':Value} {w':World}
  (hr:(Builtin.append_ #[t,t'] o.type #[v,u]).run P w=.ok v' w') (h:K (a.put o.dst v') w'):o.wp P a w K Q:=by
 unfold Oper.wp execOp
 simp only[ho,resolve,invoke,builtin,Sem.run_bind,Sem.run_pure,Result.andThen_ok,List.map_toArray,List.map_cons,List.map_nil,hd,hs,hr]
 exact h
theorem step_append_runR {P:Program} {ops:Array Oper} {o:Oper} {a:Act} {w:World} {K:Act→World→Prop} {Q:Exit→Act→World→Prop} {E:Prop}
  (hg:o.guard=none) (d x:Operand) (dT sT:TypeId) (hop:o.op=Op.call { callee:=Callee.builtin Builtin.append,args:=#[d,x],argTypes:=#[dT,sT] })
  (v u:Value) (hd:a.eval d=v) (hx:a.eval x=u) {v':Value} {w':World} (hr:(Builtin.append_ #[dT,sT] o.type #[v,u]).run P w=.ok v' w') (hK:K (a.put o.dst v') w'):
  if Region.wanted o (yielded ops a.tmps)=true then Oper.wp P o a w K Q else E:=by
 have hw:Region.wanted o (yielded ops a.tmps)=true:=by simp[Region.wanted,hg]
 rw[if_pos hw]
 exact wp_append_runR w d x dT sT hop v u hd hx hr hK
theorem del_spec2 {P:Program} {f:FuncId} {e:Ty} (hF:DelF P f e.size) (hfl:e.flatT=true) (h0:0<e.size) {ty:Nat} {nl nl':Bool} {l:List e.I} {i:Int} (hi0:0≤i) (hi:i<l.length) (hl:l.length≤140737488355328) (hnl:nl'=true→2≤l.length):
  Spec2 P f [.acc 1000000 0,.int .i64 i,.int .i64 (i+1)] [.nrow ty false nl ⟨e,l⟩] (.acc 2000000 0) [.dead] [.nrow ty false nl' ⟨e,l.take i.toNat++l.drop (i.toNat+1)⟩]:=by
 intro w cargs β S htr hargs
 obtain⟨ca⟩:=cargs
 obtain⟨v0,l1,rfl,r0,hargs⟩:=LR.head (vs:=ca) hargs
 obtain⟨v1,l2,rfl,r1,hargs⟩:=LR.head hargs
 obtain⟨v2,l3,rfl,r2,hargs⟩:=LR.head hargs
 have:l3=[]:=List.eq_nil_of_length_eq_zero hargs.1.symm
 subst this
 have:=r1.int_;subst this
 have:=r2.int_;subst this
 obtain⟨k,rfl⟩:∃k:Nat,i=k:=⟨i.toNat,by omega⟩
 simp only[Int.toNat_natCast]
 have hT:(tabU [.nrow ty false nl ⟨e,l⟩] []).get 1000000=⟨0,.nrow ty false nl ⟨e,l⟩⟩:=by rw[get_tabU];rfl
 have hnn:¬(nl=true∧l=[]):=fun h=>by rw[h.2] at hi;simp at hi;omega
 have hlive:(tabU [.nrow ty false nl ⟨e,l⟩] []).live 1000000:=by simp only[Tab.live,hT];exact hnn
 have hown:Own w (β 1000000) e.size 0 l.length v0:=by
  cases r0 with
  | pure h=>cases h
  | acc hv hg h=>exact(h ty false nl ⟨e,l⟩ hT).resolve_left (fun q=>hnn ⟨q.1,q.2.1⟩) |>.2
 obtain⟨ad,c,cap,arr,tb,fz,rfl,hbk,hmem,has,hn,hcap,hpl⟩:=hown
 have hc0:c=cap:=by omega
 subst hc0
 have:=hpl (by omega);subst this
 have hob:=htr.ob 1000000
 rw[hT] at hob
 obtain⟨arr',fz',cap',b1,b2,b3,b4,b5,b6⟩:=hob.resolve_left hnn
 rw[hmem] at b1
 injection b1 with b1;injection b1 with q1 q2 q3;subst q1 q2 q3
 have hz:(0:Nat)*e.size=0:=Nat.zero_mul _
 simp only[hz]
 have hcl:(⟨e,l⟩:TL).cells.length=l.length*e.size:=TL.cells_length _
 have hcr:∀(j:Nat) (d:V) (u:Value),(l.flatMap (cellsV e))[j]? = some d→arr.toList[j]? = some u→d∈l.flatMap (cellsV e)∧Rp (Stable S (tabU [.nrow tb false nl ⟨e,l⟩] []) β w) w d u:=by
  intro j d u hd hu
  have hm:=List.mem_of_getElem? hd
  obtain⟨x,_,hx⟩:=List.mem_flatMap.1 hm
  exact⟨hm,(b6 j d u hd hu).pure_ (pure_cellsV _ _ _ hx)⟩
 have hone:∀u∈arr.toList.take (l.length*e.size),u.oneCell'=true:=by
  intro u hu
  obtain⟨j,hj⟩:=List.mem_iff_getElem?.1 hu
  rw[List.getElem?_take] at hj
  split at hj
  case isFalse=>cases hj
  rename_i hjl
  have hjl':j<(l.flatMap (cellsV e)).length:=by have:=hcl;unfold TL.cells at this;simp only at this;omega
  obtain⟨hm,hp⟩:=hcr j _ u (List.getElem?_eq_getElem hjl') hj
  obtain⟨x,_,hx⟩:=List.mem_flatMap.1 hm
  exact(leaf_one (leaf_cellsV _ _ _ hx) hp).2
 refine(hF w (β 1000000) k l.length c arr _ fz hmem has (fun j hj=>b2 j (.inl hj)) hone (by omega) (by omega) hl).mono fun x w'=>?_
 rintro⟨rfl,k1,k2,k3,A,k4,k5,k6,k7,k8⟩
 obtain⟨T',hT'⟩:∃T',T'=tabU [.dead] [.nrow tb false nl' ⟨e,l.take k++l.drop (k+1)⟩]:=⟨_,rfl⟩
 have hg2:T'.get 2000000=⟨0,.nrow tb false nl' ⟨e,l.take k++l.drop (k+1)⟩⟩:=by rw[hT',get_tabU];rfl
 have hgo:∀t,t≠2000000→(T'.get t).k=.dead:=by
  intro t ht
  rw[hT',get_tabU]
  by_cases h1:1000000≤t
  ·rw[if_pos h1]
   by_cases h2:t=1000000
   ·subst h2;rfl
   ·rw[List.getElem?_eq_none (by simp only[List.length_singleton];omega)]
    by_cases h3:2000000≤t
    ·rw[if_pos h3,List.getElem?_eq_none (by simp only[List.length_singleton];omega)]
    ·rw[if_neg h3]
  ·rw[if_neg h1,if_neg (by omega)]
 have hlv:∀t,T'.live t→t=2000000:=fun t ht=>by
  by_cases h:t=2000000
  ·exact h
  ·simp only[Tab.live,hgo t h,OK.live] at ht
 have hlen:(l.take k++l.drop (k+1)).length=l.length-1:=by simp only[List.length_append,List.length_take,List.length_drop];omega
 have hsz1:(l.length-1)*e.size≤c*e.size:=Nat.mul_le_mul_right _ (by omega)
 rw[←hT']
 refine⟨_,fun _=>β 1000000,rfl,⟨k1,k2,k3,by omega,fun j hj hx=>k8 j (fun q=>hx ⟨1000000,hlive,q.symm⟩),fun j hj=>?_⟩,⟨fun t=>?_,fun t u ht hu _=>(hlv t ht).trans (hlv u hu).symm,fun t ht=>?_⟩,?_,rfl,fun j hj hlv'=>?_,fun j hj hlv'=>.inr ⟨0,rfl,hlive,rfl⟩⟩
 ·by_cases hj:j=β 1000000
  ·subst hj;exact Shape.of hmem k4 k5
  ·exact Shape.same (k8 j hj)
 ·by_cases ht:t=2000000
  ·subst ht
   rw[hg2]
   refine .inr ⟨A,fz,c,k4,fun j hj=>b2 j (by rw[k5] at hj;exact hj),by rw[k5];exact has,h0,?_,fun j d u hd hu=>?_⟩
   ·rw[TL.cells_length,k5,has];simp only[hlen];exact hsz1
   ·have hjl:j<(l.length-1)*e.size:=by
     have:=(List.getElem?_eq_some_iff.1 hd).1
     rw[TL.cells_length] at this
     simp only[hlen] at this
     exact this
    have hd':((l.flatMap (cellsV e)).take (k*e.size)++(l.flatMap (cellsV e)).drop ((k+1)*e.size))[j]? = some d:=by rw[←del_flat];exact hd
    have hu':(arr.toList.take (k*e.size)++(arr.toList.take (l.length*e.size)).drop ((k+1)*e.size))[j]? = some u:=by rw[←k6,List.getElem?_take,if_pos hjl];exact hu
    have hcl':(l.flatMap (cellsV e)).length=l.length*e.size:=hcl
    have hkl:k*e.size≤l.length*e.size:=Nat.mul_le_mul_right _ (by omega)
    have hsl:arr.toList.length=arr.size:=Array.length_toList
    have hll:l.length*e.size≤arr.toList.length:=by rw[hsl,has];exact Nat.mul_le_mul_right _ (by omega)
    have key:∃j':Nat,(l.flatMap (cellsV e))[j']? = some d∧arr.toList[j']? = some u:=by
     rw[List.getElem?_append] at hd' hu'
     have e1:((l.flatMap (cellsV e)).take (k*e.size)).length=k*e.size:=by rw[List.length_take,hcl'];omega
     have e2:(arr.toList.take (k*e.size)).length=k*e.size:=by rw[List.length_take];omega
     rw[e1] at hd'
     rw[e2] at hu'
     by_cases h1:j<k*e.size
     ·rw[if_pos h1,List.getElem?_take,if_pos h1] at hd' hu'
      exact⟨j,hd',hu'⟩
     ·rw[if_neg h1,List.getElem?_drop] at hd' hu'
      rw[List.getElem?_take] at hu'
      split at hu'
      case isFalse=>cases hu'
      exact⟨_,hd',hu'⟩
    obtain⟨j',g1,g2⟩:=key
    obtain⟨hm,hp⟩:=hcr j' d u g1 g2
    obtain⟨x,_,hx⟩:=List.mem_flatMap.1 hm
    exact .pure (flat_rp hp (flat_cellsV _ _ _ hfl hx))
  ·rw[hgo t ht];trivial
 ·rw[k7];exact htr.lt 1000000 hlive
 ·refine .acc ⟨_,_,_,rfl⟩ (by rw[hg2];exact Nat.le_refl _) fun ty' fz' nl'' L' q=>?_
  rw[hg2] at q
  injection q with _ q
  injection q with q1 q2 q3 q4
  subst q1 q2 q3 q4
  refine .inr ⟨fun q=>by have h1:=hnl q.1;have h2:=congrArg List.length q.2;rw[hlen] at h2;simp at h2;omega,⟨⟨β 1000000,0,none⟩,c,c,A,tb,fz,congrArg (fun n=>Value.slice (some ⟨β 1000000,0,none⟩) n c) hlen.symm,rfl,k4,by rw[k5];exact has,?_,by omega,fun _=>by rw[Nat.zero_mul]⟩⟩
  simp only[hlen];omega
 ·have:j=0:=by simp at hj;omega
  subst this
  have:=hlv _ hlv'
  omega
theorem del_con2 {P:Program} {f:FuncId} {e:Ty} (hF:DelF P f e.size) (hfl:e.flatT=true) (h0:0<e.size) {ty:Nat} {nl:Bool} {l r:List e.I} {i j:Int}
  (h:cnd (decide (0≤i)&&decide (i<l.length)&&decide (j=i+1)&&decide (l.length≤140737488355328)&&decide (2≤l.length)) (some (l.take i.toNat++l.drop (i.toNat+1))) none=some r):
  Spec2 P f [.acc 1000000 0,.int .i64 i,.int .i64 j] [.nrow ty false nl ⟨e,l⟩] (.acc 2000000 0) [.dead] [.nrow ty false true ⟨e,r⟩]:=by
 cases hc:(decide (0≤i)&&decide (i<l.length)&&decide (j=i+1)&&decide (l.length≤140737488355328)&&decide (2≤l.length)) with
 | false=>rw[hc] at h;cases h
 | true=>
  rw[hc] at h
  injection h with h;subst h
  simp only[Bool.and_eq_true,decide_eq_true_eq] at hc
  obtain⟨⟨⟨⟨h1,h2⟩,h3⟩,h4⟩,h5⟩:=hc
  subst h3
  exact del_spec2 hF hfl h0 h1 h2 h4 (fun _=>h5)
end Go.Abs
