/- slices.Sort on ints: a row that is lent. -/
import Derived.Test.YtpohfnebmmjpdaaExtL
import Derived.Sort.Grow
namespace Go.Abs
open Go.RowKit
set_option linter.unusedVariables false
set_option linter.unusedSimpArgs false
def SoF (P:Program) (f:Nat):Prop:=
 ∀(blk off cap:Nat) (zs:List Int) (w:World),Go.Sort.Holds (Value.int .i64) w blk off zs.toArray→blk<w.heap.size→zs.length<4611686018427387904→
  Calls P f #[.slice (some ⟨blk,off,none⟩) zs.length cap] w fun e w'=>
   e=.returned (.tuple #[])∧∃n os,w'=Go.Sort.grow (Go.Sort.putRow (Value.int .i64) (Go.Sort.ahead w n) blk off (zs.mergeSort fun x y=>decide (x≤y)).toArray) os
theorem cells_int (l:List Int):l.flatMap (cellsV (.int .i64))=l.map (V.int .i64):=by
 induction l with
 | nil=>rfl
 | cons a l ih=>rw[List.flatMap_cons,ih];rfl
theorem so_spec2 {P:Program} {f:FuncId} (hF:SoF P f) {ty:Nat} {nl nl':Bool} {l:List Int} (h1:0<l.length) (hl:l.length≤140737488355328):
  Spec2 P f [.acc 1000000 0] [.nrow ty false nl ⟨.int .i64,l⟩] (.tup []) [.nrow ty false nl' ⟨.int .i64,l.mergeSort fun x y=>decide (x≤y)⟩] []:=by
 intro w cargs β S htr hargs
 obtain⟨ca⟩:=cargs
 obtain⟨v0,l1,rfl,r0,hargs⟩:=LR.head (vs:=ca) hargs
 have:l1=[]:=List.eq_nil_of_length_eq_zero hargs.1.symm
 subst this
 have hT:(tabU [.nrow ty false nl ⟨.int .i64,l⟩] []).get 1000000=⟨0,.nrow ty false nl ⟨.int .i64,l⟩⟩:=by rw[get_tabU];rfl
 have hnn:¬(nl=true∧l=[]):=fun h=>by rw[h.2] at h1;simp at h1
 have hlive:(tabU [.nrow ty false nl ⟨.int .i64,l⟩] []).live 1000000:=by simp only[Tab.live,hT];exact hnn
 have hown:Own w (β 1000000) 1 0 l.length v0:=by
  cases r0 with
  | pure h=>cases h
  | acc hv hg h=>exact(h ty false nl ⟨.int .i64,l⟩ hT).resolve_left (fun q=>hnn ⟨q.1,q.2.1⟩) |>.2
 obtain⟨ad,c,cap,arr,tb,fz,rfl,hbk,hmem,has,hn,hcap,hpl⟩:=hown
 have hc0:c=cap:=by omega
 subst hc0
 have:=hpl (by omega);subst this
 have hob:=htr.ob 1000000
 rw[hT] at hob
 obtain⟨arr',fz',cap',b1,b2,b3,b4,b5,b6⟩:=hob.resolve_left hnn
 rw[hmem] at b1
 injection b1 with b1;injection b1 with q1 q2 q3;subst q1 q2 q3
 have hblk:β 1000000<w.heap.size:=htr.lt 1000000 hlive
 have hcr:∀(j:Nat) (z:Int),l[j]? = some z→arr[j]? = some (.int .i64 z):=by
  intro j z hz
  have hj:=(List.getElem?_eq_some_iff.1 hz).1
  have hd:(l.flatMap (cellsV (.int .i64)))[j]? = some (V.int .i64 z):=by rw[cells_int,List.getElem?_map,hz];rfl
  have hu:arr.toList[j]? = some arr[j]:=by rw[Array.getElem?_toList,Array.getElem?_eq_getElem (by omega)]
  have h:=(b6 j _ _ hd hu).int_
  rw[Array.getElem?_eq_getElem (by omega),h]
 have hH:Go.Sort.Holds (Value.int .i64) w (β 1000000) (0*1) l.toArray:=by
  intro j hj
  rw[List.size_toArray] at hj
  have e:l.toArray[j]! = l[j]:=by simp[hj]
  have hz:0*1+j=j:=by omega
  rw[e,hz]
  have hc:=hcr j l[j] (List.getElem?_eq_getElem hj)
  refine⟨?_,?_⟩
  ·simp only[World.cell?,hmem,hc];rfl
  ·have hf:=b2 j (by omega)
   simp only[World.frozen?,hmem]
   simp
   omega
 refine(hF (β 1000000) (0*1) c l w hH hblk (by omega)).mono fun x w'=>?_
 rintro⟨rfl,n,os,rfl⟩
 obtain⟨R,hR⟩:∃R,R=l.mergeSort fun x y=>decide (x≤y):=⟨_,rfl⟩
 have hRl:R.length=l.length:=by rw[hR,List.length_mergeSort]
 rw[←hR]
 have hsz0:(Go.Sort.putRow (Value.int .i64) (Go.Sort.ahead w n) (β 1000000) (0*1) R.toArray).heap.size=w.heap.size:=by
  rw[Go.Sort.size_putRow];rfl
 have hget:∀k,k<w.heap.size→(Go.Sort.grow (Go.Sort.putRow (Value.int .i64) (Go.Sort.ahead w n) (β 1000000) (0*1) R.toArray) os).heap[k]? = (Go.Sort.putRow (Value.int .i64) (Go.Sort.ahead w n) (β 1000000) (0*1) R.toArray).heap[k]?:=fun k hk=>by
  unfold Go.Sort.grow
  rw[Array.getElem?_append_left (by rw[hsz0];exact hk)]
 obtain⟨A,hA⟩:∃A,A=Go.Sort.putCells (Value.int .i64) (0*1) R.toArray arr:=⟨_,rfl⟩
 have hAs:A.size=arr.size:=by rw[hA];simp[Go.Sort.putCells]
 have hm':(Go.Sort.grow (Go.Sort.putRow (Value.int .i64) (Go.Sort.ahead w n) (β 1000000) (0*1) R.toArray) os).heap[β 1000000]? = some (.cells A tb fz):=by
  rw[hget _ hblk]
  unfold Go.Sort.putRow Go.Sort.mapBlock Go.Sort.ahead
  simp only[Array.getElem?_modify,if_true,hmem,Option.map_some,Go.Sort.onCells,hA]
 have hmo:∀k,k<w.heap.size→k≠β 1000000→(Go.Sort.grow (Go.Sort.putRow (Value.int .i64) (Go.Sort.ahead w n) (β 1000000) (0*1) R.toArray) os).heap[k]? = w.heap[k]?:=fun k hk hne=>by
  rw[hget _ hk]
  unfold Go.Sort.putRow Go.Sort.mapBlock Go.Sort.ahead
  simp only[Array.getElem?_modify,if_neg (fun q:β 1000000=k=>hne q.symm)]
 have hAg:∀(j:Nat) (z:Int),R[j]? = some z→A.toList[j]? = some (.int .i64 z):=by
  intro j z hz
  have hj:=(List.getElem?_eq_some_iff.1 hz).1
  rw[hA,Array.getElem?_toList,Go.Sort.putCells,Array.getElem?_mapIdx,Array.getElem?_eq_getElem (by omega)]
  have h2:R[j]=z:=(List.getElem?_eq_some_iff.1 hz).2
  simp[hj,h2]
 have k1:(Go.Sort.grow (Go.Sort.putRow (Value.int .i64) (Go.Sort.ahead w n) (β 1000000) (0*1) R.toArray) os).os=w.os:=rfl
 have k2:(Go.Sort.grow (Go.Sort.putRow (Value.int .i64) (Go.Sort.ahead w n) (β 1000000) (0*1) R.toArray) os).tape=w.tape:=rfl
 have k3:(Go.Sort.grow (Go.Sort.putRow (Value.int .i64) (Go.Sort.ahead w n) (β 1000000) (0*1) R.toArray) os).output=w.output:=rfl
 have k7:w.heap.size≤(Go.Sort.grow (Go.Sort.putRow (Value.int .i64) (Go.Sort.ahead w n) (β 1000000) (0*1) R.toArray) os).heap.size:=by
  unfold Go.Sort.grow
  rw[Array.size_append,hsz0];omega
 generalize Go.Sort.grow (Go.Sort.putRow (Value.int .i64) (Go.Sort.ahead w n) (β 1000000) (0*1) R.toArray) os=w2 at *
 have hRn:R≠[]:=fun q=>by rw[q] at hRl;simp at hRl;omega
 obtain⟨T',hT'⟩:∃T',T'=tabU [.nrow tb false nl' ⟨.int .i64,R⟩] []:=⟨_,rfl⟩
 have hg2:T'.get 1000000=⟨0,.nrow tb false nl' ⟨.int .i64,R⟩⟩:=by rw[hT',get_tabU];rfl
 have hgo:∀t,t≠1000000→(T'.get t).k=.dead:=by
  intro t ht
  rw[hT',get_tabU]
  by_cases h1:1000000≤t
  ·rw[if_pos h1]
   rw[List.getElem?_eq_none (by simp only[List.length_singleton];omega)]
   by_cases h3:2000000≤t
   ·rw[if_pos h3];rfl
   ·rw[if_neg h3]
  ·rw[if_neg h1,if_neg (by omega)]
 have hlv:∀t,T'.live t→t=1000000:=fun t ht=>by
  by_cases h:t=1000000
  ·exact h
  ·simp only[Tab.live,hgo t h,OK.live] at ht
 rw[←hT']
 refine⟨_,fun _=>β 1000000,rfl,⟨k1,k2,k3,k7,fun j hj hx=>hmo j hj (fun q=>hx ⟨1000000,hlive,q.symm⟩),fun j hj=>?_⟩,⟨fun t=>?_,fun t u ht hu _=>(hlv t ht).trans (hlv u hu).symm,fun t ht=>?_⟩,?_,rfl,fun j hj hlv'=>?_,fun j hj hlv'=>?_⟩
 ·by_cases hj':j=β 1000000
  ·subst hj';exact Shape.of hmem hm' hAs
  ·exact Shape.same (hmo j hj hj')
 ·by_cases ht:t=1000000
  ·subst ht
   rw[hg2]
   refine .inr ⟨A,fz,c,hm',fun j hj=>b2 j (by rw[hAs] at hj;exact hj),by rw[hAs];exact has,Nat.zero_lt_one,?_,fun j d u hd hu=>?_⟩
   ·rw[TL.cells_length,hAs,has];simp only[hRl];show l.length*1≤c*1;omega
   ·have hd2:(R.flatMap (cellsV (.int .i64)))[j]? = some d:=hd
    rw[cells_int,List.getElem?_map] at hd2
    cases hz:R[j]? with
    | none=>rw[hz] at hd2;cases hd2
    | some z=>
     rw[hz] at hd2
     injection hd2 with hd2
     have hu2:=hAg j z hz
     rw[hu] at hu2
     injection hu2 with hu2
     subst hd2 hu2
     exact .pure (.int .i64 z)
  ·rw[hgo t ht];trivial
 ·exact Nat.lt_of_lt_of_le hblk k7
 ·exact .pure (.tup rfl fun i d v h _=>by simp at h)
 ·have:j=0:=by simp at hj;omega
  subst this
  rfl
 ·simp at hj
theorem so_con {P:Program} {f:FuncId} (hF:SoF P f) {ty:Nat} {nl nl':Bool} {l r:List Int}
  (h:cnd (decide (0<l.length)&&decide (l.length≤140737488355328)) (some (l.mergeSort fun x y=>decide (x≤y))) none=some r):
  Spec2 P f [.acc 1000000 0] [.nrow ty false nl ⟨.int .i64,l⟩] (.tup []) [.nrow ty false nl' ⟨.int .i64,r⟩] []:=by
 cases hc:(decide (0<l.length)&&decide (l.length≤140737488355328)) with
 | false=>rw[hc] at h;cases h
 | true=>
  rw[hc] at h
  injection h with h;subst h
  simp only[Bool.and_eq_true,decide_eq_true_eq] at hc
  exact so_spec2 hF hc.1 hc.2
def SoN (P:Program) (f:Nat):Prop:=∀(p:Option Addr) (cap:Nat) (w:World),Calls P f #[.slice p 0 cap] w fun e w'=>e=.returned (.tuple #[])∧w'=w
theorem so_nil {P:Program} {f:FuncId} (hN:SoN P f) {ty:Nat}:Spec2 P f [.acc 1000000 0] [.nrow ty false true ⟨.int .i64,[]⟩] (.tup []) [.nrow ty false true ⟨.int .i64,[]⟩] []:=by
 intro w cargs β S htr hargs
 obtain⟨ca⟩:=cargs
 obtain⟨v0,l1,rfl,r0,hargs⟩:=LR.head (vs:=ca) hargs
 have:l1=[]:=List.eq_nil_of_length_eq_zero hargs.1.symm
 subst this
 have hT:(tabU [.nrow ty false true ⟨.int .i64,[]⟩] []).get 1000000=⟨0,.nrow ty false true ⟨.int .i64,[]⟩⟩:=by rw[get_tabU];rfl
 have hv:∃p,v0=.slice p 0 0:=by
  cases r0 with
  | pure h=>cases h
  | acc hv hg h=>exact(h ty false true _ hT).elim (fun q=>q.2.2) (fun q=>absurd ⟨rfl,rfl⟩ q.1)
 obtain⟨p,rfl⟩:=hv
 refine(hN p 0 w).mono fun x w'=>?_
 rintro⟨rfl,rfl⟩
 refine⟨_,β,rfl,⟨rfl,rfl,rfl,Nat.le_refl _,fun _ _ _=>rfl,fun j hj=>Shape.same rfl⟩,⟨fun t=>?_,htr.inj,htr.lt⟩,.pure (.tup rfl fun i d v h _=>by simp at h),rfl,fun _ _ _=>rfl,fun j hj=>by simp at hj⟩
 by_cases ht:t=1000000
 ·subst ht;rw[hT];exact .inl ⟨rfl,rfl⟩
 ·have hd:((tabU [.nrow ty false true ⟨.int .i64,[]⟩] []).get t).k=.dead:=by
   rw[get_tabU]
   by_cases h1:1000000≤t
   ·rw[if_pos h1]
    rw[List.getElem?_eq_none (by simp only[List.length_singleton];omega)]
    by_cases h3:2000000≤t
    ·rw[if_pos h3];rfl
    ·rw[if_neg h3]
   ·rw[if_neg h1,if_neg (by omega)]
  rw[hd];trivial
theorem so_con0 {P:Program} {f:FuncId} (hF:SoF P f) (hN:SoN P f) {ty:Nat} {l r:List Int}
  (h:cnd (decide (l.length≤140737488355328)) (some (srt l)) none=some r):
  Spec2 P f [.acc 1000000 0] [.nrow ty false true ⟨.int .i64,l⟩] (.tup []) [.nrow ty false true ⟨.int .i64,r⟩] []:=by
 cases hc:decide (l.length≤140737488355328) with
 | false=>rw[hc] at h;cases h
 | true=>
  rw[hc] at h
  injection h with h;rw[srt_eq] at h;subst h
  simp only[decide_eq_true_eq] at hc
  cases l with
  | nil=>rw[List.mergeSort_nil];exact so_nil hN
  | cons a l=>exact so_spec2 hF (by simp) hc
def DfF (P:Program) (f g:Nat):Prop:=
 ∀(blk off cap B:Nat) (zs:List Int) (k:Int) (w:World),Go.Sort.Holds (Value.int .i64) w blk off zs.toArray→blk<w.heap.size→B<w.heap.size→B≠blk→w.cell? ⟨B,0,none⟩=some (.int .i64 k)→zs.length≤cap→zs.length<4611686018427387904→
  Calls P f #[.slice (some ⟨blk,off,none⟩) zs.length cap,.func (.func g) #[] #[.pointer (some ⟨B,0,none⟩)]] w fun e w'=>
   e=.returned (.slice (some ⟨blk,off,none⟩) (zs.filter fun x=>!decide (x=k)).length cap)∧∃n,w'=Go.Sort.putRow (Value.int .i64) (Go.Sort.ahead w n) blk off ((zs.filter fun x=>!decide (x=k))++List.replicate (zs.length-(zs.filter fun x=>!decide (x=k)).length) 0).toArray
theorem df_spec2 {P:Program} {f g:FuncId} (hF:DfF P f g) {ty bt:Nat} {nl:Bool} {l:List Int} {k:Int} (h1:0<l.length) (hl:l.length≤140737488355328):
  Spec2 P f [.acc 1000000 0,.fn g [.ptr 1000001 0 0]] [.nrow ty false nl ⟨.int .i64,l⟩,.box bt [.int .i64 k]] (.acc 2000000 0) [.dead,.box bt [.int .i64 k]] [.nrow ty false false ⟨.int .i64,l.filter fun x=>!decide (x=k)⟩]:=by
 intro w cargs β S htr hargs
 obtain⟨ca⟩:=cargs
 obtain⟨v0,l1,rfl,r0,hargs⟩:=LR.head (vs:=ca) hargs
 obtain⟨v1,l2,rfl,r1,hargs⟩:=LR.head hargs
 have:l2=[]:=List.eq_nil_of_length_eq_zero hargs.1.symm
 subst this
 have hT:(tabU [.nrow ty false nl ⟨.int .i64,l⟩,.box bt [.int .i64 k]] []).get 1000000=⟨0,.nrow ty false nl ⟨.int .i64,l⟩⟩:=by rw[get_tabU];rfl
 have hT1:(tabU [.nrow ty false nl ⟨.int .i64,l⟩,.box bt [.int .i64 k]] []).get 1000001=⟨0,.box bt [.int .i64 k]⟩:=by rw[get_tabU];rfl
 have hnn:¬(nl=true∧l=[]):=fun h=>by rw[h.2] at h1;simp at h1
 have hlive:(tabU [.nrow ty false nl ⟨.int .i64,l⟩,.box bt [.int .i64 k]] []).live 1000000:=by simp only[Tab.live,hT];exact hnn
 have hlive1:(tabU [.nrow ty false nl ⟨.int .i64,l⟩,.box bt [.int .i64 k]] []).live 1000001:=by simp only[Tab.live,hT1];trivial
 have hne:β 1000001≠β 1000000:=fun q=>by have:=htr.inj 1000001 1000000 hlive1 hlive q;omega
 have hown:Own w (β 1000000) 1 0 l.length v0:=by
  cases r0 with
  | pure h=>cases h
  | acc hv hg h=>exact(h ty false nl ⟨.int .i64,l⟩ hT).resolve_left (fun q=>hnn ⟨q.1,q.2.1⟩) |>.2
 obtain⟨ad,c,cap,arr,tb,fz,rfl,hbk,hmem,has,hn,hcap,hpl⟩:=hown
 have hc0:c=cap:=by omega
 subst hc0
 have:=hpl (by omega);subst this
 have hv1:v1=.func (.func g) #[] #[.pointer (some ⟨β 1000001,0,none⟩)]:=by
  cases r1 with
  | pure h=>
   cases h with
   | fn hl h=>
    rename_i vs _hh
    match vs,hl with
    | [u],_=>
     have:=h 0 _ u rfl rfl
     cases this
  | fn hl h=>
   rename_i vs _hh
   match vs,hl with
   | [u],_=>
    have hu:=h 0 _ u rfl rfl
    cases hu with
    | pure h=>cases h
    | ptr hv hg h2=>rw[h2 (by rw[hT1]) hlive1]
 subst hv1
 have hob:=htr.ob 1000000
 rw[hT] at hob
 obtain⟨arr',fz',cap',b1,b2,b3,b4,b5,b6⟩:=hob.resolve_left hnn
 rw[hmem] at b1
 injection b1 with b1;injection b1 with q1 q2 q3;subst q1 q2 q3
 have hob1:=htr.ob 1000001
 rw[hT1] at hob1
 obtain⟨arB,fzB,d1,d2,d3,d4⟩:=hob1
 have hblk:β 1000000<w.heap.size:=htr.lt 1000000 hlive
 have hblk1:β 1000001<w.heap.size:=htr.lt 1000001 hlive1
 have hcB:w.cell? ⟨β 1000001,0,none⟩=some (.int .i64 k):=by
  have hs:0<arB.size:=by rw[d3];simp
  have hu:arB.toList[0]? = some arB[0]:=by rw[Array.getElem?_toList,Array.getElem?_eq_getElem hs]
  have h:=(d4 0 _ _ rfl hu).int_
  simp only[World.cell?,d1,Array.getElem?_eq_getElem hs,h];rfl
 have hcr:∀(j:Nat) (z:Int),l[j]? = some z→arr[j]? = some (.int .i64 z):=by
  intro j z hz
  have hj:=(List.getElem?_eq_some_iff.1 hz).1
  have hd:(l.flatMap (cellsV (.int .i64)))[j]? = some (V.int .i64 z):=by rw[cells_int,List.getElem?_map,hz];rfl
  have hu:arr.toList[j]? = some arr[j]:=by rw[Array.getElem?_toList,Array.getElem?_eq_getElem (by omega)]
  have h:=(b6 j _ _ hd hu).int_
  rw[Array.getElem?_eq_getElem (by omega),h]
 have hH:Go.Sort.Holds (Value.int .i64) w (β 1000000) (0*1) l.toArray:=by
  intro j hj
  rw[List.size_toArray] at hj
  have e:l.toArray[j]! = l[j]:=by simp[hj]
  have hz:0*1+j=j:=by omega
  rw[e,hz]
  have hc:=hcr j l[j] (List.getElem?_eq_getElem hj)
  refine⟨?_,?_⟩
  ·simp only[World.cell?,hmem,hc];rfl
  ·have hf:=b2 j (by omega)
   simp only[World.frozen?,hmem]
   simp
   omega
 refine(hF (β 1000000) (0*1) c (β 1000001) l k w hH hblk hblk1 hne hcB (by omega) (by omega)).mono fun x w'=>?_
 rintro⟨rfl,n,rfl⟩
 obtain⟨Q,hQ⟩:∃Q,Q=l.filter fun x=>!decide (x=k):=⟨_,rfl⟩
 have hQl:Q.length≤l.length:=by rw[hQ];exact List.length_filter_le _ _
 rw[←hQ]
 obtain⟨R,hR⟩:∃R,R=Q++List.replicate (l.length-Q.length) (0:Int):=⟨_,rfl⟩
 have hRl:R.length=l.length:=by rw[hR,List.length_append,List.length_replicate];omega
 rw[←hR]
 obtain⟨A,hA⟩:∃A,A=Go.Sort.putCells (Value.int .i64) (0*1) R.toArray arr:=⟨_,rfl⟩
 have hAs:A.size=arr.size:=by rw[hA];simp[Go.Sort.putCells]
 have hm':(Go.Sort.putRow (Value.int .i64) (Go.Sort.ahead w n) (β 1000000) (0*1) R.toArray).heap[β 1000000]? = some (.cells A tb fz):=by
  unfold Go.Sort.putRow Go.Sort.mapBlock Go.Sort.ahead
  simp only[Array.getElem?_modify,if_true,hmem,Option.map_some,Go.Sort.onCells,hA]
 have hmo:∀k,k≠β 1000000→(Go.Sort.putRow (Value.int .i64) (Go.Sort.ahead w n) (β 1000000) (0*1) R.toArray).heap[k]? = w.heap[k]?:=fun k hne=>by
  unfold Go.Sort.putRow Go.Sort.mapBlock Go.Sort.ahead
  simp only[Array.getElem?_modify,if_neg (fun q:β 1000000=k=>hne q.symm)]
 have hAg:∀(j:Nat) (z:Int),Q[j]? = some z→A.toList[j]? = some (.int .i64 z):=by
  intro j z hz
  have hj:=(List.getElem?_eq_some_iff.1 hz).1
  have hz2:R[j]? = some z:=by rw[hR,List.getElem?_append_left hj,hz]
  have hj2:j<R.length:=by omega
  rw[hA,Array.getElem?_toList,Go.Sort.putCells,Array.getElem?_mapIdx,Array.getElem?_eq_getElem (by omega)]
  have h2:R[j]=z:=(List.getElem?_eq_some_iff.1 hz2).2
  simp[hj2,h2]
 have k1:(Go.Sort.putRow (Value.int .i64) (Go.Sort.ahead w n) (β 1000000) (0*1) R.toArray).os=w.os:=rfl
 have k2:(Go.Sort.putRow (Value.int .i64) (Go.Sort.ahead w n) (β 1000000) (0*1) R.toArray).tape=w.tape:=rfl
 have k3:(Go.Sort.putRow (Value.int .i64) (Go.Sort.ahead w n) (β 1000000) (0*1) R.toArray).output=w.output:=rfl
 have k7:(Go.Sort.putRow (Value.int .i64) (Go.Sort.ahead w n) (β 1000000) (0*1) R.toArray).heap.size=w.heap.size:=by rw[Go.Sort.size_putRow];rfl
 generalize Go.Sort.putRow (Value.int .i64) (Go.Sort.ahead w n) (β 1000000) (0*1) R.toArray=w2 at *
 obtain⟨T',hT'⟩:∃T',T'=tabU [.dead,.box bt [.int .i64 k]] [.nrow tb false false ⟨.int .i64,Q⟩]:=⟨_,rfl⟩
 have hg2:T'.get 2000000=⟨0,.nrow tb false false ⟨.int .i64,Q⟩⟩:=by rw[hT',get_tabU];rfl
 have hg1:T'.get 1000001=⟨0,.box bt [.int .i64 k]⟩:=by rw[hT',get_tabU];rfl
 have hgo:∀t,t≠2000000→t≠1000001→(T'.get t).k=.dead:=by
  intro t ht ht1
  rw[hT',get_tabU]
  by_cases h1:1000000≤t
  ·rw[if_pos h1]
   by_cases h2:t=1000000
   ·subst h2;rfl
   ·rw[List.getElem?_eq_none (by simp only[List.length_cons,List.length_nil];omega)]
    by_cases h3:2000000≤t
    ·rw[if_pos h3,List.getElem?_eq_none (by simp only[List.length_singleton];omega)]
    ·rw[if_neg h3]
  ·rw[if_neg h1,if_neg (by omega)]
 have hlv:∀t,T'.live t→t=2000000∨t=1000001:=fun t ht=>by
  by_cases h:t=2000000
  ·exact .inl h
  by_cases h2:t=1000001
  ·exact .inr h2
  ·simp only[Tab.live,hgo t h h2,OK.live] at ht
 obtain⟨β',hβ⟩:∃β':Nat→Nat,β'=fun t=>if t=1000001 then β 1000001 else β 1000000:=⟨_,rfl⟩
 have hβ1:β' 1000001=β 1000001:=by rw[hβ];rfl
 have hβ2:β' 2000000=β 1000000:=by rw[hβ];rfl
 rw[←hT']
 refine⟨_,β',rfl,⟨k1,k2,k3,by omega,fun j hj hx=>hmo j (fun q=>hx ⟨1000000,hlive,q.symm⟩),fun j hj=>?_⟩,⟨fun t=>?_,fun t u ht hu he=>?_,fun t ht=>?_⟩,?_,rfl,fun j hj hlv'=>?_,fun j hj hlv'=>?_⟩
 ·by_cases hj':j=β 1000000
  ·subst hj';exact Shape.of hmem hm' hAs
  ·exact Shape.same (hmo j hj')
 ·by_cases ht:t=2000000
  ·subst ht
   rw[hg2,hβ2]
   refine .inr ⟨A,fz,c,hm',fun j hj=>b2 j (by rw[hAs] at hj;exact hj),by rw[hAs];exact has,Nat.zero_lt_one,?_,fun j d u hd hu=>?_⟩
   ·rw[TL.cells_length,hAs,has];show Q.length*1≤c*1;omega
   ·have hd2:(Q.flatMap (cellsV (.int .i64)))[j]? = some d:=hd
    rw[cells_int,List.getElem?_map] at hd2
    cases hz:Q[j]? with
    | none=>rw[hz] at hd2;cases hd2
    | some z=>
     rw[hz] at hd2
     injection hd2 with hd2
     have hu2:=hAg j z hz
     rw[hu] at hu2
     injection hu2 with hu2
     subst hd2 hu2
     exact .pure (.int .i64 z)
  by_cases ht1:t=1000001
  ·subst ht1
   rw[hg1,hβ1]
   refine⟨arB,fzB,by rw[hmo _ hne];exact d1,d2,d3,fun j d u hd hu=>?_⟩
   have hj:j=0:=by have:=(List.getElem?_eq_some_iff.1 hd).1;simp at this;omega
   subst hj
   have h:=(d4 0 d u hd hu)
   have e:d=.int .i64 k:=by simpa using hd.symm
   subst e
   rw[h.int_]
   exact .pure (.int .i64 k)
  ·rw[hgo t ht ht1];trivial
 ·rcases hlv t ht with rfl | rfl<;>rcases hlv u hu with rfl | rfl
  ·rfl
  ·rw[hβ1,hβ2] at he;exact absurd he.symm hne
  ·rw[hβ1,hβ2] at he;exact absurd he hne
  ·rfl
 ·rcases hlv t ht with rfl | rfl
  ·rw[hβ2,k7];exact hblk
  ·rw[hβ1,k7];exact hblk1
 ·refine .acc ⟨_,_,_,rfl⟩ (by rw[hg2];exact Nat.le_refl _) fun ty' fz' nl'' L' q=>?_
  rw[hg2] at q
  injection q with _ q
  injection q with q1 q2 q3 q4
  subst q1 q2 q3 q4
  refine .inr ⟨fun q=>(by cases q.1),⟨⟨β 1000000,0,none⟩,c,c,A,tb,fz,rfl,by rw[hβ2],by rw[hβ2];exact hm',by rw[hAs];exact has,by show 0+Q.length≤c;omega,by omega,fun _=>by rw[hβ2,Nat.zero_mul]⟩⟩
 ·have:j=1∨j=0:=by simp at hj;omega
  rcases this with rfl | rfl
  ·exact hβ1
  ·rcases hlv _ hlv' with q | q<;>omega
 ·have:j=0:=by simp at hj;omega
  subst this
  exact .inr ⟨0,rfl,hlive,hβ2.symm⟩
theorem df_con {P:Program} {f g:FuncId} (hF:DfF P f g) {ty bt:Nat} {nl:Bool} {l:List Int} {k:Int} {r:Int×List Int}
  (h:cnd (decide (0<l.length)&&decide (l.length≤140737488355328)) (some (k,l.filter fun x=>!decide (x=k))) none=some r):
  Spec2 P f [.acc 1000000 0,.fn g [.ptr 1000001 0 0]] [.nrow ty false nl ⟨.int .i64,l⟩,.box bt [.int .i64 k]] (.acc 2000000 0) [.dead,.box bt [.int .i64 r.1]] [.nrow ty false false ⟨.int .i64,r.2⟩]:=by
 cases hc:(decide (0<l.length)&&decide (l.length≤140737488355328)) with
 | false=>rw[hc] at h;cases h
 | true=>
  rw[hc] at h
  injection h with h;subst h
  simp only[Bool.and_eq_true,decide_eq_true_eq] at hc
  exact df_spec2 hF hc.1 hc.2
end Go.Abs
