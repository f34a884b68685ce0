/- slices.Insert: one element put into a row that is handed over; the element comes in a list that is only read. -/
import Derived.Test.YtpbiilmphmdmiaaExtL
import Derived.Test.YtpbiilmphmdmiaaExtYM
import Derived.Lib.Overlaps
namespace Go.Abs
open Go.RowKit
set_option linter.unusedVariables false
set_option linter.unusedSimpArgs false
theorem overlaps_apart2 {P:Program} (w:World) (tS tR e:TypeId) (ht:P.underlying tS=some (.slice e)) (size:Nat) (hz:∀w,(Go.sizeOf e).run P w=.ok size w)
  (a b:Addr) (la ca lb cb:Nat) (hne:a.block≠b.block) (tA tB:TypeId) (kA kB:Nat) (hsa:w.shape? a.block=some (tA,kA)) (hsb:w.shape? b.block=some (tB,kB)) (hkA:kA≠0)
  (hfb:w.frozen? b=false) (hfe:w.frozen? { block:=b.block,off:=kB }=false):
  (Extern.SlicesOverlaps.overlaps #[tS,tS] #[tR] #[.slice (some a) la ca,.slice (some b) lb cb]).run P w=.ok (.bool false) w:=by
 have hnb:(a.block != b.block)=true:=by simpa using hne
 have hnb':(a.block==b.block)=false:=by simpa using hne
 change Sem.run P (α:=Value) (do
  let some t := (#[tS, tS] : Array TypeId)[0]? | stuck "slices.overlaps: no parameter types"
  let .slice elem ← underlying t | stuck "slices.overlaps: slice type expected"
  let size ←sizeOf elem
  match (some a:Option Addr),(some b:Option Addr) with
  | some a,some b=>
   if la=0∨lb=0∨size=0 then pure (Value.bool false)
   else if a.block != b.block&&(←frozen a)&&(←frozen b) then unsupported .addressObserved
   else do
    if a.block != b.block then do
     noView a;noView b
     if ← mayBeOne a b then return Value.bool ((← choose (.extern "sameAddr.stringBytes" 2)) == 1)
    pure (Value.bool (a.block==b.block&&a.off<b.off+lb*size&&b.off<a.off+la*size))
  | _,_=>pure (Value.bool false)) w=_
 by_cases h0:la=0∨lb=0∨size=0
 ·simp[run_underlying ht,hz,h0]
 ·cases kA with
  | zero=>exact absurd rfl hkA
  | succ kA=>
   cases hfa:w.frozen? a<;>cases hfae:w.frozen? { block:=a.block,off:=kA+1 } <;>
    simp[run_underlying ht,hz,h0,hnb,hnb',frozen,noView,viewAt,mayBeOne,stringish,shape,Sem.run,hsa,hsb,hfb,hfe,hfa,hfae]
def InsP (P:Program) (f e sz bytes:Nat):Prop:=
 ∀(w:World) (b i n c vb vo vc:Nat) (arr va:Array Value) (tb tv:Nat) (fz fv:Nat×Nat) (vs:List Value),
  w.heap[b]? = some (.cells arr tb fz)→arr.size=c*sz→(∀j,j≤arr.size→¬(fz.1≤j∧j<fz.2))→
  w.heap[vb]? = some (.cells va tv fv)→vb≠b→vs.length=sz→(∀(j:Nat) (u:Value),vs[j]? = some u→va[vo+j]? = some u)→
  (∀u∈vs,u.oneCell'=true)→(∀u∈arr.toList.take (n*sz),u.oneCell'=true)→i<n→n≤c→(n+1)*bytes≤140737488355328→
  Calls P f #[.slice (some ⟨b,0,none⟩) n c,.int .i64 (i:Nat),.slice (some ⟨vb,vo,none⟩) 1 vc] w fun x w'=>InsR sz e b i n c arr tb vs w x w'
def InsE (P:Program) (f t e sz bytes:Nat):Prop:=
 P.underlying t=some (.slice e)∧(∃(inf:TypeInfo) (z:Value),P.info? e=some inf∧inf.size=sz∧inf.zero=some z∧z.cells.size=sz∧inf.bytes=bytes)∧
 ∀(w:World) (base:Option Addr) (n c:Nat) (a:Addr) (vc:Nat),n≤c→(base=none→c=0)→n≤140737488355328→∀(x:Option Addr) (m k:Nat) (w1:World),
  (∀ty,(Builtin.append_ #[t,t] ty #[.slice base n c,.slice (some a) 1 vc]).run P w=.ok (.slice x m k) w1)→
  Calls P f #[.slice base n c,.int .i64 (n:Nat),.slice (some a) 1 vc] w fun e w'=>e=.returned (.slice x m k)∧w'=w1
def InsM (sz e tb asz:Nat) (ob:Option Nat) (olds vs:List Value) (i n:Nat) (w:World) (x:Ending) (w':World):Prop:=
  ∃b' c' t' A fz',x=.returned (.slice (some ⟨b',0,none⟩) (n+1) c')∧w'.os=w.os∧w'.tape=w.tape∧w'.output=w.output∧
    w'.heap[b']? = some (.cells A t' fz')∧(∀j,j≤A.size→¬(fz'.1≤j∧j<fz'.2))∧A.size=c'*sz∧n+1≤c'∧
    A.toList.take ((n+1)*sz)=olds.take (i*sz)++(vs++olds.drop (i*sz))∧
    ((ob = some b' ∧ t' = tb ∧ A.size = asz ∧ w'.heap.size = w.heap.size ∧ ∀ j, j ≠ b' → w'.heap[j]? = w.heap[j]?) ∨
      (b'=w.heap.size∧t'=e∧w'.heap.size=w.heap.size+1∧∀j,j<w.heap.size→w'.heap[j]? = w.heap[j]?))
theorem ins_grow {P:Program} {f t e sz bytes:Nat} (hE:InsE P f t e sz bytes) (h0:0<sz) (hb0:0<bytes) (w:World) (base:Option Addr) (olds vs:List Value) (n c:Nat) (a:Addr) (vc tb asz:Nat) (ob:Option Nat) (hnc:n≤c) (hno:¬n+1≤c) (hbn:base=none→c=0)
  (hol:olds.length=n*sz) (hold:∀w',w'.heap=w.heap→(Builtin.firstCells sz n (.slice base n c)).run P w'=.ok olds.toArray w') (hvl:vs.length=sz) (hvs:∀(j:Nat) (u:Value),vs[j]? = some u→w.cell? (a.add j)=some u) (hby:(n+1)*bytes≤140737488355328):
  Calls P f #[.slice base n c,.int .i64 (n:Nat),.slice (some a) 1 vc] w fun x w'=>InsM sz e tb asz ob olds vs n n w x w':=by
 obtain⟨ht,⟨inf,z,hi,hs,hz,hzs,hbb⟩,hc⟩:=hE
 have hn1:n+1≤140737488355328:=Nat.le_trans (Nat.le_mul_of_pos_right _ hb0) hby
 have hnew:∀w',w'.heap=w.heap→(Builtin.firstCells inf.size 1 (.slice (some a) 1 vc)).run P w'=.ok vs.toArray w':=fun w' hw=>by
  rw[hs]
  exact run_firstCells_some w' sz 1 a 1 vc vs (by omega) fun j v hj=>(cell_congr (by rw[hw])).trans (hvs j v hj)
 have hap:=fun ty=>(run_append_gen (P:=P) (w:=w) (ty:=ty) ht hi ht rfl (base:=base) (n:=n) (cap:=c) (m:=1) (cx:=.slice (some a) 1 vc) (news:=vs) (lenOf_slice _ _ _ _) hnew).2 z olds.toArray hno hz (by omega) (by rw[hbb];exact hby) (fun w' hw=>by rw[hs];exact hold w' hw)
 refine(hc w base n c a vc hnc hbn (by omega) _ _ _ _ hap).mono fun x w'=>?_
 rintro⟨rfl,rfl⟩
 have hg:=grownCap_ge w (n+1) c e
 generalize grownCap w (n+1) c e=G at *
 refine⟨_,_,e,_,(0,0),rfl,rfl,rfl,rfl,heap_alloc_new w.drew _,fun j _ hj=>by simp at hj,?_,hg,?_,.inr ⟨rfl,rfl,by simp,fun j hj=>heap_alloc_old w.drew _ _ hj⟩⟩
 ·simp only[Array.size_append,List.size_toArray,size_zeroCells,hzs,hol,hvl]
  rw[←Nat.succ_mul,←Nat.add_mul];congr 1;omega
 ·simp only[Array.toList_append]
  rw[List.take_left' (by rw[List.length_append,hol,hvl,Nat.add_mul,Nat.one_mul]),List.take_of_length_le (by omega),List.drop_eq_nil_of_le (by omega),List.append_nil]
theorem ins_mem {P:Program} {f t e sz bytes:Nat} (hE:InsE P f t e sz bytes) (hP:InsP P f e sz bytes) (h0:0<sz) (hb0:0<bytes) (w:World) (b i n c vb vo vc:Nat) (arr va:Array Value) (tb tv:Nat) (fz fv:Nat×Nat) (vs:List Value)
  (hmem:w.heap[b]? = some (.cells arr tb fz)) (hsize:arr.size=c*sz) (hf:∀j,j≤arr.size→¬(fz.1≤j∧j<fz.2))
  (hmemv:w.heap[vb]? = some (.cells va tv fv)) (hne:vb≠b) (hvl:vs.length=sz) (hvs:∀(j:Nat) (u:Value),vs[j]? = some u→va[vo+j]? = some u)
  (h1v:∀u∈vs,u.oneCell'=true) (h1c:∀u∈arr.toList.take (n*sz),u.oneCell'=true) (hi:i≤n) (hnc:n≤c) (hby:(n+1)*bytes≤140737488355328):
  Calls P f #[.slice (some ⟨b,0,none⟩) n c,.int .i64 (i:Nat),.slice (some ⟨vb,vo,none⟩) 1 vc] w fun x w'=>InsM sz e tb arr.size (some b) (arr.toList.take (n*sz)) vs i n w x w':=by
 have hal:arr.toList.length=arr.size:=Array.length_toList
 by_cases hin:i<n
 ·refine(hP w b i n c vb vo vc arr va tb tv fz fv vs hmem hsize hf hmemv hne hvl hvs h1v h1c hin hnc hby).mono fun x w'=>?_
  rintro⟨b',c',t',A,fz',k1,k2,k3,k4,k5,k6,k7,k8,k9,k10⟩
  refine⟨b',c',t',A,fz',k1,k2,k3,k4,k5,k6,k7,k8,k9,k10.imp (fun⟨q1,q2,q3,q4,q5⟩=>⟨by rw[q1],q2,q3,q4,by rw[q1];exact q5⟩) id⟩
 have:i=n:=by omega
 subst this
 have hvs':∀(j:Nat) (u:Value),vs[j]? = some u→w.cell? ((⟨vb,vo,none⟩:Addr).add j)=some u:=fun j u hj=>by
  rw[Addr.add_lit]
  simpa [World.cell?,hmemv] using hvs j u hj
 have hle:i*sz≤arr.size:=by rw[hsize];exact Nat.mul_le_mul_right _ hnc
 have hold:∀w',w'.heap=w.heap→(Builtin.firstCells sz i (.slice (some ⟨b,0,none⟩) i c)).run P w'=.ok (arr.toList.take (i*sz)).toArray w':=fun w' hw=>by
  refine run_firstCells_some w' sz i ⟨b,0,none⟩ i c _ (by rw[List.length_take];omega) fun j v hj=>?_
  rw[List.getElem?_take] at hj
  split at hj
  ·rw[Addr.add_lit,Nat.zero_add]
   have e1:w'.cell? ⟨b,j,none⟩=arr[j]?:=by simp[World.cell?,hw,hmem]
   rw[e1];simpa using hj
  ·cases hj
 by_cases hno:i+1≤c
 case neg=>exact ins_grow hE h0 hb0 w _ _ vs i c _ vc tb _ _ hnc hno (fun q=>by cases q) (by rw[List.length_take];omega) hold hvl hvs' hby
 obtain⟨ht,⟨inf,z,hinf,hs,hz,hzs,hbb⟩,hc⟩:=hE
 have hn1:i+1≤140737488355328:=Nat.le_trans (Nat.le_mul_of_pos_right _ hb0) hby
 have hnew:∀w',w'.heap=w.heap→(Builtin.firstCells inf.size 1 (.slice (some ⟨vb,vo,none⟩) 1 vc)).run P w'=.ok vs.toArray w':=fun w' hw=>by
  rw[hs]
  exact run_firstCells_some w' sz 1 _ 1 vc vs (by omega) fun j v hj=>(cell_congr (by rw[hw])).trans (hvs' j v hj)
 have hroom:i*sz+sz≤arr.size:=by rw[hsize,←Nat.succ_mul];exact Nat.mul_le_mul_right _ hno
 have hst:=run_storeCells_fz P b (i*sz) tb fz vs 0 arr w hmem (fun j hj=>hf j (by omega)) (by omega) h1v
 simp only[Nat.add_zero,List.append_assoc] at hst
 have hap:=fun ty=>(run_append_gen (P:=P) (w:=w) (ty:=ty) ht hinf ht rfl (base:=some ⟨b,0,none⟩) (n:=i) (cap:=c) (m:=1) (cx:=.slice (some ⟨vb,vo,none⟩) 1 vc) (news:=vs) (lenOf_slice _ _ _ _) hnew).1 hno
 simp only[hs,Addr.add_lit,Nat.zero_add,hst,Result.andThen_ok] at hap
 refine(hc w _ i c _ vc hnc (fun q=>by cases q) (by omega) _ _ _ _ hap).mono fun x w'=>?_
 rintro⟨rfl,rfl⟩
 have hAs:(arr.toList.take (i*sz)++(vs++arr.toList.drop (i*sz+vs.length))).toArray.size=arr.size:=by simp[hvl];omega
 refine⟨b,c,tb,_,fz,rfl,rfl,rfl,rfl,setRow_heap w b arr _ tb fz hmem,fun j hj=>hf j (by rw[hAs] at hj;exact hj),by rw[hAs];exact hsize,hno,?_,.inl ⟨rfl,rfl,hAs,setRow_size _ _ _,fun j hj=>setRow_other _ _ _ _ hj⟩⟩
 rw[List.toList_toArray,←List.append_assoc,List.take_left' (by rw[List.length_append,List.length_take,hvl,Nat.add_mul,Nat.one_mul];omega),List.take_take,Nat.min_self,List.drop_eq_nil_of_le (by rw[List.length_take];omega),List.append_nil]
theorem firstCells0 {P:Program} (sz:Nat) (p:Option Addr) (w':World):(Builtin.firstCells sz 0 (.slice p 0 0)).run P w'=.ok #[] w':=by
 cases p with
 | none=>simp[Builtin.firstCells]
 | some a=>exact run_firstCells_some w' sz 0 a 0 0 [] (by simp) (by simp)
theorem lrTake {R:V→Value→Prop} {X:List V} {Y:List Value} (h:LR R X Y) (k:Nat):LR R (X.take k) (Y.take k):=⟨by simp[h.1],fun j d u hd hu=>by
 rw[List.getElem?_take] at hd hu
 split at hd
 ·rename_i hj;rw[if_pos hj] at hu;exact h.2 j d u hd hu
 ·cases hd⟩
theorem lrDrop {R:V→Value→Prop} {X:List V} {Y:List Value} (h:LR R X Y) (k:Nat):LR R (X.drop k) (Y.drop k):=⟨by simp[h.1],fun j d u hd hu=>by
 rw[List.getElem?_drop] at hd hu
 exact h.2 _ d u hd hu⟩
theorem ins_spec2 {P:Program} {f:FuncId} {e:Ty} {t ty bytes:Nat} (hE:InsE P f t ty e.size bytes) (hP:InsP P f ty e.size bytes) (hfl:e.flatT=true) (h0:0<e.size) (h1:e.size≠1) (hb0:0<bytes) {nl nl':Bool} {l r:List e.I} {i:Int} (hi0:0≤i) (hi:i≤l.length) (hr:r.length=1)
  (hby:(l.length+1)*bytes≤140737488355328):
  Spec2 P f [.acc 1000000 0,.int .i64 i,.lst ⟨e,r⟩] [.nrow ty false nl ⟨e,l⟩] (.acc 2000000 0) [.dead] [.nrow ty false nl' ⟨e,l.take i.toNat++(r++l.drop i.toNat)⟩]:=by
 intro w cargs β S htr hargs
 obtain⟨ca⟩:=cargs
 obtain⟨v0,l1,rfl,r0,hargs⟩:=LR.head (vs:=ca) hargs
 obtain⟨v1,l2,rfl,r1,hargs⟩:=LR.head hargs
 obtain⟨v2,l3,rfl,r2,hargs⟩:=LR.head hargs
 have:l3=[]:=List.eq_nil_of_length_eq_zero hargs.1.symm
 subst this
 have:=r1.int_;subst this
 obtain⟨k,rfl⟩:∃k:Nat,i=k:=⟨i.toNat,by omega⟩
 simp only[Int.toNat_natCast]
 have hk:k≤l.length:=by omega
 clear hi hi0
 have hT:(tabU [.nrow ty false nl ⟨e,l⟩] []).get 1000000=⟨0,.nrow ty false nl ⟨e,l⟩⟩:=by rw[get_tabU];rfl
 have hcr:(⟨e,r⟩:TL).cells.length=e.size:=by rw[TL.cells_length];simp only[hr,Nat.one_mul]
 rcases (Rv.pure r2.lst_).sl_ (T:=tabU [.nrow ty false nl ⟨e,l⟩] []) (ι:=β) with⟨e0,_,_⟩ | ⟨ad,vc,vs,rfl,hnc2,hm,hlv2,hrp⟩
 ·simp only at e0;omega
 simp only[hr] at *
 have hr:r.length=1:=by
  have h:=hcr
  rw[TL.cells_length] at h
  exact Nat.eq_of_mul_eq_mul_right h0 (by rw[Nat.one_mul];exact h)
 have hvl:vs.length=e.size:=by rw[←hlv2,hcr]
 have hlrv:LR (Rp (Stable S (tabU [.nrow ty false nl ⟨e,l⟩] []) β w) w) (r.flatMap (cellsV e)) vs:=⟨hlv2,hrp⟩
 have h1v:∀u∈vs,u.oneCell'=true:=fun u hu=>by
  obtain⟨j,hj⟩:=List.mem_iff_getElem?.1 hu
  have hjl:j<(r.flatMap (cellsV e)).length:=by rw[hlrv.1];exact(List.getElem?_eq_some_iff.1 hj).1
  have hp:=hlrv.2 j _ u (List.getElem?_eq_getElem hjl) hj
  obtain⟨x,_,hx⟩:=List.mem_flatMap.1 (List.getElem_mem hjl)
  exact(leaf_one (leaf_cellsV _ _ _ hx) hp).2
 have hv0:0<vs.length:=by omega
 obtain⟨hst0,hc0⟩:=hm 0 _ (List.getElem?_eq_getElem hv0)
 have hadd0:ad.add 0=ad:=by simp[Addr.add]
 rw[hadd0] at hst0 hc0
 have main:∃(ob:Option Nat) (asz:Nat) (olds:List Value),(ob=none∨ob=some (β 1000000)∧(tabU [.nrow ty false nl ⟨e,l⟩] []).live 1000000∧∃arr fz,w.heap[β 1000000]? = some (.cells arr ty fz)∧arr.size=asz)∧
   LR (Rp (Stable S (tabU [.nrow ty false nl ⟨e,l⟩] []) β w) w) (l.flatMap (cellsV e)) olds∧
   Calls P f ⟨[v0,.int .i64 (k:Nat),.slice (some ad) 1 vc]⟩ w fun x w'=>InsM e.size ty ty asz ob olds vs k l.length w x w':=by
  by_cases hnn:nl=true∧l=[]
  ·obtain⟨hn1,hn2⟩:=hnn
   subst hn2
   have hk0:k=0:=by simp at hk;exact hk
   subst hk0
   have hv0':∃p,v0=.slice p 0 0:=by
    cases r0 with
    | pure h=>cases h
    | acc hv hg h=>
     rcases h ty false nl ⟨e,[]⟩ hT with⟨_,_,q⟩ | ⟨q,_⟩
     ·exact q
     ·exact absurd ⟨hn1,rfl⟩ q
   obtain⟨p,rfl⟩:=hv0'
   refine⟨none,0,[],.inl rfl,⟨rfl,fun j d u hd=>by simp at hd⟩,?_⟩
   exact ins_grow hE h0 hb0 w p [] vs 0 0 ad vc ty 0 none (Nat.le_refl _) (by omega) (fun _=>rfl) (by simp) (fun w' _=>firstCells0 _ _ _) hvl (fun j u hj=>(hm j u hj).2) (by simpa using hby)
  ·have hlive:(tabU [.nrow ty false nl ⟨e,l⟩] []).live 1000000:=by simp only[Tab.live,hT];exact hnn
   have hown:Own w (β 1000000) e.size 0 l.length v0:=by
    cases r0 with
    | pure h=>cases h
    | acc hv hg h=>exact(h ty false nl ⟨e,l⟩ hT).resolve_left (fun q=>hnn ⟨q.1,q.2.1⟩) |>.2
   obtain⟨ad0,c,cap,arr,tb,fz,rfl,hbk,hmem,has,hn,hcap,hpl⟩:=hown
   have hc0':c=cap:=by omega
   subst hc0'
   have hob:=htr.ob 1000000
   rw[hT] at hob
   obtain⟨arr',fz',cap',b1,b2,b3,b4,b5,b6⟩:=hob.resolve_left hnn
   rw[hmem] at b1
   injection b1 with b1;injection b1 with q1 q2 q3;subst q1 q2 q3
   have hcl:(l.flatMap (cellsV e)).length=l.length*e.size:=(⟨e,l⟩:TL).cells_length
   have hal:arr.toList.length=arr.size:=Array.length_toList
   have hle:l.length*e.size≤arr.size:=by rw[has];exact Nat.mul_le_mul_right _ (by omega)
   have hlr:LR (Rp (Stable S (tabU [.nrow tb false nl ⟨e,l⟩] []) β w) w) (l.flatMap (cellsV e)) (arr.toList.take (l.length*e.size)):=⟨by rw[List.length_take,hcl];omega,fun j d u hd hu=>by
    rw[List.getElem?_take] at hu
    split at hu
    ·obtain⟨x,_,hx⟩:=List.mem_flatMap.1 (List.mem_of_getElem? hd)
     exact(b6 j d u hd hu).pure_ (pure_cellsV _ _ _ hx)
    ·cases hu⟩
   have h1c:∀u∈arr.toList.take (l.length*e.size),u.oneCell'=true:=fun u hu=>by
    obtain⟨j,hj⟩:=List.mem_iff_getElem?.1 hu
    have hjl:j<(l.flatMap (cellsV e)).length:=by rw[hlr.1];exact(List.getElem?_eq_some_iff.1 hj).1
    have hp:=hlr.2 j _ u (List.getElem?_eq_getElem hjl) hj
    obtain⟨x,_,hx⟩:=List.mem_flatMap.1 (List.getElem_mem hjl)
    exact(leaf_one (leaf_cellsV _ _ _ hx) hp).2
   obtain⟨vb,vo,sp⟩:=ad
   have hvb:∃va tv fv,w.heap[vb]? = some (.cells va tv fv)∧sp=none:=by
    unfold World.cell? at hc0
    split at hc0
    ·rename_i c1 t1 f1 hh
     cases sp with
     | none=>exact⟨c1,t1,f1,hh,rfl⟩
     | some q=>simp at hc0
    ·cases hc0
   obtain⟨va,tv,fv,hmemv,rfl⟩:=hvb
   have hne:vb≠β 1000000:=fun q=>by
    have:=hst0.2.2 1000000 hlive q.symm
    rw[hT] at this
    exact this
   refine⟨some (β 1000000),arr.size,arr.toList.take (l.length*e.size),.inr ⟨rfl,hlive,arr,fz,hmem,rfl⟩,hlr,?_⟩
   by_cases hcz:c=0
   ·subst hcz
    have hl0:l.length=0:=by omega
    have hz0:arr.size=0:=by omega
    have hk0:k=0:=by omega
    subst hk0
    rw[hl0]
    have hh:=ins_grow hE h0 hb0 w (some ad0) [] vs 0 0 ⟨vb,vo,none⟩ vc tb arr.size (some (β 1000000)) (Nat.le_refl _) (by omega) (fun _=>rfl) (by simp) (fun w' _=>firstCells0 _ _ _) hvl (fun j u hj=>(hm j u hj).2) (by simpa [hl0] using hby)
    simpa using hh
   ·have:=hpl hcz;subst this
    rw[Nat.zero_mul]
    exact ins_mem hE hP h0 hb0 w (β 1000000) k l.length c vb vo vc arr va tb tv fz fv vs hmem has (fun j hj=>b2 j (.inr ⟨h1,hj⟩)) hmemv hne hvl (fun j u hj=>by
     have:=(hm j u hj).2
     rw[Addr.add_lit] at this
     simpa [World.cell?,hmemv] using this) h1v h1c hk (by omega) hby
 obtain⟨ob,asz,olds,hob,hlr,hcalls⟩:=main
 refine hcalls.mono fun x w'=>?_
 rintro⟨b',c',t',A,fz',rfl,k2,k3,k4,k5,k6,k7,k8,k9,k10⟩
 have hlen:(l.take k++(r++l.drop k)).length=l.length+1:=by simp only[List.length_append,List.length_take,List.length_drop,hr];omega
 have ht':t'=ty:=by rcases k10 with q | q<;>exact q.2.1
 subst ht'
 obtain⟨T',hT'⟩:∃T',T'=tabU [.dead] [.nrow t' false nl' ⟨e,l.take k++(r++l.drop k)⟩]:=⟨_,rfl⟩
 have hg2:T'.get 2000000=⟨0,.nrow t' false nl' ⟨e,l.take k++(r++l.drop k)⟩⟩:=by rw[hT',get_tabU];rfl
 have hgo:∀t,t≠2000000→(T'.get t).k=.dead:=by
  intro t ht
  rw[hT',get_tabU]
  by_cases h1:1000000≤t
  ·rw[if_pos h1]
   by_cases h2:t=1000000
   ·subst h2;rfl
   ·rw[List.getElem?_eq_none (by simp only[List.length_singleton];omega)]
    by_cases h3:2000000≤t
    ·rw[if_pos h3,List.getElem?_eq_none (by simp only[List.length_singleton];omega)]
    ·rw[if_neg h3]
  ·rw[if_neg h1,if_neg (by omega)]
 have hlv:∀t,T'.live t→t=2000000:=fun t ht=>by
  by_cases h:t=2000000
  ·exact h
  ·simp only[Tab.live,hgo t h,OK.live] at ht
 have hcells:LR (Rp (Stable S (tabU [.nrow t' false nl ⟨e,l⟩] []) β w) w) ((l.take k++(r++l.drop k)).flatMap (cellsV e)) (A.toList.take ((l.length+1)*e.size)):=by
  rw[k9,List.flatMap_append,List.flatMap_append,flat_take,flat_drop]
  exact(lrTake hlr _).append (hlrv.append (lrDrop hlr _))
 rw[←hT']
 refine⟨_,fun _=>b',rfl,?_,⟨fun t=>?_,fun t u ht hu _=>(hlv t ht).trans (hlv u hu).symm,fun t ht=>(Array.getElem?_eq_some_iff.1 k5).1⟩,?_,rfl,fun j hj hlv'=>?_,fun j hj hlv'=>?_⟩
 ·rcases k10 with⟨q1,_,q3,q4,q5⟩ | ⟨q1,_,q4,q5⟩
  ·rcases hob with q | ⟨q,hlive,arr,fz,hmem,hasz⟩
   ·rw[q] at q1;cases q1
   ·rw[q] at q1;injection q1 with q1
    refine⟨k2,k3,k4,by omega,fun j hj hx=>q5 j (fun qq=>hx ⟨1000000,hlive,by rw[q1,qq]⟩),fun j hj=>?_⟩
    by_cases hjb:j=b'
    ·subst hjb;rw[←q1] at k5 ⊢;exact Shape.of hmem k5 (by omega)
    ·exact Shape.same (q5 j hjb)
  ·exact⟨k2,k3,k4,by omega,fun j hj _=>q5 j hj,fun j hj=>Shape.same (q5 j hj)⟩
 ·by_cases ht:t=2000000
  ·subst ht
   rw[hg2]
   refine .inr ⟨A,fz',c',k5,fun j hj=>k6 j (hj.elim (fun q=>Nat.le_of_lt q) (fun q=>q.2)),k7,h0,?_,fun j d u hd hu=>?_⟩
   ·rw[TL.cells_length,k7];simp only[hlen];exact Nat.mul_le_mul_right _ k8
   ·have hjl:j<(l.length+1)*e.size:=by
     have:=(List.getElem?_eq_some_iff.1 hd).1
     rw[TL.cells_length] at this
     simp only[hlen] at this
     exact this
    have hp:=hcells.2 j d u hd (by rw[List.getElem?_take,if_pos hjl];exact hu)
    obtain⟨x,_,hx⟩:=List.mem_flatMap.1 (List.mem_of_getElem? hd)
    exact .pure (flat_rp hp (flat_cellsV _ _ _ hfl hx))
  ·rw[hgo t ht];trivial
 ·refine .acc ⟨_,_,_,rfl⟩ (by rw[hg2];exact Nat.le_refl _) fun ty' fz'' nl'' L' q=>?_
  rw[hg2] at q
  injection q with _ q
  injection q with q1 q2 q3 q4
  subst q1 q2 q3 q4
  refine .inr ⟨fun q=>by have h2:=congrArg List.length q.2;rw[hlen] at h2;simp at h2,⟨⟨b',0,none⟩,c',c',A,t',fz',congrArg (fun n=>Value.slice (some ⟨b',0,none⟩) n c') hlen.symm,rfl,k5,k7,?_,by omega,fun _=>by rw[Nat.zero_mul]⟩⟩
  simp only[hlen];omega
 ·have:j=0:=by simp at hj;omega
  subst this
  have:=hlv _ hlv'
  omega
 ·have:j=0:=by simp at hj;omega
  subst this
  rcases k10 with⟨q1,_⟩ | ⟨q1,_⟩
  ·rcases hob with q | ⟨q,hlive,_⟩
   ·rw[q] at q1;cases q1
   ·rw[q] at q1;injection q1 with q1
    exact .inr ⟨0,rfl,hlive,q1⟩
  ·exact .inl (by rw[q1];exact Nat.le_refl _)
theorem ins_con {P:Program} {f:FuncId} {e:Ty} {t ty bytes:Nat} (hE:InsE P f t ty e.size bytes) (hP:InsP P f ty e.size bytes) (hfl:e.flatT=true) (h0:0<e.size) (h1:e.size≠1) (hb0:0<bytes) {nl:Bool} {l r q:List e.I} {i:Int}
  (h:cnd (decide (0≤i)&&decide (i≤l.length)&&decide (r.length=1)&&decide ((l.length+1)*bytes≤140737488355328)) (some (l.take i.toNat++(r++l.drop i.toNat))) none=some q):
  Spec2 P f [.acc 1000000 0,.int .i64 i,.lst ⟨e,r⟩] [.nrow ty false nl ⟨e,l⟩] (.acc 2000000 0) [.dead] [.nrow ty false true ⟨e,q⟩]:=by
 cases hc:(decide (0≤i)&&decide (i≤l.length)&&decide (r.length=1)&&decide ((l.length+1)*bytes≤140737488355328)) with
 | false=>rw[hc] at h;cases h
 | true=>
  rw[hc] at h
  injection h with h;subst h
  simp only[Bool.and_eq_true,decide_eq_true_eq] at hc
  obtain⟨⟨⟨h2,h3⟩,h4⟩,h5⟩:=hc
  exact ins_spec2 hE hP hfl h0 h1 hb0 h2 h3 h4 h5
end Go.Abs
