/- Calls to which rows are lent, or handed over; what they give back. -/
import Derived.Test.YtigfokfefnomjaaGreatAbsY
namespace Go.Abs
open Go.RowKit
set_option linter.unusedVariables false
set_option linter.unusedSimpArgs false
abbrev Lend:=Nat→List Nat
def Dn (S:Addr→Prop) (n:Nat) (β:Nat→Nat) (lb lb':List OK):Addr→Prop:=
 fun p=>S p∨n≤p.block∨∃j,lb'[j]? = some .dead∧(tabU lb []).live (1000000+j)∧β (1000000+j)=p.block
def Fn (n:Nat) (β:Nat→Nat) (lb lb':List OK) (b:Nat):Prop:=n≤b∨∃j,lb'[j]? = some .dead∧(tabU lb []).live (1000000+j)∧β (1000000+j)=b
def Spec2 (P:Program) (f:FuncId) (args:List V) (lb:List OK) (res:V) (lb' lf:List OK):Prop:=
 ∀(w:World) (cargs:Array Value) (β:Nat→Nat) (S:Addr→Prop),TR S (tabU lb []) β w→LR (Rv (tabU lb []) β (Stable S (tabU lb []) β w) w) args cargs.toList→
  Calls P f cargs w fun e w'=>∃v β',e=.returned v∧Kept (fun b=>∃t,(tabU lb []).live t∧β t=b) w w'∧
   TR (Dn S w.heap.size β lb lb') (tabU lb' lf) β' w'∧
   Rv (tabU lb' lf) β' (Stable (Dn S w.heap.size β lb lb') (tabU lb' lf) β' w') w' res v∧
   lb.length=lb'.length∧(∀j,j<lb.length→(tabU lb' lf).live (1000000+j)→β' (1000000+j)=β (1000000+j))∧∀j,j<lf.length→(tabU lb' lf).live (2000000+j)→Fn w.heap.size β lb lb' (β' (2000000+j))
def Ty.flatT:Ty→Bool
 | .int _ | .bool | .str | .unit | .inil=>true
 | .list _=>false
 | .pair a b=>a.flatT&&b.flatT
 | .agg t=>t.flatT
 | .alt _ a r=>a.flatT&&r.flatT
 | .alt1 _ a=>a.flatT
theorem QD:∀{cs:List V},(∀d∈cs,d.flat=true)→z6 cs=true
 | [],_=>rfl
 | v::r,h=>by simp_all[z6,Bool.and_eq_true,QD]
theorem kW {cs:List V} (h:∀d∈cs,d.flat=true):(cs.headD .pnil).flat=true:=by
 cases cs with
 | nil=>rfl
 | cons v r=>grind
theorem yW {a:Ty} {cs:List V} (h:∀d∈cs,d.flat=true):(vOf a cs).flat=true:=by
 have h2:=kW h
 (unfold vOf<;>grind[vOf,V.flat,QD])
theorem qu:∀(t:Ty) (x:t.I) (d:V),t.flatT=true→d∈cellsV t x→d.flat=true
 | .int _,x,d,_,h=>by simp only[cellsV,List.mem_singleton] at h;subst h;rfl
 | .bool,x,d,_,h=>by simp only[cellsV,List.mem_singleton] at h;subst h;rfl
 | .str,x,d,_,h=>by simp only[cellsV,List.mem_singleton] at h;subst h;rfl
 | .list _,x,d,h,_=>by simp[Ty.flatT] at h
 | .unit,x,d,_,h=>by simp[cellsV] at h
 | .pair a b,x,d,hf,h=>by
  simp only[Ty.flatT,Bool.and_eq_true] at hf
  simp only[cellsV,List.mem_append] at h
  rcases h with h | h
  ·exact qu a _ d hf.1 h
  ·exact qu b _ d hf.2 h
 | .agg t,x,d,hf,h=>qu t x d hf h
 | .alt t a r,.inl y,d,hf,h=>by
  simp only[Ty.flatT,Bool.and_eq_true] at hf
  simp only[cellsV,List.mem_singleton] at h;subst h;simp only[V.flat];exact yW fun d hd=>qu a y d hf.1 hd
 | .alt t a r,.inr z,d,hf,h=>by
  simp only[Ty.flatT,Bool.and_eq_true] at hf
  simp only[cellsV,List.mem_singleton] at h;subst h;exact kW fun d hd=>qu r z d hf.2 hd
 | .alt1 t a,x,d,hf,h=>by
  simp only[Ty.flatT] at hf
  simp only[cellsV,List.mem_singleton] at h;subst h;simp only[V.flat];exact yW fun d hd=>qu a x d hf hd
 | .inil,x,d,_,h=>by simp only[cellsV,List.mem_singleton] at h;subst h;rfl
def OK.flat:OK→Bool
 | .dead=>true
 | .box _ cs=>z6 cs
 | .row _ _ _ cs=>z6 cs
 | .nrow _ _ _ L=>L.e.flatT
 | .iter _ _=>false
 | .mp _=>false
def Qm:List OK→(OK→Bool)→Bool
 | [],_=>true
 | k::r,f=>f k&&Qm r f
theorem xw {f:OK→Bool}:∀{l:List OK},Qm l f=true→∀(i:Nat) (k:OK),l[i]? = some k→f k=true
 | [],_,i,d,h=>by simp at h
 | v::r,hp,i,d,h=>by
  simp only[Qm,Bool.and_eq_true] at hp
  cases i with
  | zero=>simp at h;subst h;exact hp.1
  | succ i=>exact xw hp.2 i d (by simpa using h)
def vW:V→Bool
 | .acc _ _ | .own _ _ _ _ | .ptr _ _ _=>true
 | v=>v.flat
def kd:V→Bool
 | .tup vs=>vs.all vW
 | v=>vW v
def qz (res:V) (lb' lf:List OK):Bool:=kd res&&Qm lb' OK.flat&&Qm lf OK.flat
section
variable {κ : Cx} {ι : Nat → Nat} {st : St} {a : Act} {w : World}
theorem XB (h:RelI κ ι st a w) {T':Tab} {ι':Nat→Nat} {w':World} (bs fs:List Nat)
  (h1:∀t,t∉bs→t∉fs→T'.get t=st.o.get t∧ι' t=ι t)
  (h2 : ∀ t ∈ bs, t ∉ fs ∧ ι' t = ι t ∧ ((∃ ty cs cs', (st.o.get t).k = .box ty cs ∧ T'.get t = ⟨(st.o.get t).gen, .box ty cs'⟩) ∨
   (∃ty nl L L',(st.o.get t).k=.nrow ty false nl L∧T'.get t=⟨(st.o.get t).gen,.nrow ty false nl L'⟩∧L'.e=L.e∧L'.l.length=L.l.length)∨
   (∃ty nl L,(st.o.get t).k=.nrow ty false nl L∧T'.get t=⟨(st.o.get t).gen+1,.dead⟩)))
  (h3:∀t∈fs,(st.o.get t).gen<(T'.get t).gen∧(T'.live t→w.heap.size≤ι' t∨∃s∈bs,st.o.live s∧ι s=ι' t∧(T'.get s).k=.dead))
  (hlt:∀t∈fs,T'.live t→ι' t<w'.heap.size) (hinj:∀t∈fs,∀u∈fs,T'.live t→T'.live u→ι' t=ι' u→t=u)
  (hk:Kept (fun b=>∃t∈bs,st.o.live t∧ι t=b) w w')
  (hob:Goes κ.D st.o ι w T' ι' w'→∀t,(t∈bs∨t∈fs)→ObRel T' ι' (Stable κ.D T' ι' w') w' (ι' t) (T'.get t).k):
  To κ st.o ι w T' ι' w':=by
 have nfz:∀t∈bs,∀o,¬(st.o.get t).k.fzAt o:=fun t ht o hf=>by
  obtain⟨_,_,⟨ty,cs,cs',hk,_⟩ | ⟨ty,nl,L,L',hk,_⟩ | ⟨ty,nl,L,hk,_⟩⟩:=h2 t ht<;>rw[hk] at hf<;>exact hf
 have live_bs:∀t∈bs,T'.live t→st.o.live t:=fun t ht hl=>by
  grind[Tab.live,OK.live]
 have other:∀t,st.o.live t→t∉bs→w'.heap[ι t]? = w.heap[ι t]?:=fun t hl hn=>
  hk.block _ (h.tr.lt t hl) fun⟨u,hu,hlu,e⟩=>hn (h.tr.inj u t hlu hl e▸hu)
 have H:Goes κ.D st.o ι w T' ι' w':=by
  refine⟨fun p hp=>?_,fun t=>?_,fun t hl hg=>?_,fun t g ty sz fz' cs' hT hg=>?_,fun t g ty fz nl L hT hg=>?_⟩
  ·have hnb:∀u∈bs,st.o.live u→ι u≠p.block:=fun u hu hlu e=>nfz u hu _ (hp.2.2 u hlu e)
   refine⟨⟨hp.1,Nat.lt_of_lt_of_le hp.2.1 hk.size,fun t hl e=>?_⟩,cell_congr (hk.block _ hp.2.1 fun⟨u,hu,hlu,e⟩=>hnb u hu hlu e)⟩
   by_cases hfs:t∈fs
   ·rcases (h3 t hfs).2 hl with q | ⟨s,hs,hsl,hse,_⟩
    ·have:=hp.2.1
     omega
    grind
   ·by_cases hbs:t∈bs
    ·grind
    ·obtain⟨e1,e2⟩:=h1 t hbs hfs
     rw[e1]
     exact hp.2.2 t (by grind[Tab.live]) (e2▸e)
  ·by_cases hfs:t∈fs
   ·grind
   ·by_cases hbs:t∈bs
    ·grind
    grind
  ·grind[Tab.live]
  ·by_cases hfs:t∈fs
   ·grind
   ·by_cases hbs:t∈bs
    ·grind
    ·obtain⟨e1,e2⟩:=h1 t hbs hfs
     rw[e1] at hT
     refine⟨⟨ty,fz',cs',hT⟩,fun arr ty1 fz hh=>⟨arr,ty1,fz,?_,rfl⟩⟩
     grind[Tab.live,OK.live]
  ·by_cases hfs:t∈fs
   ·grind
   ·by_cases hbs:t∈bs
    ·obtain⟨_,_,⟨ty1,cs,cs1,_,e⟩ | ⟨ty1,nl1,L1,L',hk1,e,e1,e2⟩ | ⟨ty1,nl1,L1,_,e⟩⟩:=h2 t hbs
     ·grind
     ·rw[e] at hT
      simp only[Ob.mk.injEq,OK.nrow.injEq] at hT
      obtain⟨hg',rfl,rfl,rfl,rfl⟩:=hT
      have hT0:st.o.get t=⟨g,.nrow ty1 false nl1 L1⟩:=by (cases hq:st.o.get t<;>grind)
      refine⟨⟨_,_,_,_,hT0,e1.symm,e2.symm,rfl⟩,fun hn arr ty2 fz2 hh=>?_⟩
      have hl:st.o.live t:=by
       grind[Tab.live,OK.live]
      exact hk.shape _ (h.tr.lt t hl) arr ty2 fz2 hh
     grind
    ·obtain⟨e1,e2⟩:=h1 t hbs hfs
     rw[e1] at hT
     refine⟨⟨ty,fz,nl,L,hT,rfl,rfl,rfl⟩,fun hn arr ty1 fz hh=>⟨arr,ty1,fz,?_,rfl⟩⟩
     grind[Tab.live,OK.live]
 refine⟨H,⟨fun t=>?_,fun t u ht hu e=>?_,fun t hl=>?_⟩,fun t hl=>?_,?_⟩
 ·by_cases hx:t∈bs∨t∈fs
  ·grind
  ·obtain⟨e1,e2⟩:=h1 t (fun hb=>hx (.inl hb)) (fun hf=>hx (.inr hf))
   rw[e1,e2]
   by_cases hl:st.o.live t
   ·exact(h.tr.ob t).mono H (other t hl fun hb=>hx (.inl hb))
   ·cases hkk:(st.o.get t).k with
    | dead=>trivial
    | nrow ty fz nl L=>
     (left<;>grind[absurd,Tab.live,OK.live])
    | _=>exact absurd (by simp[Tab.live,hkk,OK.live]) hl
 ·have old:∀t,T'.live t→t∉fs→st.o.live t∧ι' t=ι t:=by
   grind[Tab.live]
  have cross:∀t u,t∈fs→u∉fs→T'.live t→T'.live u→ι' t≠ι' u:=by
   intro t u hft hfu ht hu e
   obtain⟨l1,e1⟩:=old u hu hfu
   rcases (h3 t hft).2 ht with q | ⟨s,hs,hsl,hse,hsd⟩
   ·have:=h.tr.lt u l1
    omega
   ·have:=h.tr.inj s u hsl l1 (by rw[hse,e,e1])
    grind[Tab.live,OK.live]
  by_cases hft:t∈fs<;>by_cases hfu:u∈fs
  ·grind
  ·grind
  ·grind
  ·obtain⟨l1,e1⟩:=old t ht hft
   obtain⟨l2,e2⟩:=old u hu hfu
   exact h.tr.inj t u l1 l2 (by grind)
 ·by_cases hfs:t∈fs
  ·grind
  ·by_cases hbs:t∈bs
   ·rw[(h2 t hbs).2.1]
    exact Nat.lt_of_lt_of_le (h.tr.lt t (live_bs t hbs hl)) hk.size
   ·obtain⟨e1,e2⟩:=h1 t hbs hfs
    rw[e2]
    exact Nat.lt_of_lt_of_le (h.tr.lt t (by grind[Tab.live])) hk.size
 ·by_cases hfs:t∈fs
  ·rcases (h3 t hfs).2 hl with q | ⟨s,hs,hsl,hse,_⟩
   ·exact .inl (Nat.le_trans h.kept.size q)
   ·rw[←hse];exact h.my s hsl
  ·by_cases hbs:t∈bs
   ·rw[(h2 t hbs).2.1];exact h.my t (live_bs t hbs hl)
   ·obtain⟨e1,e2⟩:=h1 t hbs hfs
    rw[e2];exact h.my t (by grind[Tab.live])
 ·exact h.kept.then hk fun i _ ⟨u,hu,hlu,e⟩=>by rw[←e];exact h.my u hlu
end
end Go.Abs
namespace Go.Abs
open Go.RowKit
set_option linter.unusedVariables false
set_option linter.unusedSimpArgs false
def Qu (T:Tab) (bs:List Nat) (v:V):Option (V×List Nat×List Nat):=
 match v with
 | .acc s g=>if (T.get s).gen=g∧bs.contains s=false then(match (T.get s).k with
  | .nrow _ false _ _=>some (.acc (1000000+bs.length) 0,[],bs++[s])
  | _=>none) else none
 | _=>none
def qK (n:Nat) (T:Tab) (ld:List Nat):Nat→List Nat→List V→Option (List V×List Nat×List Nat)
 | _,bs,[]=>some ([],[],bs)
 | i,bs,v::r=>match (if ld.contains i=true then Qu T bs v else viewA n T bs v) with
  | some (x,l,bs')=>match qK n T ld (i+1) bs' r with
   | some (xs,l',bs'')=>some (x::xs,l++l',bs'')
   | none=>none
  | none=>none
def xE (n:Nat) (T:Tab):List Nat→Option (List OK×List Nat)
 | []=>some ([],[])
 | s::r=>match (match (T.get s).k with
   | .box ty cs=>(mapV (view n T) cs).map fun p=>(OK.box ty p.1,p.2)
   | .nrow ty false nl L=>some (OK.nrow ty false nl L,[])
   | _=>none) with
  | some (k,l)=>match xE n T r with
   | some (ks,l')=>some (k::ks,l++l')
   | none=>none
  | none=>none
def zp (T:Tab):List Nat→List OK→Option Tab
 | [],[]=>some T
 | s::r,k::lb'=>match (match (T.get s).k,k with
   | .box ty _,.box ty' cs=>if ty=ty'∧pureL cs=true then some (Ob.mk (T.get s).gen (.box ty cs)) else none
   | .nrow ty false nl L,.nrow ty' false nl' L'=>if ty=ty'∧nl=nl'∧L'.e=L.e then some (Ob.mk (T.get s).gen (.nrow ty false nl L')) else none
   | .nrow ty false nl L,.dead=>some (Ob.mk ((T.get s).gen+1) .dead)
   | _,_=>none) with
  | some o=>zp (T.put s o) r lb'
  | none=>none
 | _,_=>none
def kT (T:Tab):List Nat→List OK→List Bool
 | s::r,k::lb'=>match (T.get s).k,k with
  | .nrow _ _ _ L,.nrow _ _ _ L'=>decide (L'.l.length=L.l.length)::kT T r lb'
  | _,_=>kT T r lb'
 | _,_=>[]
theorem Qt {T:Tab}:∀(bs:List Nat) (lb':List OK),(kT T bs lb').all id=true→∀(j s:Nat) (ty ty':Nat) (fz fz' nl nl':Bool) (L L':TL),bs[j]? = some s→(T.get s).k=.nrow ty fz nl L→lb'[j]? = some (.nrow ty' fz' nl' L')→L'.l.length=L.l.length
 | [],lb',_,j,s,_,_,_,_,_,_,_,_,hs,_,_=>by simp at hs
 | _::_,[],_,j,s,_,_,_,_,_,_,_,_,_,_,hk=>by simp at hk
 | s0::r,k0::lb',h,j,s,ty,ty',fz,fz',nl,nl',L,L',hs,hT,hk=>by
  cases j with
  | zero=>
   simp_all[kT,List.all_cons,Bool.and_eq_true,id,decide_eq_true_eq]
  | succ j=>
   refine Qt r lb' ?_ j s ty ty' fz fz' nl nl' L L' (by simpa using hs) hT (by simpa using hk)
   simp only[kT] at h
   grind
def xa:OK→Bool
 | .row _ _ _ cs=>pureL cs
 | .box _ cs=>pureL cs
 | .nrow _ _ _ _=>true
 | _=>false
def xz (bs:List Nat) (d:Nat) (T:Tab):Nat→List OK→Option Tab
 | _,[]=>some T
 | j,k::r=>if xa k=true∧bs.contains (fsite d j)=false then xz bs d (T.put (fsite d j) ⟨(T.get (fsite d j)).gen+1,k⟩) (j+1) r else none
def fin2 (T:Tab) (l bs:List Nat) (d:Nat) (res:V) (lb' lf:List OK):Option (V×Tab):=
 if lf.length≤4∧bs.all (fun s=>!l.contains s)=true∧(kT T bs lb').all id=true then
  match zp (if qz res lb' lf=true then T else T.freezes l) bs lb' with
  | some T2=>match xz bs d T2 0 lf with
   | some T3=>(ren T3 bs d lf.length res).map fun v=>(v,T3)
   | none=>none
  | none=>none
 else none
def vn (Γ:Orc) (Λ:Lend) (T:Tab) (f:Nat) (args:List V) (d:Nat):Option (V×Tab):=
 match qK depth T (Λ f) 0 [] args with
 | some (xs,l,bs)=>
  if bs.Nodup∧bs.length<1000000 then
   match xE depth T bs with
   | some (lb,l2)=>
    match Γ f xs lb with
    | some (res,lb',lf)=>fin2 T (l++l2) bs d res lb' lf
    | none=>none
   | none=>none
  else none
 | none=>none
theorem yd {n:Nat} {T:Tab}:∀(bs:List Nat) (lb:List OK) (l2:List Nat),xE n T bs=some (lb,l2)→lb.length=bs.length∧
  ∀(j s:Nat),bs[j]? = some s→(∃ty cs xs l',(T.get s).k=.box ty cs∧lb[j]? = some (.box ty xs)∧mapV (view n T) cs=some (xs,l')∧∀s'∈l',s'∈l2)∨
   (∃ty nl L,(T.get s).k=.nrow ty false nl L∧lb[j]? = some (.nrow ty false nl L))
 | [],lb,l2,h=>by simp[xE] at h;obtain⟨rfl,rfl⟩:=h;simp
 | s::r,lb,l2,h=>by
  simp only[xE] at h
  split at h
  ·rename_i k l hk
   split at h
   ·rename_i ks l' hr
    simp at h
    obtain⟨rfl,rfl⟩:=h
    obtain⟨h0,h1⟩:=yd r ks l' hr
    refine⟨by simp[h0],fun j u hu=>?_⟩
    cases j with
    | zero=>
     simp at hu;subst hu
     split at hk
     ·rename_i ty cs e
      cases hm:mapV (view n T) cs with
      | none=>simp[hm] at hk
      | some p=>
       simp[hm] at hk
       obtain⟨rfl,rfl⟩:=hk
       exact .inl ⟨ty,cs,p.1,p.2,e,rfl,hm,fun s' hs'=>by simp[hs']⟩
     ·rename_i ty nl L e
      simp at hk
      obtain⟨rfl,rfl⟩:=hk
      exact .inr ⟨ty,nl,L,e,rfl⟩
     ·cases hk
    | succ j=>
     simp at hu
     rcases h1 j u hu with⟨ty1,cs1,xs1,l1,e1,e2,e3,e4⟩ | ⟨ty,nl,L,e1,e2⟩
     ·exact .inl ⟨ty1,cs1,xs1,l1,e1,by simpa using e2,e3,fun s' hs'=>by simp[e4 s' hs']⟩
     ·exact .inr ⟨ty,nl,L,e1,by simpa using e2⟩
   ·cases h
  ·cases h
theorem kF:∀(bs:List Nat) (lb':List OK) (T T2:Tab),bs.Nodup→zp T bs lb'=some T2→bs.length=lb'.length∧(∀t,t∉bs→T2.get t=T.get t)∧
  ∀(j s:Nat),bs[j]? = some s→(∃ty cs cs',(T.get s).k=.box ty cs∧lb'[j]? = some (.box ty cs')∧pureL cs'=true∧T2.get s=⟨(T.get s).gen,.box ty cs'⟩)∨
   (∃ty nl L L',(T.get s).k=.nrow ty false nl L∧lb'[j]? = some (.nrow ty false nl L')∧T2.get s=⟨(T.get s).gen,.nrow ty false nl L'⟩∧L'.e=L.e)∨
   (∃ty nl L,(T.get s).k=.nrow ty false nl L∧lb'[j]? = some .dead∧T2.get s=⟨(T.get s).gen+1,.dead⟩)
 | [],[],T,T2,_,h=>by simp_all[zp]
 | [],_::_,T,T2,_,h=>by simp[zp] at h
 | _::_,[],T,T2,_,h=>by simp[zp] at h
 | s::r,k::lb',T,T2,hn,h=>by
  simp only[List.nodup_cons] at hn
  simp only[zp] at h
  split at h
  ·rename_i o ho
   obtain⟨h0,h1,h2⟩:=kF r lb' _ T2 hn.2 h
   refine⟨by simp[h0],fun t ht=>?_,fun j u hu=>?_⟩
   ·simp only[List.mem_cons,not_or] at ht
    rw[h1 t ht.2,Tab.get_put,if_neg (Ne.symm ht.1)]
   ·cases j with
    | zero=>
     simp at hu;subst hu
     have e2:T2.get s=o:=by rw[h1 s hn.1,Tab.get_put,if_pos rfl]
     grind
    | succ j=>
     simp at hu
     have hne:s≠u:=by grind
     have:=h2 j u hu
     rw[Tab.get_put,if_neg hne] at this
     simpa using this
  ·cases h
theorem vU (bs:List Nat) (d:Nat):∀(lf:List OK) (j0:Nat) (T T3:Tab),xz bs d T j0 lf=some T3→(∀t,(∀j,j<lf.length→t≠fsite d (j0+j))→T3.get t=T.get t)∧
  ∀(j:Nat) (k:OK),lf[j]? = some k→xa k=true∧fsite d (j0+j)∉bs∧T3.get (fsite d (j0+j))=⟨(T.get (fsite d (j0+j))).gen+1,k⟩
 | [],j0,T,T3,h=>by grind[xz]
 | k::r,j0,T,T3,h=>by
  simp only[xz] at h
  split at h
  ·rename_i hc
   obtain⟨h1,h2⟩:=vU bs d r (j0+1) _ T3 h
   refine⟨fun t ht=>?_,fun j k' hk=>?_⟩
   ·rw[h1 t fun j hj=>by have:=ht (j+1) (by simp;omega);grind,Tab.get_put,if_neg]
    exact fun e=>ht 0 (by simp) (by rw[←e];rfl)
   ·cases j with
    | zero=>
     grind[jv,Tab.get_put]
    | succ j=>
     simp at hk
     obtain⟨a1,a2,a3⟩:=h2 j k' hk
     rw[show j0+1+j=j0+(j+1) from by omega] at a2 a3
     refine⟨a1,a2,?_⟩
     rw[a3,Tab.get_put,if_neg]
     grind[jv]
  ·cases h
theorem Jk {T:Tab} {bs bs':List Nat} {v x:V} {l:List Nat} (h:Qu T bs v=some (x,l,bs')):∃r,bs'=bs++r:=by
 (unfold Qu at h<;>grind[Qu])
theorem jX {n:Nat} {T:Tab} {ld:List Nat}:∀(vs:List V) (i:Nat) (bs bs':List Nat) (xs:List V) (l:List Nat),qK n T ld i bs vs=some (xs,l,bs')→∃r,bs'=bs++r
 | [],i,bs,bs',xs,l,h=>by simp[qK] at h;exact⟨[],by simp[h.2.2]⟩
 | v::r,i,bs,bs',xs,l,h=>by
  simp only[qK] at h
  split at h
  ·rename_i x l1 bs1 h1
   split at h
   ·rename_i ys l2 bs2 h2
    simp at h
    have:∃r1,bs1=bs++r1:=by
     split at h1
     ·exact Jk h1
     ·exact xm h1
    obtain⟨r1,e1⟩:=this
    obtain⟨r2,e2⟩:=jX r (i+1) bs1 bs2 ys l2 h2
    exact⟨r1++r2,by rw[←h.2.2,e2,e1,List.append_assoc]⟩
   ·cases h
  ·cases h
def RA2 (st:St) (κ:Cx) (ι:Nat→Nat) (w:World) (bs:List Nat) (x:V) (cv:Value):Prop:=
 RA st κ ι w bs x cv∨∃j s g,bs[j]? = some s∧x=.acc (1000000+j) 0∧(st.o.get s).gen=g∧Rv st.o ι (Stable κ.D st.o ι w) w (.acc s g) cv
theorem RA.grow {st:St} {κ:Cx} {ι:Nat→Nat} {w:World} {bs r:List Nat} {x:V} {cv:Value} (h:RA st κ ι w bs x cv):RA st κ ι w (bs++r) x cv:=by
 rcases h with hp | ⟨j,off,s,hj,e1,e2⟩ | ⟨f,ys,us,e1,e2,hl⟩
 ·exact .inl hp
 ·exact .inr (.inl ⟨j,off,s,by grind,e1,e2⟩)
 ·(refine .inr (.inr ⟨f,ys,us,e1,e2,hl.mono fun x u hxu=>?_⟩)<;>grind[List.getElem?_append_left,List.getElem?_eq_some_iff])
theorem RA2.grow {st:St} {κ:Cx} {ι:Nat→Nat} {w:World} {bs r:List Nat} {x:V} {cv:Value} (h:RA2 st κ ι w bs x cv):RA2 st κ ι w (bs++r) x cv:=by
 rcases h with h | ⟨j,s,g,hj,e⟩
 ·exact .inl h.grow
 ·exact .inr ⟨j,s,g,by grind,e⟩
section
variable {κ : Cx} {ι : Nat → Nat} {st : St} {a : Act} {w : World}
theorem xG (h:RelI κ ι st a w) {T:Tab} {n:Nat} {ld L:List Nat} (hl:∀s∈L,(st.o.get s).k=(T.get s).k.freeze∧(st.o.get s).gen=(T.get s).gen)
  (hbox:∀s ty cs,(T.get s).k=.box ty cs→st.o.get s=T.get s):
  ∀(vs:List V) (i:Nat) (bs bs':List Nat) (xs:List V) (l:List Nat) (us:List Value),qK n T ld i bs vs=some (xs,l,bs')→(∀s∈l,s∈L)→(∀s∈bs',(st.o.get s).gen=(T.get s).gen)→
   LR (Rv st.o ι (Stable κ.D st.o ι w) w) vs us→LR (RA2 st κ ι w bs') xs us
 | [],i,bs,bs',xs,l,us,h',_,_,hr=>by
  simp[qK] at h'
  obtain⟨rfl,rfl,rfl⟩:=h'
  have:us=[]:=List.eq_nil_of_length_eq_zero (by simpa using hr.1.symm)
  subst this
  exact .nil
 | v::r,i,bs,bs',xs,l,us,h',hsub,hg,hr=>by
  obtain⟨u,us',rfl,hu,hr'⟩:=hr.head
  simp only[qK] at h'
  split at h'
  ·rename_i x l1 bs1 h1
   split at h'
   ·rename_i ys l2 bs2 h2
    simp at h'
    obtain⟨rfl,rfl,rfl⟩:=h'
    obtain⟨r2,e2⟩:=jX r (i+1) bs1 bs2 ys l2 h2
    refine .cons ?_ (xG h hl hbox r (i+1) bs1 bs2 ys l2 us' h2 (fun s hs=>hsub s (by simp[hs])) hg hr')
    rw[e2]
    refine RA2.grow ?_
    split at h1
    ·unfold Qu at h1
     split at h1
     ·rename_i s g
      split at h1
      ·rename_i hc
       split at h1
       ·simp at h1
        obtain⟨rfl,rfl,rfl⟩:=h1
        exact .inr ⟨bs.length,s,g,by simp,rfl,by grind,hu⟩
       ·cases h1
      ·cases h1
     ·cases h1
    ·exact .inl (kg h h1 (fun s hs=>hl s (hsub s (by simp[hs]))) hbox hu)
   ·cases h'
  ·cases h'
set_option maxHeartbeats 1000000 in
theorem JO {Γ:Orc} {Λ:Lend} (hΓ:∀f xs lb res lb' lf,Γ f xs lb=some (res,lb',lf)→Spec2 κ.P f xs lb res lb' lf) (h:RelI κ ι st a w) {f d:Nat} {args:List V} {v:V} {T':Tab} {cargs:Array Value}
  (hx:vn Γ Λ st.o f args d=some (v,T')) (hr:LR (Rv st.o ι (Stable κ.D st.o ι w) w) args cargs.toList):
  Calls κ.P f cargs w fun e w'=>∃cv ι',e=.returned cv∧To κ st.o ι w T' ι' w'∧Rv T' ι' (Stable κ.D T' ι' w') w' v cv:=by
 unfold vn at hx
 split at hx
 case h_2=>cases hx
 rename_i xs l bs hview
 split at hx
 case isFalse=>cases hx
 rename_i hndl
 obtain⟨hnd,hbl⟩:=hndl
 split at hx
 case h_2=>cases hx
 rename_i lb l2 hbox
 split at hx
 case h_2=>cases hx
 rename_i res lb' lf hg
 unfold fin2 at hx
 split at hx
 case isFalse=>cases hx
 rename_i hc4
 obtain⟨hlf4,hdis,hlens⟩:=hc4
 have hdis':∀s∈bs,s∉l++l2:=fun s hs=>by grind
 split at hx
 case h_2=>cases hx
 rename_i T2 hrev
 split at hx
 case h_2=>cases hx
 rename_i T3 hfresh
 cases hren:ren T3 bs d lf.length res with
 | none=>grind
 | some v'=>
  simp[hren] at hx
  obtain⟨rfl,rfl⟩:=hx
  have hto1:=To.freezes h (l++l2)
  have h1:=To.rel h hto1
  have hgetF:∀s,(st.o.freezes (l++l2)).get s=if s∈l++l2 then⟨(st.o.get s).gen,(st.o.get s).k.freeze⟩ else st.o.get s:=fun s=>Tab.get_freezes _ _ _
  generalize hT1:st.o.freezes (l++l2)=T1 at *
  have hfz:∀s∈l++l2,(T1.get s).k=(st.o.get s).k.freeze∧(T1.get s).gen=(st.o.get s).gen:=fun s hs=>by grind
  have hgen:∀s,(T1.get s).gen=(st.o.get s).gen:=fun s=>by grind
  have hbx:∀s ty cs,(st.o.get s).k=.box ty cs→T1.get s=st.o.get s:=by
   intro s ty cs hk
   rw[hgetF]
   split
   ·cases hs:st.o.get s;rw[hs] at hk;simp at hk;subst hk;rfl
   ·rfl
  have hsame:∀s∈bs,T1.get s=st.o.get s:=fun s hs=>by grind
  have base:∃Tb,Tb=(if qz res lb' lf=true then st.o else T1)∧To κ st.o ι w Tb ι w∧RelI κ ι { st with o:=Tb } a w∧(∀s∈bs,Tb.get s=st.o.get s)∧(qz res lb' lf=false→Tb=T1):=by
   by_cases hfl:qz res lb' lf=true
   ·exact⟨st.o,by rw[if_pos hfl],To.refl h,h,fun _ _=>rfl,fun e=>by grind⟩
   grind
  obtain⟨Tb,hTb,htob,hb,hsb,hTb1⟩:=base
  rw[←hTb] at hrev
  obtain⟨hlb,hboxes⟩:=yd bs lb l2 hbox
  obtain⟨hlb',hnotbs,hrevs0⟩:=kF bs lb' Tb T2 hnd hrev
  have hrevs:∀(j s:Nat),bs[j]? = some s→(∃ty cs cs',(Tb.get s).k=.box ty cs∧lb'[j]? = some (.box ty cs')∧pureL cs'=true∧T2.get s=⟨(Tb.get s).gen,.box ty cs'⟩)∨
    (∃ty nl L L',(Tb.get s).k=.nrow ty false nl L∧lb'[j]? = some (.nrow ty false nl L')∧T2.get s=⟨(Tb.get s).gen,.nrow ty false nl L'⟩∧L'.e=L.e∧L'.l.length=L.l.length)∨
    (∃ty nl L,(Tb.get s).k=.nrow ty false nl L∧lb'[j]? = some .dead∧T2.get s=⟨(Tb.get s).gen+1,.dead⟩):=fun j s hs=>by
   grind[Qt,List.mem_of_getElem?]
  obtain⟨hnotf,hfr⟩:=vU bs d lf 0 T2 T3 hfresh
  simp only[Nat.zero_add] at hnotf hfr
  let β:Nat→Nat:=fun t=>match bs[t-1000000]? with | some s=>ι s | none=>0
  let S:Addr→Prop:=Stable κ.D T1 ι w
  have βeq:∀j s,bs[j]? = some s→β (1000000+j)=ι s:=by
   grind
  have getB:∀t k,(tabU lb []).get t=⟨0,k⟩→k.live→∃j s,t=1000000+j∧bs[j]? = some s∧lb[j]? = some k∧β t=ι s:=by
   intro t k hk hl
   rw[get_tabU] at hk
   split at hk
   ·rename_i k' hk'
    split at hk'
    ·rename_i hge
     injection hk with _ e;subst e
     have hj:t-1000000<bs.length:=by grind
     refine⟨t-1000000,bs[t-1000000],by omega,List.getElem?_eq_getElem hj,hk',?_⟩
     simp only[β,List.getElem?_eq_getElem hj]
    ·cases hk'
   ·split at hk
    ·grind
    ·injection hk with _ e;subst e;exact hl.elim
  have liveB:∀t,(tabU lb []).live t→∃j s k,t=1000000+j∧bs[j]? = some s∧lb[j]? = some k∧β t=ι s∧(tabU lb []).get t=⟨0,k⟩∧k.live:=by
   intro t hl
   have hg0:((tabU lb []).get t).gen=0:=by
    rw[get_tabU];split;· rfl
    ·split<;>rfl
   have hgk:(tabU lb []).get t=⟨0,((tabU lb []).get t).k⟩:=by (cases hq:(tabU lb []).get t<;>grind[tabU,get])
   obtain⟨j,s,e1,e2,e3,e4⟩:=getB t _ hgk hl
   exact⟨j,s,_,e1,e2,e3,e4,hgk,hl⟩
  have getBj:∀j k,lb[j]? = some k→(tabU lb []).get (1000000+j)=⟨0,k⟩:=by
   intro j k hk
   rw[get_tabU]
   grind
  have own1:∀(j s:Nat) (k:OK),bs[j]? = some s→lb[j]? = some k→(∃ty cs xs l',(T1.get s).k=.box ty cs∧k=.box ty xs∧mapV (view depth st.o) cs=some (xs,l')∧∀s'∈l',s'∈l2)∨
    (∃ty nl L,(T1.get s).k=.nrow ty false nl L∧k=.nrow ty false nl L):=by
   grind
  have liveT1:∀(j s:Nat) (k:OK),bs[j]? = some s→lb[j]? = some k→(k.live↔T1.live s):=by
   grind[Tab.live,OK.live]
  have nfzT1:∀(j s:Nat) (k:OK),bs[j]? = some s→lb[j]? = some k→∀o,¬(T1.get s).k.fzAt o:=by
   intro j s k hs hk o hf
   rcases own1 j s k hs hk with⟨ty,cs,xs',l',e1,e2,_⟩ | ⟨ty,nl,L,e1,e2⟩<;>(rw[e1] at hf;exact hf)
  have hSB:∀p,S p→Stable S (tabU lb []) β w p:=by
   intro p hp
   refine⟨hp,hp.2.1,fun t hl e=>?_⟩
   obtain⟨j,s,k,rfl,hs,hk,hβ,_,hkl⟩:=liveB t hl
   exact absurd (hp.2.2 s ((liveT1 j s k hs hk).1 hkl) (by rw[←hβ];exact e)) (nfzT1 j s k hs hk _)
  have ptrB:∀(j off s:Nat),bs[j]? = some s→(∃ty cs,(T1.get s).k=.box ty cs)→Rv (tabU lb []) β (Stable S (tabU lb []) β w) w (.ptr (1000000+j) 0 off) (.pointer (some ⟨ι s,off,none⟩)):=by
   intro j off s hs _
   exact .ptr ⟨_,rfl⟩ (Nat.zero_le _) fun _ _=>by rw[βeq j s hs]
  have ptrB':∀(j off s:Nat),bs[j]? = some s→Rv (tabU lb []) β (Stable S (tabU lb []) β w) w (.ptr (1000000+j) 0 off) (.pointer (some ⟨ι s,off,none⟩)):=by
   intro j off s hs
   exact .ptr ⟨_,rfl⟩ (Nat.zero_le _) fun _ _=>by rw[βeq j s hs]
  have hTRB:TR S (tabU lb []) β w:=by
   refine⟨fun t=>?_,fun t u ht hu e=>?_,fun t ht=>?_⟩
   ·by_cases hl:(tabU lb []).live t
    ·obtain⟨j,s,k,rfl,hs,hk,hβ,hgk,hkl⟩:=liveB t hl
     rw[hgk,hβ]
     have hob:=h1.tr.ob s
     rcases own1 j s k hs hk with⟨ty,cs,xs',l',e1,e2,e3,e4⟩ | ⟨ty,nl,L,e1,e2⟩
     ·subst e2
      rw[e1] at hob
      obtain⟨arr,fz,b1,b2,b3,b4⟩:=hob
      have hm:=zq (R':=Rp (Stable κ.D T1 ι w) w) cs xs' l' arr.toList e3 ⟨by simp[b3],b4⟩ fun v x l'' u hm hv hs' hu=>
       view_ok h1 depth v x l'' u hv (fun s' hs''=>hfz s' (by simp[e4 s' (hs' s' hs'')])) hu
      refine⟨arr,fz,b1,b2,by rw[b3];exact(kR cs xs' l' e3).symm,fun i dd u hd hu=>.pure ((hm.2 i dd u hd hu).mono fun p hp=>⟨hSB p hp,rfl⟩)⟩
     ·subst e2
      rw[e1] at hob
      rcases hob with hb' | ⟨arr,fz,cap,b1,b2,b3,b4,b5,b6⟩
      ·exact .inl hb'
      ·exact .inr ⟨arr,fz,cap,b1,b2,b3,b4,b5,fun i dd u hd hu=>pure_lr hSB (TL.pure_cells hd) (b6 i dd u hd hu)⟩
    ·cases hkk:((tabU lb []).get t).k with
     | dead=>trivial
     | nrow ty fz nl L=>
      (left<;>grind[absurd,Tab.live,OK.live])
     | _=>exact absurd (by simp[Tab.live,hkk,OK.live]) hl
   ·obtain⟨j,s,k,rfl,hs,hk,hβ,_,hkl⟩:=liveB t ht
    obtain⟨j',s',k',rfl,hs',hk',hβ',_,hkl'⟩:=liveB u hu
    rw[hβ,hβ'] at e
    have:=h1.tr.inj s s' ((liveT1 j s k hs hk).1 hkl) ((liveT1 j' s' k' hs' hk').1 hkl') e
    grind[List.getElem?_eq_some_iff,List.getElem_inj,trans]
   ·obtain⟨j,s,k,rfl,hs,hk,hβ,_,hkl⟩:=liveB t ht
    rw[hβ];exact h1.tr.lt s ((liveT1 j s k hs hk).1 hkl)
  have hargs:LR (Rv (tabU lb []) β (Stable S (tabU lb []) β w) w) xs cargs.toList:=by
   have:=xG (st:={ st with o:=T1 }) h1 (T:=st.o) (L:=l++l2) hfz hbx args 0 [] bs xs l cargs.toList hview (fun s hs=>by simp[hs]) (fun s _=>hgen s) (hr.mono fun d u hd=>hd.mono hto1.goes)
   refine this.mono fun x u hxu=>?_
   rcases hxu with(hp | ⟨j,off,s,hj,rfl,rfl⟩ | ⟨f,ys,us,rfl,rfl,hl⟩) | ⟨j,s,g,hj,rfl,hgs,hu⟩
   ·exact .pure (hp.mono fun p hp=>⟨hSB p hp,rfl⟩)
   ·exact ptrB' j off s hj
   ·have:LR (Rv (tabU lb []) β (Stable S (tabU lb []) β w) w) ys us:=hl.mono fun x u hxu=>by
     rcases hxu with hp | ⟨j,off,s,hj,rfl,rfl⟩
     ·exact .pure (hp.mono fun p hp=>⟨hSB p hp,rfl⟩)
     ·exact ptrB' j off s hj
    exact .fn this.1 this.2
   ·refine .acc hu.acc_form (Nat.zero_le _) fun ty fz nl L e=>?_
    have hlt:j<lb.length:=by grind
    have hk:=List.getElem?_eq_getElem hlt
    rw[getBj j _ hk] at e
    simp at e
    rcases own1 j s _ hj hk with⟨ty',cs,xs',l',e1,e2,_⟩ | ⟨ty',nl',L',e1,e2⟩
    ·rw[e] at e2;cases e2
    ·rw[e] at e2
     injection e2 with q1 q2 q3 q4
     subst q1 q2 q3 q4
     have hT:T1.get s=⟨g,.nrow ty false nl L⟩:=by (cases hq:T1.get s<;>grind)
     have:=hu.acc_ hT
     rw[βeq j s hj]
     exact this
  refine(hΓ f xs lb res lb' lf hg w cargs β S hTRB hargs).mono fun e w'=>?_
  rintro⟨cv,β',rfl,hkept,htrU,hres,hlen,hβ1,hβ2⟩
  let fs:List Nat:=(List.range lf.length).map (fsite d)
  let ι':Nat→Nat:=fun t=>if t∈fs then β' (2000000+(t-d) / 100000) else ι t
  have mem_fs:∀t,t∈fs↔∃j,j<lf.length∧t=fsite d j:=fun t=>by
   grind
  have ι_fs:∀j,j<lf.length→ι' (fsite d j)=β' (2000000+j):=fun j hj=>by
   have:(fsite d j-d) / 100000=j:=by unfold fsite;omega
   grind
  have ι_not:∀t,t∉fs→ι' t=ι t:=fun t ht=>by simp only[ι',if_neg ht]
  have bs_not:∀t∈bs,t∉fs:=by
   grind
  have T3_not:∀t,t∉fs→T3.get t=T2.get t:=fun t ht=>hnotf t fun j hj e=>ht ((mem_fs t).2 ⟨j,hj,e⟩)
  have hbll:lb'.length<1000000:=by omega
  have getUf:∀j k,lf[j]? = some k→(tabU lb' lf).get (2000000+j)=⟨0,k⟩:=by
   intro j k hk
   rw[get_tabU]
   grind
  have getUb:∀j k,lb'[j]? = some k→(tabU lb' lf).get (1000000+j)=⟨0,k⟩:=by
   intro j k hk
   rw[get_tabU]
   grind
  have h2:∀t∈bs,t∉fs∧ι' t=ι t∧((∃ty cs cs',(Tb.get t).k=.box ty cs∧T3.get t=⟨(Tb.get t).gen,.box ty cs'⟩)∨
    (∃ty nl L L',(Tb.get t).k=.nrow ty false nl L∧T3.get t=⟨(Tb.get t).gen,.nrow ty false nl L'⟩∧L'.e=L.e∧L'.l.length=L.l.length)∨
    (∃ty nl L,(Tb.get t).k=.nrow ty false nl L∧T3.get t=⟨(Tb.get t).gen+1,.dead⟩)):=by
   intro t ht
   obtain⟨j,hj⟩:=List.mem_iff_getElem?.1 ht
   refine⟨bs_not t ht,ι_not t (bs_not t ht),?_⟩
   rw[T3_not t (bs_not t ht)]
   rcases hrevs j t hj with⟨ty,cs,cs',e1,_,_,e2⟩ | ⟨ty,nl,L,L',e1,_,e2,e3,e4⟩ | ⟨ty,nl,L,e1,_,e2⟩
   ·exact .inl ⟨ty,cs,cs',e1,e2⟩
   ·exact .inr (.inl ⟨ty,nl,L,L',e1,e2,e3,e4⟩)
   ·exact .inr (.inr ⟨ty,nl,L,e1,e2⟩)
  have liveU:∀j,j<lf.length→T3.live (fsite d j)→(tabU lb' lf).live (2000000+j):=by
   grind[Tab.live]
  have liveTb:∀s∈bs,(T1.live s↔Tb.live s):=fun s hs=>by simp only[Tab.live,hsame s hs,hsb s hs]
  have deadT3:∀(j s:Nat),bs[j]? = some s→lb'[j]? = some .dead→T3.get s=⟨(Tb.get s).gen+1,.dead⟩:=fun j s hs hj=>by
   rcases hrevs j s hs with⟨ty,cs,cs',_,q,_⟩ | ⟨ty,nl,L,L',_,q,_⟩ | ⟨ty,nl,L,_,q,q2⟩
   ·rw[hj] at q;cases q
   ·rw[hj] at q;cases q
   ·rw[T3_not s (bs_not s (List.mem_of_getElem? hs)),q2]
  have h3:∀t∈fs,(Tb.get t).gen<(T3.get t).gen∧(T3.live t→w.heap.size≤ι' t∨∃s∈bs,Tb.live s∧ι s=ι' t∧(T3.get s).k=.dead):=by
   intro t ht
   obtain⟨j,hj,rfl⟩:=(mem_fs t).1 ht
   obtain⟨a1,a2,a3⟩:=hfr j lf[j] (List.getElem?_eq_getElem hj)
   refine⟨?_,fun hl=>?_⟩
   ·rw[a3,hnotbs _ a2];exact Nat.lt_succ_self _
   ·rw[ι_fs j hj]
    rcases hβ2 j hj (liveU j hj hl) with q | ⟨i,hi,hil,hib⟩
    ·exact .inl q
    ·(obtain⟨i',s,k,e1,hs,hk,hβs,_,hkl⟩:=liveB _ hil<;>grind[List.mem_of_getElem?,hi])
  have hSU:Tb=T1→Goes κ.D Tb ι w T3 ι' w'→∀p,Stable (Dn S w.heap.size β lb lb') (tabU lb' lf) β' w' p→Stable κ.D T3 ι' w' p:=by
   intro hTT H p hp
   rcases hp.1 with hs | hs | ⟨j,hj,hjl,hjb⟩
   ·exact(H.st p (hTT▸hs)).1
   ·refine⟨.inr (.inl (Nat.le_trans h.kept.size hs)),hp.2.1,fun t hl e=>?_⟩
    by_cases hf:t∈fs
    ·obtain⟨j,hj,rfl⟩:=(mem_fs t).1 hf
     have:=hp.2.2 (2000000+j) (liveU j hj hl) (by rw[←ι_fs j hj];exact e)
     grind
    ·rw[ι_not t hf] at e
     exfalso
     have hlt:ι t<w.heap.size:=by
      by_cases hb':t∈bs
      ·obtain⟨_,_,hh⟩:=h2 t hb'
       refine hb.tr.lt t ?_
       show Tb.live t
       rcases hh with⟨ty,cs,cs',e1,e2⟩ | ⟨ty,nl,L,L',e1,e2,e3,e4⟩ | ⟨ty,nl,L,e1,e2⟩
       ·simp[Tab.live,e1,OK.live]
       ·grind[Tab.live,OK.live]
       ·simp[Tab.live,e2,OK.live] at hl
      ·(refine hb.tr.lt t ?_<;>grind[Tab.live])
     omega
   ·obtain⟨j',s,k,e1,hs,hk,hβs,_,hkl⟩:=liveB _ hjl
    have:j=j':=by omega
    subst this
    have hsl:T1.live s:=(liveT1 j s k hs hk).1 hkl
    have hpb:ι s=p.block:=by rw[←hβs];exact hjb
    have hT3s:=deadT3 j s hs hj
    refine⟨?_,hp.2.1,fun t hl e=>?_⟩
    ·rcases h1.my s hsl with q | q
     ·exact .inr (.inl (by rw[←hpb];exact q))
     ·exact .inr (.inr (by rw[←hpb];exact q))
    ·have hslt:ι s<w.heap.size:=h1.tr.lt s hsl
     by_cases hf:t∈fs
     ·obtain⟨i,hi,rfl⟩:=(mem_fs t).1 hf
      have:=hp.2.2 (2000000+i) (liveU i hi hl) (by rw[←ι_fs i hi];exact e)
      grind
     ·exfalso
      rw[ι_not t hf] at e
      have hne:t≠s:=by rintro rfl;simp[Tab.live,hT3s,OK.live] at hl
      have hlt:Tb.live t:=by
       by_cases hb':t∈bs
       ·obtain⟨_,_,hh⟩:=h2 t hb'
        rcases hh with⟨ty,cs,cs',e1,e2⟩ | ⟨ty,nl,L,L',e1,e2,e3,e4⟩ | ⟨ty,nl,L,e1,e2⟩
        ·simp[Tab.live,e1,OK.live]
        ·grind[Tab.live,OK.live]
        ·simp[Tab.live,e2,OK.live] at hl
       grind[Tab.live]
      exact hne (hb.tr.inj t s hlt ((liveTb s (List.mem_of_getElem? hs)).1 hsl) (by rw[e,hpb]))
  have hmv:Goes κ.D Tb ι w T3 ι' w'→∀dd u,(qz res lb' lf=true→dd.flat=true)→dd.pure=true→Rv (tabU lb' lf) β' (Stable (Dn S w.heap.size β lb lb') (tabU lb' lf) β' w') w' dd u→
    Rv T3 ι' (Stable κ.D T3 ι' w') w' dd u:=by
   intro H dd u hfl hp hu
   cases hff:qz res lb' lf with
   | true=>exact .pure (xf (hu.pure_ hp) (hfl hff))
   | false=>exact pure_lr (hSU (hTb1 hff) H) hp hu
  have fl_lb:qz res lb' lf=true→∀(j:Nat) (k:OK),lb'[j]? = some k→k.flat=true:=fun hf j k hk=>by
   simp only[qz,Bool.and_eq_true] at hf;exact xw hf.1.2 j k hk
  have fl_lf:qz res lb' lf=true→∀(j:Nat) (k:OK),lf[j]? = some k→k.flat=true:=fun hf j k hk=>by
   simp only[qz,Bool.and_eq_true] at hf;exact xw hf.2 j k hk
  have flL:∀{L:TL} {i:Nat} {dd:V},L.e.flatT=true→L.cells[i]? = some dd→dd.flat=true:=fun {L i dd} hf hd=>by
   have hm:=List.mem_of_getElem? hd
   unfold TL.cells at hm
   obtain⟨x,_,hx⟩:=List.mem_flatMap.1 hm
   exact qu _ _ _ hf hx
  have hto2:To κ Tb ι w T3 ι' w':=by
   refine XB (st:={ st with o:=Tb }) hb bs fs (fun t hb hf=>⟨by rw[T3_not t hf,hnotbs t hb],ι_not t hf⟩) h2 h3 ?_ ?_ ?_ ?_
   ·intro t ht hl
    obtain⟨j,hj,rfl⟩:=(mem_fs t).1 ht
    rw[ι_fs j hj]
    exact htrU.lt _ (liveU j hj hl)
   ·intro t ht u hu hlt hlu e
    obtain⟨i,hi,rfl⟩:=(mem_fs t).1 ht
    obtain⟨j,hj,rfl⟩:=(mem_fs u).1 hu
    rw[ι_fs i hi,ι_fs j hj] at e
    have:=htrU.inj _ _ (liveU i hi hlt) (liveU j hj hlu) e
    have:i=j:=by omega
    rw[this]
   ·refine hkept.mono fun b _ hb=>?_
    obtain⟨t,hl,e⟩:=hb
    obtain⟨j,s,k,rfl,hs,hk,hβ,_,hkl⟩:=liveB t hl
    grind
   ·intro H t ht
    by_cases hf:t∈fs
    ·obtain⟨j,hj,rfl⟩:=(mem_fs t).1 hf
     obtain⟨a1,a2,a3⟩:=hfr j lf[j] (List.getElem?_eq_getElem hj)
     have hob:=htrU.ob (2000000+j)
     have hfl:=fun q=>fl_lf q j lf[j] (List.getElem?_eq_getElem hj)
     rw[getUf j _ (List.getElem?_eq_getElem hj)] at hob
     rw[a3,ι_fs j hj]
     simp only at hob ⊢
     generalize lf[j]=k at *
     cases k with
     | box ty cs=>
      obtain⟨arr,fz,b1,b2,b3,b4⟩:=hob
      exact⟨arr,fz,b1,b2,b3,fun i dd u hd hu=>hmv H dd u (fun q=>qP (hfl q) i dd hd) (pureL_get a1 i dd hd) (b4 i dd u hd hu)⟩
     | row ty sz fz0 cs=>
      obtain⟨arr,fz,cap,b1,b2,b3,b4,b5,b6⟩:=hob
      exact⟨arr,fz,cap,b1,b2,b3,b4,b5,fun i dd u hd hu=>hmv H dd u (fun q=>qP (hfl q) i dd hd) (pureL_get a1 i dd hd) (b6 i dd u hd hu)⟩
     | dead=>trivial
     | iter s pos=>simp[xa] at a1
     | mp M=>simp[xa] at a1
     | nrow ty fz0 nl L=>
      rcases hob with hb | ⟨arr,fz,cap,b1,b2,b3,b4,b5,b6⟩
      ·exact .inl hb
      ·exact .inr ⟨arr,fz,cap,b1,b2,b3,b4,b5,fun i dd u hd hu=>hmv H dd u (fun q=>flL (hfl q) hd) (TL.pure_cells hd) (b6 i dd u hd hu)⟩
    ·have hb':t∈bs:=ht.resolve_right hf
     obtain⟨j,hj⟩:=List.mem_iff_getElem?.1 hb'
     have hob:=htrU.ob (1000000+j)
     have hjl:j<lb.length:=by rw[hlb];exact(List.getElem?_eq_some_iff.1 hj).1
     rw[T3_not t hf,ι_not t hf]
     rcases hrevs j t hj with⟨ty,cs,cs',e1,e2,e3,e4⟩ | ⟨ty,nl,L,L',e1,e2,e4,e5,e6⟩ | ⟨ty,nl,L,e1,e2,e4⟩
     ·have hbb:β' (1000000+j)=ι t:=by rw[hβ1 j hjl (by simp[Tab.live,getUb j _ e2,OK.live]),βeq j t hj]
      rw[getUb j _ e2,hbb] at hob
      obtain⟨arr,fz,b1,b2,b3,b4⟩:=hob
      rw[e4]
      exact⟨arr,fz,b1,b2,b3,fun i dd u hd hu=>hmv H dd u (fun q=>qP (fl_lb q j _ e2) i dd hd) (pureL_get e3 i dd hd) (b4 i dd u hd hu)⟩
     ·rw[e4]
      rw[getUb j _ e2] at hob
      by_cases hn:nl=true∧L'.l=[]
      ·exact .inl hn
      ·have hbb:β' (1000000+j)=ι t:=by rw[hβ1 j hjl (by simp only[Tab.live,getUb j _ e2,OK.live];exact hn),βeq j t hj]
       rw[hbb] at hob
       rcases hob with hb | ⟨arr,fz,cap,b1,b2,b3,b4,b5,b6⟩
       ·exact .inl hb
       ·exact .inr ⟨arr,fz,cap,b1,b2,b3,b4,b5,fun i dd u hd hu=>hmv H dd u (fun q=>flL (fl_lb q j _ e2) hd) (TL.pure_cells hd) (b6 i dd u hd hu)⟩
     ·rw[e4];trivial
  have hren1:∀(x y:V) (cx:Value),ren1 T3 bs d lf.length x=some y→(qz res lb' lf=true→vW x=true)→Rv (tabU lb' lf) β' (Stable (Dn S w.heap.size β lb lb') (tabU lb' lf) β' w') w' x cx→
    Rv T3 ι' (Stable κ.D T3 ι' w') w' y cx:=by
   intro x y cx hxy hfl hcx
   unfold ren1 at hxy
   split at hxy
   ·rename_i t
    split at hxy
    ·rename_i hc
     injection hxy with hxy;subst hxy
     obtain⟨hge,hlt⟩:=hc
     refine .acc hcx.acc_form (Nat.le_refl _) fun ty fz nl L e=>?_
     obtain⟨a1,a2,a3⟩:=hfr (t-2000000) lf[t-2000000] (List.getElem?_eq_getElem hlt)
     rw[a3] at e
     simp at e
     have hg:(tabU lb' lf).get t=⟨0,.nrow ty fz nl L⟩:=by
      grind
     have:=hcx.acc_ hg
     rw[ι_fs _ hlt,show 2000000+(t-2000000)=t from by omega]
     exact this
    ·cases hxy
   ·rename_i t off n
    split at hxy
    ·rename_i hc
     injection hxy with hxy;subst hxy
     obtain⟨hge,hlt⟩:=hc
     have hv:∃a c,cx=.slice (some a) n c:=by
      cases hcx with
      | pure h=>cases h
      | own hv _ _=>exact hv
     refine .own hv (Nat.le_refl _) fun ty sz fz0 cs e=>?_
     obtain⟨a1,a2,a3⟩:=hfr (t-2000000) lf[t-2000000] (List.getElem?_eq_getElem hlt)
     rw[a3] at e
     simp at e
     have hg:(tabU lb' lf).get t=⟨0,.row ty sz fz0 cs⟩:=by
      grind
     have:=hcx.own_ hg
     grind
    ·cases hxy
   ·rename_i t off
    split at hxy
    ·rename_i hge
     split at hxy
     ·rename_i hlt
      injection hxy with hxy;subst hxy
      have hcx':∃ad,cx=.pointer (some ad):=by
       cases hcx with
       | pure h=>cases h
       | ptr hv _ _=>exact hv
      refine .ptr hcx' (Nat.le_refl _) fun _ hl3=>?_
      have hlv:=liveU _ hlt hl3
      rw[show 2000000+(t-2000000)=t from by omega] at hlv
      have hg:((tabU lb' lf).get t).gen=0:=by
       grind
      have:=hcx.ptr_ hg hlv
      grind
     ·cases hxy
    ·split at hxy
     ·rename_i hge
      split at hxy
      ·rename_i s hs
       injection hxy with hxy;subst hxy
       have hcx':∃ad,cx=.pointer (some ad):=by
        cases hcx with
        | pure h=>cases h
        | ptr hv _ _=>exact hv
       refine .ptr hcx' (Nat.le_refl _) fun _ hl3=>?_
       have hjl:t-1000000<lb.length:=by rw[hlb];exact(List.getElem?_eq_some_iff.1 hs).1
       have hsm:=List.mem_of_getElem? hs
       have hlk:∃k,lb'[t-1000000]? = some k∧k.live:=by
        simp only[Tab.live,T3_not s (bs_not s hsm)] at hl3
        rcases hrevs _ s hs with⟨ty,cs,cs',e1,e2,e3,e4⟩ | ⟨ty,nl,L,L',e1,e2,e4,e5,e6⟩ | ⟨ty,nl,L,e1,e2,e4⟩
        ·exact⟨_,e2,trivial⟩
        ·rw[e4] at hl3;exact⟨_,e2,hl3⟩
        ·rw[e4] at hl3;exact hl3.elim
       obtain⟨k,hk,hkl⟩:=hlk
       have hgU:=getUb _ _ hk
       have hlU:(tabU lb' lf).live (1000000+(t-1000000)):=by simp only[Tab.live,hgU];exact hkl
       have hbb:=hβ1 _ hjl hlU
       rw[show 1000000+(t-1000000)=t from by omega] at hgU hlU hbb
       have:=hcx.ptr_ (by rw[hgU]) hlU
       grind
      ·cases hxy
     ·cases hxy
   ·rename_i hna hno hnp
    split at hxy
    ·rename_i hp
     injection hxy with hxy;subst hxy
     refine hmv hto2.goes x cx (fun q=>?_) hp hcx
     have:=hfl q
     (unfold vW at this<;>grind[vW,V.pure])
    ·cases hxy
  refine⟨cv,ι',rfl,htob.trans hto2,?_⟩
  have flr:qz res lb' lf=true→kd res=true:=fun hf=>by simp only[qz,Bool.and_eq_true] at hf;exact hf.1.1
  unfold ren at hren
  split at hren
  ·rename_i vs
   obtain⟨us,rfl,hl,hh⟩:=hres.tup_
   have flv:qz (.tup vs) lb' lf=true→∀x∈vs,vW x=true:=fun q x hx=>by
    grind[kd]
   have hrl:∀(zs ys:List V) (us:List Value),renL T3 bs d lf.length zs=some ys→(∀x∈zs,x∈vs)→LR (Rv (tabU lb' lf) β' (Stable (Dn S w.heap.size β lb lb') (tabU lb' lf) β' w') w') zs us→
     LR (Rv T3 ι' (Stable κ.D T3 ι' w') w') ys us:=by
    intro zs
    induction zs with
    | nil=>
     intro ys us hy _ hlr
     simp[renL] at hy;subst hy
     have:us=[]:=List.eq_nil_of_length_eq_zero (by simpa using hlr.1.symm)
     subst this
     exact .nil
    | cons x r ih=>
     intro ys us hy hm hlr
     obtain⟨u,us',rfl,hu,hr'⟩:=hlr.head
     simp only[renL] at hy
     split at hy
     ·rename_i y ys' hy1 hy2
      injection hy with hy;subst hy
      exact .cons (hren1 x y u hy1 (fun q=>flv q x (hm x (by simp))) hu) (ih ys' us' hy2 (fun x hx=>hm x (by simp[hx])) hr')
     ·cases hy
   cases hrn:renL T3 bs d lf.length vs with
   | none=>simp[hrn] at hren
   | some ys=>
    simp[hrn] at hren;subst hren
    have:=hrl vs ys us hrn (fun _ h=>h) ⟨hl,hh⟩
    exact .tup this.1 this.2
  ·rename_i hnt
   refine hren1 res v' cv hren (fun q=>?_) hres
   have:=flr q
   unfold kd at this
   grind
end
end Go.Abs
namespace Go.Abs
open Go.RowKit
set_option linter.unusedVariables false
set_option linter.unusedSimpArgs false
def vL (n:Nat) (T:Tab) (nb:Nat) (ss:List Nat) (v:V):Option (V×List Nat×List Nat):=
 match v with
 | .acc s g=>if s<1000000 then(if (T.get s).gen=g∧ss.contains s=false then(match (T.get s).k with
   | .nrow _ _ _ _=>some (.acc (2000000+ss.length) 0,[],ss++[s])
   | _=>none) else none) else
   (match view n T v with
   | some (x,l)=>some (x,l,ss)
   | none=>none)
 | v=>Xd n T nb ss v
def jg (n:Nat) (T:Tab):List Nat→Option (List OK×List Nat)
 | []=>some ([],[])
 | s::r=>match (match (T.get s).k with
   | .box ty cs=>(mapV (view n T) cs).map fun p=>(OK.box ty p.1,p.2)
   | .row ty sz fz cs=>(mapV (view n T) cs).map fun p=>(OK.row ty sz fz p.1,p.2)
   | .nrow ty fz nl L=>some (OK.nrow ty fz nl L,[])
   | _=>none) with
  | some (k,l)=>match jg n T r with
   | some (ks,l')=>some (k::ks,l++l')
   | none=>none
  | none=>none
def OK.setFz2 (b:Bool):OK→OK
 | .row ty sz fz cs=>.row ty sz (fz||b) cs
 | .nrow ty fz nl L=>.nrow ty (fz||b) nl L
 | k=>k
def Xo (n:Nat) (T:Tab) (kp:Bool) (s:Nat) (k0:OK):Option (OK×List Nat):=
 if kp=true then
  if (T.get s).gen=0 then
   match (T.get s).k,k0 with
   | .box ty cs,.box _ _=>(mapV (view n T) cs).map fun p=>(OK.box ty p.1,p.2)
   | .nrow ty false nl L,.nrow _ _ nl0 _=>if nl=nl0 then some (.nrow ty false nl L,[]) else none
   | _,_=>none
  else none
 else match k0 with
  | .nrow _ _ _ _=>some (.dead,[])
  | _=>none
def Qv (n:Nat) (T:Tab) (kp:Nat→Bool):Nat→List OK→Option (List OK×List Nat)
 | _,[]=>some ([],[])
 | j,k0::r=>match Xo n T (kp j) (1000000+j) k0 with
  | some (k,l)=>match Qv n T kp (j+1) r with
   | some (ks,l')=>some (k::ks,l++l')
   | none=>none
  | none=>none
def xM (T:Tab) (kp:Nat→Bool):Nat→List OK→List Bool
 | _,[]=>[]
 | j,k0::r=>match k0,kp j,(T.get (1000000+j)).k with
  | .nrow _ _ _ L0,true,.nrow _ _ _ L=>decide (L.l.length=L0.l.length)::xM T kp (j+1) r
  | _,_,_=>xM T kp (j+1) r
def retOf2 (P:Program) (fn:Func) (kp:Nat→Bool) (lb:List OK) (st:St):Option (V×List OK×List OK):=
 match Qg P st fn.results.toList with
 | some vs=>match viewL (vL depth st.o lb.length) [] vs with
  | some (xs,l,ss)=>match Qv depth st.o kp 0 lb,jg depth st.o ss with
   | some (lb',l2),some (lf,l3)=>
    if lb.length<1000000∧(Zt lb.length).all (fun s=>!kp (s-1000000)||!(l++(l2++l3)).contains s)=true then
     some (packV xs,lb',(ss.zip lf).map fun p=>p.2.setFz2 ((l++(l2++l3)).contains p.1))
    else none
   | _,_=>none
  | none=>none
 | none=>none
theorem Qf {n:Nat} {T:Tab} {nb:Nat} {ss ss':List Nat} {v x:V} {l:List Nat} (h:vL n T nb ss v=some (x,l,ss')):(∃r,ss'=ss++r)∧(Zb ss→Zb ss'):=by
 unfold vL at h
 split at h
 ·split at h
  ·rename_i hlt
   split at h
   ·rename_i hc
    obtain⟨_,hn⟩:=hc
    split at h
    ·simp at h
     obtain⟨_,_,rfl⟩:=h
     refine⟨⟨_,rfl⟩,fun⟨h1,h2⟩=>⟨?_,?_⟩⟩
     ·grind
     grind
    ·cases h
   ·cases h
  ·split at h
   ·simp_all
   ·cases h
 ·exact XX h
theorem xd {n:Nat} {T:Tab}:∀(ss:List Nat) (ks:List OK) (l:List Nat),jg n T ss=some (ks,l)→ks.length=ss.length∧
  ∀(j s:Nat),ss[j]? = some s→∃k,ks[j]? = some k∧((∃ty cs xs l',(T.get s).k=.box ty cs∧mapV (view n T) cs=some (xs,l')∧k=.box ty xs∧∀t∈l',t∈l)∨
   (∃ty sz fz cs xs l',(T.get s).k=.row ty sz fz cs∧mapV (view n T) cs=some (xs,l')∧k=.row ty sz fz xs∧∀t∈l',t∈l)∨
   (∃ty fz nl L,(T.get s).k=.nrow ty fz nl L∧k=.nrow ty fz nl L))
 | [],ks,l,h=>by simp[jg] at h;obtain⟨rfl,rfl⟩:=h;simp
 | s::r,ks,l,h=>by
  simp only[jg] at h
  split at h
  ·rename_i k l1 hk
   split at h
   ·rename_i ks' l2 hb
    simp at h
    obtain⟨rfl,rfl⟩:=h
    obtain⟨h1,h2⟩:=xd r ks' l2 hb
    refine⟨by simp[h1],fun j s' hj=>?_⟩
    cases j with
    | zero=>
     simp at hj;subst hj
     refine⟨k,rfl,?_⟩
     split at hk
     ·rename_i ty cs e
      cases hm:mapV (view n T) cs with
      | none=>simp[hm] at hk
      | some p=>
       simp[hm] at hk
       obtain⟨rfl,rfl⟩:=hk
       exact .inl ⟨ty,cs,p.1,p.2,e,hm,rfl,fun t ht=>by simp[ht]⟩
     ·rename_i ty sz fz cs e
      cases hm:mapV (view n T) cs with
      | none=>simp[hm] at hk
      | some p=>
       simp[hm] at hk
       obtain⟨rfl,rfl⟩:=hk
       exact .inr (.inl ⟨ty,sz,fz,cs,p.1,p.2,e,hm,rfl,fun t ht=>by simp[ht]⟩)
     ·rename_i ty fz nl L e
      simp at hk
      obtain⟨rfl,rfl⟩:=hk
      exact .inr (.inr ⟨ty,fz,nl,L,e,rfl⟩)
     ·cases hk
    | succ j=>
     obtain⟨k',e1,e2⟩:=h2 j s' (by simpa using hj)
     refine⟨k',by simpa using e1,?_⟩
     rcases e2 with⟨ty,cs,xs,l',a1,a2,a3,a4⟩ | ⟨ty,sz,fz,cs,xs,l',a1,a2,a3,a4⟩ | q
     ·exact .inl ⟨ty,cs,xs,l',a1,a2,a3,fun t ht=>by simp[a4 t ht]⟩
     ·exact .inr (.inl ⟨ty,sz,fz,cs,xs,l',a1,a2,a3,fun t ht=>by simp[a4 t ht]⟩)
     ·exact .inr (.inr q)
   ·cases h
  ·cases h
theorem vS {n:Nat} {T:Tab} {kp:Nat→Bool}:∀(lb:List OK) (j0:Nat) (ks:List OK) (l:List Nat),Qv n T kp j0 lb=some (ks,l)→ks.length=lb.length∧
  ∀(j:Nat) (k0:OK),lb[j]? = some k0→∃k l',ks[j]? = some k∧Xo n T (kp (j0+j)) (1000000+(j0+j)) k0=some (k,l')∧∀t∈l',t∈l
 | [],j0,ks,l,h=>by simp[Qv] at h;obtain⟨rfl,rfl⟩:=h;simp
 | k1::r,j0,ks,l,h=>by
  simp only[Qv] at h
  split at h
  ·rename_i k l1 hk
   split at h
   ·rename_i ks' l2 hb
    simp at h
    obtain⟨rfl,rfl⟩:=h
    obtain⟨h1,h2⟩:=vS r (j0+1) ks' l2 hb
    refine⟨by simp[h1],fun j k0 hj=>?_⟩
    cases j with
    | zero=>simp at hj;subst hj;exact⟨k,l1,rfl,hk,fun t ht=>by simp[ht]⟩
    | succ j=>
     obtain⟨k',l',e1,e2,e3⟩:=h2 j k0 (by simpa using hj)
     rw[show j0+1+j=j0+(j+1) from by omega] at e2
     exact⟨k',l',by simpa using e1,e2,fun t ht=>by simp[e3 t ht]⟩
   ·cases h
  ·cases h
theorem Qe {T:Tab} {kp:Nat→Bool}:∀(lb:List OK) (j0:Nat),(xM T kp j0 lb).all id=true→∀(j ty ty':Nat) (fz fz' nl nl':Bool) (L0 L:TL),lb[j]? = some (.nrow ty fz nl L0)→kp (j0+j)=true→(T.get (1000000+(j0+j))).k=.nrow ty' fz' nl' L→L.l.length=L0.l.length
 | [],j0,_,j,_,_,_,_,_,_,_,_,hj,_,_=>by simp at hj
 | k0::r,j0,h,j,ty,ty',fz,fz',nl,nl',L0,L,hj,hkp,hT=>by
  cases j with
  | zero=>
   simp_all[Nat.add_zero,xM,List.all_cons,Bool.and_eq_true,id,decide_eq_true_eq]
  | succ j=>
   refine Qe r (j0+1) ?_ j ty ty' fz fz' nl nl' L0 L (by simpa using hj) (by rw[show j0+1+j=j0+(j+1) from by omega];exact hkp) (by rw[show j0+1+j=j0+(j+1) from by omega];exact hT)
   simp only[xM] at h
   grind
def RR2 (T:Tab) (ι:Nat→Nat) (S:Addr→Prop) (w:World) (nb:Nat) (ss:List Nat) (x:V) (cv:Value):Prop:=
 RR T ι S w nb ss x cv∨∃j s g,ss[j]? = some s∧(T.get s).gen=g∧(∃ty fz nl L,(T.get s).k=.nrow ty fz nl L)∧x=.acc (2000000+j) 0∧Rv T ι S w (.acc s g) cv
theorem RR2.grow {T:Tab} {ι:Nat→Nat} {S:Addr→Prop} {w:World} {nb:Nat} {ss r:List Nat} {x:V} {cv:Value} (h:RR2 T ι S w nb ss x cv):RR2 T ι S w nb (ss++r) x cv:=by
 rcases h with h | ⟨j,s,g,h1,h2⟩
 ·exact .inl h.grow
 ·exact .inr ⟨j,s,g,by grind,h2⟩
section
variable {κ : Cx} {ι : Nat → Nat} {st : St} {a : Act} {w : World}
theorem Xc (h:RelI κ ι st a w) {T:Tab} (hall:∀s,(st.o.get s).gen=(T.get s).gen∧((st.o.get s).k=(T.get s).k∨(st.o.get s).k=(T.get s).k.freeze)) {n nb:Nat} {ss ss':List Nat} {v x:V} {l:List Nat} {cv:Value}
  (hx:vL n T nb ss v=some (x,l,ss')) (hl:∀s∈l,(st.o.get s).k=(T.get s).k.freeze∧(st.o.get s).gen=(T.get s).gen) (hr:Rv st.o ι (Stable κ.D st.o ι w) w v cv):
  RR2 st.o ι (Stable κ.D st.o ι w) w nb ss' x cv:=by
 unfold vL at hx
 split at hx
 ·rename_i s g
  split at hx
  ·split at hx
   ·rename_i hc
    split at hx
    ·rename_i ty fz nl L hk
     simp at hx
     obtain⟨rfl,_,rfl⟩:=hx
     refine .inr ⟨ss.length,s,g,by simp,by grind,?_,rfl,hr⟩
     rcases (hall s).2 with h1 | h1
     ·grind
     ·exact⟨ty,true,nl,L,by rw[h1,hk];rfl⟩
    ·cases hx
   ·cases hx
  ·split at hx
   ·rename_i x' l' hv
    simp at hx
    obtain⟨rfl,rfl,rfl⟩:=hx
    exact .inl (.inl (view_ok h n _ _ _ cv hv hl hr))
   ·cases hx
 ·exact .inl (XY h hall hx hl hr)
end
theorem vA {n:Nat} {T:Tab} {nb:Nat}:∀(vs:List V) (ss ss':List Nat) (xs:List V) (l:List Nat),viewL (vL n T nb) ss vs=some (xs,l,ss')→Zb ss→Zb ss'
 | [],ss,ss',xs,l,h,hs=>by simp[viewL] at h;obtain⟨_,_,rfl⟩:=h;exact hs
 | v::r,ss,ss',xs,l,h,hs=>by
  simp only[viewL] at h
  split at h
  ·rename_i x l1 bs1 hv
   split at h
   ·rename_i xs2 l2 bs2 hr
    simp at h
    obtain⟨_,_,rfl⟩:=h
    exact vA r bs1 bs2 xs2 l2 hr ((Qf hv).2 hs)
   ·cases h
  ·cases h
def Vh (P:Program) (f:FuncId) (args:List V) (lb:List OK) (G:V→List OK→List OK→Prop):Prop:=
 ∀(w:World) (cargs:Array Value) (β:Nat→Nat) (S:Addr→Prop),TR S (tabU lb []) β w→LR (Rv (tabU lb []) β (Stable S (tabU lb []) β w) w) args cargs.toList→
  Calls P f cargs w fun e w'=>∃res lb' lf,G res lb' lf∧∃v β',e=.returned v∧Kept (fun b=>∃t,(tabU lb []).live t∧β t=b) w w'∧
   TR (Dn S w.heap.size β lb lb') (tabU lb' lf) β' w'∧
   Rv (tabU lb' lf) β' (Stable (Dn S w.heap.size β lb lb') (tabU lb' lf) β' w') w' res v∧
   lb.length=lb'.length∧(∀j,j<lb.length→(tabU lb' lf).live (1000000+j)→β' (1000000+j)=β (1000000+j))∧∀j,j<lf.length→(tabU lb' lf).live (2000000+j)→Fn w.heap.size β lb lb' (β' (2000000+j))
set_option maxHeartbeats 1000000 in
theorem Jd {P:Program} {f:FuncId} {fn:Func} {c:Code} {args:List V} {lb:List OK} {kp:Nat→Bool} {G:V→List OK→List OK→Prop} (hf:P.funcs[f]? = some fn) (hb:fn.body=some c) (hn:args.length≤fn.ntmps)
    (h:∀κ:Cx,κ.P=P→κ.gv=[]→HT κ c (fun e s=>(e=.normal∨e=.ret)∧(xM s.o kp 0 lb).all id=true∧∃res lb' lf,retOf2 P fn kp lb s=some (res,lb',lf)∧G res lb' lf) ⟨fn.ntmps,slots 0 args,tabU lb [],[]⟩):Vh P f args lb G:=by
  intro w cargs β S htr hargs
  let κ:Cx:=⟨P,w,fun b=>∃t,(tabU lb []).live t∧β t=b,S,fun t=>if 1000000≤t∧t<1000000+lb.length then some (β t) else none,fun t b h=>by grind,[]⟩
  refine calls_of_wp hf hb ?_
  have hlen:args.length=cargs.size:=by rw[hargs.1];simp
  have hSD:∀{T ι w'} p,Stable S T ι w' p→Stable κ.D T ι w' p:=fun p hp=>⟨.inl hp.1,hp.2⟩
  have h0:Rel κ ⟨fn.ntmps,slots 0 args,tabU lb [],[]⟩ { tmps:=cargs++Array.replicate (fn.ntmps-cargs.size) undef,defers:=[] } w:=by
    refine⟨β,rfl,by simp;omega,fun t=>?_,⟨fun t=>(htr.ob t).monoS hSD,htr.inj,htr.lt⟩,fun t ht=>.inr ⟨t,ht,rfl⟩,Kept.refl _ _,fun t b hp _ _=>?_,.nil⟩
    · simp only[St.get,jS,Nat.zero_le,if_true,Nat.sub_zero]
      by_cases ht:t<args.length
      · obtain⟨u,hu,hru⟩:=hargs.get (i:=t) (d:=args[t]) (List.getElem?_eq_getElem ht)
        have e1:args.getD t .undef=args[t]:=by simp[ht]
        have e2:(cargs++Array.replicate (fn.ntmps-cargs.size) undef).getD t undef=u:=by
          have ht':t<cargs.size:=by omega
          simp_all[Array.getD_eq_getD_getElem?,Array.getElem?_append_left]
        rw[e1,e2]
        exact hru.monoS hSD
      · have e1:args.getD t .undef=.undef:=by grind
        rw[e1];exact .undef _
    grind
  refine Code.wp_mono (fun e a' w'=>?_) (h κ rfl rfl _ _ h0)
  rintro⟨st',⟨he,hlens,res,lb',lf,hret,hG⟩,ι,hr⟩
  unfold retOf2 at hret
  split at hret
  case h_2=>cases hret
  rename_i vs hvs
  split at hret
  case h_2=>cases hret
  rename_i xs l ss hview
  split at hret
  case h_2=>cases hret
  rename_i lb1 l2 lf1 l3 hbx hfr
  split at hret
  case isFalse=>cases hret
  rename_i hcond
  obtain⟨hnb,hnL⟩:=hcond
  simp only[Option.some.injEq,Prod.mk.injEq] at hret
  obtain⟨rfl,rfl,rfl⟩:=hret
  generalize hL:l++(l2++l3)=L at *
  obtain⟨us,hus,hres⟩:=kG hr fn hvs
  have hto:=To.freezes hr L
  have h1:=To.rel hr hto
  have hT1:∀s,(st'.o.freezes L).get s=if s∈L then⟨(st'.o.get s).gen,(st'.o.get s).k.freeze⟩ else st'.o.get s:=Tab.get_freezes L st'.o
  generalize st'.o.freezes L=T1 at *
  have hus1:LR (Rv T1 ι (Stable κ.D T1 ι w') w') vs us:=hus.mono fun d u hd=>hd.mono hto.goes
  have hfz:∀s∈L,(T1.get s).k=(st'.o.get s).k.freeze∧(T1.get s).gen=(st'.o.get s).gen:=fun s hs=>by grind
  have hall:∀s,(T1.get s).gen=(st'.o.get s).gen∧((T1.get s).k=(st'.o.get s).k∨(T1.get s).k=(st'.o.get s).k.freeze):=fun s=>by
    grind
  have hss:Zb ss:=vA vs [] ss xs l hview ⟨by simp,by simp⟩
  obtain⟨hbl,hbg⟩:=vS _ _ _ _ hbx
  obtain⟨hfl,hfg⟩:=xd _ _ _ hfr
  simp only[Nat.zero_add] at hbg
  have hview1:∀(cs xs':List V) (l':List Nat) (vs':List Value),mapV (view depth st'.o) cs=some (xs',l')→(∀s∈l',s∈L)→LR (Rv T1 ι (Stable κ.D T1 ι w') w') cs vs'→LR (Rp (Stable κ.D T1 ι w') w') xs' vs':=
    fun cs xs' l' vs' hm hsub hv'=>zq _ _ l' _ hm hv' fun v x l'' u _ hv hs hu=>view_ok h1 depth v x l'' u hv (fun s hs'=>hfz s (hsub s (hs s hs'))) hu
  have bor:∀(j:Nat) (k0:OK),lb[j]? = some k0→∃k,lb1[j]? = some k∧(k=.dead∨
      ((∀ o, ¬ (T1.get (1000000 + j)).k.fzAt o) ∧ (k.live ↔ T1.live (1000000 + j)) ∧ (k0.live → k.live) ∧ (T1.live (1000000 + j) → ι (1000000 + j) = β (1000000 + j)) ∧
        ∀(b:Nat) (T':Tab) (ι':Nat→Nat) (S':Addr→Prop),(∀p,Stable κ.D T1 ι w' p→S' p)→ObRel T1 ι (Stable κ.D T1 ι w') w' b (T1.get (1000000+j)).k→ObRel T' ι' S' w' b k)):=by
    intro j k0 hj
    obtain⟨k,l',e1,e2,e3⟩:=hbg j k0 hj
    refine⟨k,e1,?_⟩
    have hjl:j<lb.length:=(List.getElem?_eq_some_iff.1 hj).1
    unfold Xo at e2
    split at e2
    case isFalse=>
      grind
    rename_i hkp
    right
    have hnot:1000000+j∉L:=by
      have:=List.all_eq_true.1 hnL (1000000+j) (List.mem_of_getElem? (Zs hjl))
      grind
    have hTs:T1.get (1000000+j)=st'.o.get (1000000+j):=by rw[hT1,if_neg hnot]
    have hpin:(st'.o.get (1000000+j)).gen=0→T1.live (1000000+j)→ι (1000000+j)=β (1000000+j):=fun hg hl=>by
      refine h1.pin (1000000+j) _ ?_ ?_ hl
      · grind
      grind
    split at e2
    case isFalse=>cases e2
    rename_i hg
    rw[hTs]
    split at e2
    · rename_i ty cs _ _ hk
      cases hm:mapV (view depth st'.o) cs with
      | none=>simp[hm] at e2
      | some p=>
        obtain⟨xs',l''⟩:=p
        simp[hm] at e2
        obtain⟨rfl,rfl⟩:=e2
        refine⟨fun o hf=>by rw[hk] at hf;exact hf,by simp[Tab.live,hTs,hk,OK.live],fun _=>trivial,hpin hg,fun b T' ι' S' hS hob=>?_⟩
        rw[hk] at hob
        obtain⟨arr,fz,b1,b2,b3,b4⟩:=hob
        have hm2:=hview1 cs xs' l'' arr.toList hm (fun s hs=>by rw[←hL];simp[e3 s hs]) ⟨by simp[b3],b4⟩
        exact⟨arr,fz,b1,b2,by rw[b3];exact(zt _ _ _ hm).symm,fun i d u hd hu=>.pure ((hm2.2 i d u hd hu).mono fun p hp=>⟨hS p hp,rfl⟩)⟩
    · rename_i ty nl L2 ty0 fz0 nl0 L0 hk
      split at e2
      · rename_i hnl
        subst hnl
        simp at e2
        obtain⟨rfl,rfl⟩:=e2
        have hlenL:=Qe lb 0 hlens j _ _ _ _ _ _ L0 L2 hj (by grind) (by rw[Nat.zero_add];exact hk)
        refine⟨fun o hf=>by rw[hk] at hf;exact hf,by simp[Tab.live,hTs,hk],fun hl=>?_,hpin hg,fun b T' ι' S' hS hob=>?_⟩
        · grind[OK.live]
        · rw[hk] at hob
          rcases hob with hb' | ⟨arr,fz,cap,b1,b2,b3,b4,b5,b6⟩
          · exact .inl hb'
          · exact .inr ⟨arr,fz,cap,b1,b2,b3,b4,b5,fun i dd u hd hu=>.pure (((b6 i dd u hd hu).pure_ (TL.pure_cells hd)).mono fun p hp=>⟨hS p hp,rfl⟩)⟩
      · cases e2
    · cases e2
  have new:∀(j s:Nat),ss[j]? = some s→∃k,((ss.zip lf1).map fun p=>p.2.setFz2 (L.contains p.1))[j]? = some k∧(k.live↔T1.live s)∧(∀o,(T1.get s).k.fzAt o→k.fzAt o)∧
      (∀ty sz fz cs,(T1.get s).k=.row ty sz fz cs→∃cs',k=.row ty sz fz cs')∧(∀ty fz nl L,(T1.get s).k=.nrow ty fz nl L→k=.nrow ty fz nl L)∧(∀ty cs,(T1.get s).k=.box ty cs→k.live)∧
      ∀(b:Nat) (T':Tab) (ι':Nat→Nat) (S':Addr→Prop),(∀p,Stable κ.D T1 ι w' p→S' p)→ObRel T1 ι (Stable κ.D T1 ι w') w' b (T1.get s).k→ObRel T' ι' S' w' b k:=by
    intro j s hj
    obtain⟨k,e1,e2⟩:=hfg j s hj
    have hz:(ss.zip lf1)[j]? = some (s,k):=by grind
    refine⟨k.setFz2 (L.contains s),by simp[hz],?_⟩
    rcases e2 with⟨ty,cs,xs',l',a1,a2,a3,a4⟩ | ⟨ty,sz,fz,cs,xs',l',a1,a2,a3,a4⟩ | ⟨ty,fz,nl,L0,a1,a2⟩
    · have hk1:(T1.get s).k=.box ty cs:=by
        rcases (hall s).2 with h2 | h2
        · rw[h2,a1]
        · rw[h2,a1];rfl
      subst a3
      rw[hk1]
      refine⟨by simp[Tab.live,hk1,OK.live,OK.setFz2],fun o hf=>hf.elim,fun _ _ _ _ e=>(by cases e),fun _ _ _ _ e=>(by cases e),fun _ _ _=>trivial,fun b T' ι' S' hS hob=>?_⟩
      obtain⟨arr,fz,b1,b2,b3,b4⟩:=hob
      have hm2:=hview1 cs xs' l' arr.toList a2 (fun s hs=>by rw[←hL];simp[a4 s hs]) ⟨by simp[b3],b4⟩
      exact⟨arr,fz,b1,b2,by rw[b3];exact(zt _ _ _ a2).symm,fun i d u hd hu=>.pure ((hm2.2 i d u hd hu).mono fun p hp=>⟨hS p hp,rfl⟩)⟩
    · have hk1:(T1.get s).k=.row ty sz (fz||L.contains s) cs:=by
        grind[OK.freeze]
      subst a3
      rw[hk1]
      have hxl:=zt _ _ _ a2
      refine⟨by simp[Tab.live,hk1,OK.live,OK.setFz2],fun o hf=>?_,fun ty' sz' fz' cs' e=>?_,fun _ _ _ _ e=>(by cases e),fun _ _ e=>(by cases e),fun b T' ι' S' hS hob=>?_⟩
      · simp only[OK.setFz2]
        generalize (fz||L.contains s)=q at *
        cases q with
        | false=>exact hf.elim
        | true=>
          show o<xs'.length
          have:o<cs.length:=hf
          omega
      · injection e with q1 q2 q3 q4
        subst q1 q2 q3 q4
        exact⟨xs',rfl⟩
      · obtain⟨arr,fz1,cap,b1,b2,b3,b4,b5,b6⟩:=hob
        have hlr:LR (Rv T1 ι (Stable κ.D T1 ι w') w') cs (arr.toList.take cs.length):=⟨by simp;omega,fun i d u hd hu=>by
          grind⟩
        have hm2:=hview1 cs xs' l' _ a2 (fun s hs=>by rw[←hL];simp[a4 s hs]) hlr
        refine⟨arr,fz1,cap,b1,b2,b3,b4,by rw[hxl];exact b5,fun i d u hd hu=>.pure ((hm2.2 i d u hd ?_).mono fun p hp=>⟨hS p hp,rfl⟩)⟩
        grind
    · have hk1:(T1.get s).k=.nrow ty (fz||L.contains s) nl L0:=by
        rw[hT1]
        by_cases hm:s∈L
        · rw[if_pos hm,a1];simp[OK.freeze,hm]
        · rw[if_neg hm,a1];simp[hm]
      subst a2
      rw[hk1]
      refine⟨by simp[Tab.live,hk1,OK.live,OK.setFz2],fun o hf=>hf,fun _ _ _ _ e=>(by cases e),fun ty' fz' nl' L' e=>?_,fun _ _ e=>(by cases e),fun b T' ι' S' hS hob=>?_⟩
      · injection e with q1 q2 q3 q4
        subst q1 q2 q3 q4
        rfl
      · rcases hob with hb' | ⟨arr,fz,cap,b1,b2,b3,b4,b5,b6⟩
        · exact .inl hb'
        · exact .inr ⟨arr,fz,cap,b1,b2,b3,b4,b5,fun i dd u hd hu=>.pure (((b6 i dd u hd hu).pure_ (TL.pure_cells hd)).mono fun p hp=>⟨hS p hp,rfl⟩)⟩
  generalize hlf:((ss.zip lf1).map fun p=>p.2.setFz2 (L.contains p.1))=lf at *
  have hlfl:lf.length=ss.length:=by rw[←hlf];simp[hfl]
  let σ:Nat→Nat:=fun t=>if 2000000≤t then ss.getD (t-2000000) 0 else t
  let β':Nat→Nat:=fun t=>ι (σ t)
  have σ_new:∀(j s:Nat),ss[j]? = some s→σ (2000000+j)=s:=fun j s hj=>by
    grind
  have σ_bor:∀j,j<lb.length→σ (1000000+j)=1000000+j:=fun j hj=>by
    simp only[σ];rw[if_neg (by omega)]
  have getB:∀(j:Nat) (k:OK),lb1[j]? = some k→(tabU lb1 lf).get (1000000+j)=⟨0,k⟩:=by
    intro j k hk
    rw[get_tabU]
    grind
  have getF:∀(j:Nat) (k:OK),lf[j]? = some k→(tabU lb1 lf).get (2000000+j)=⟨0,k⟩:=by
    intro j k hk
    rw[get_tabU]
    grind
  have liv0:∀t,(tabU lb []).live t→∃j k0,lb[j]? = some k0∧t=1000000+j∧k0.live:=by
    intro t ht
    simp only[Tab.live,get_tabU] at ht
    split at ht
    · grind
    · simp at ht;exact ht.elim
  have liv:∀t,(tabU lb1 lf).live t→(∃j k0 k,lb[j]? = some k0∧t=1000000+j∧lb1[j]? = some k∧k.live)∨∃j s k,ss[j]? = some s∧t=2000000+j∧lf[j]? = some k∧k.live:=by
    intro t ht
    simp only[Tab.live,get_tabU] at ht
    split at ht
    · grind
    · split at ht
      · grind
      · exact ht.elim
  have hσlive:∀t,(tabU lb1 lf).live t→T1.live (σ t):=by
    intro t ht
    rcases liv t ht with⟨j,k0,k,hj0,rfl,hj,hkl⟩ | ⟨j,s,k,hj,rfl,hk,hkl⟩
    · obtain⟨k',e1,e2⟩:=bor j k0 hj0
      rw[hj] at e1;injection e1 with e1;subst e1
      rw[σ_bor j (List.getElem?_eq_some_iff.1 hj0).1]
      rcases e2 with e2 | ⟨_,e2,_⟩
      · rw[e2] at hkl;exact hkl.elim
      · exact e2.1 hkl
    grind
  have hσinj:∀t u,(tabU lb1 lf).live t→(tabU lb1 lf).live u→σ t=σ u→t=u:=by
    intro t u ht hu e
    rcases liv t ht with⟨j,k0,_,hj0,rfl,_⟩ | ⟨j,s,_,hj,rfl,_⟩<;>rcases liv u hu with⟨i,k0',_,hi0,rfl,_⟩ | ⟨i,s',_,hi,rfl,_⟩
    · grind
    · rw[σ_bor j (List.getElem?_eq_some_iff.1 hj0).1,σ_new i s' hi] at e
      have:=hss.2 s' (List.mem_of_getElem? hi);omega
    · rw[σ_new j s hj,σ_bor i (List.getElem?_eq_some_iff.1 hi0).1] at e
      have:=hss.2 s (List.mem_of_getElem? hj);omega
    · rw[σ_new j s hj,σ_new i s' hi] at e
      subst e
      have hj':=List.getElem?_eq_some_iff.1 hj
      have hi':=List.getElem?_eq_some_iff.1 hi
      have:j=i:=(List.getElem_inj hss.1).1 (hj'.2.trans hi'.2.symm)
      rw[this]
  have hS:∀p,Stable κ.D T1 ι w' p→Stable (Dn S w.heap.size β lb lb1) (tabU lb1 lf) β' w' p:=by
    intro p hp
    refine⟨?_,hp.2.1,fun t ht e=>?_⟩
    · rcases hp.1 with h2 | h2 | ⟨t,ht,e⟩
      · exact .inl h2
      · exact .inr (.inl h2)
      · obtain⟨j,k0,hj0,rfl,hk0⟩:=liv0 t ht
        obtain⟨k,e1,e2⟩:=bor j k0 hj0
        rcases e2 with e2 | ⟨q1,q2,q3,q4,_⟩
        · exact .inr (.inr ⟨j,by rw[e1,e2],ht,e⟩)
        · exfalso
          have hl:=q2.1 (q3 hk0)
          exact q1 _ (hp.2.2 _ hl (by rw[q4 hl];exact e))
    · have h2:=hp.2.2 (σ t) (hσlive t ht) e
      rcases liv t ht with⟨j,k0,k,hj0,rfl,hj,hkl⟩ | ⟨j,s,k,hj,rfl,hk,hkl⟩
      · obtain⟨k',e1,e2⟩:=bor j k0 hj0
        rw[hj] at e1;injection e1 with e1;subst e1
        rw[σ_bor j (List.getElem?_eq_some_iff.1 hj0).1] at h2
        rcases e2 with e2 | ⟨q1,_⟩
        · rw[e2] at hkl;exact hkl.elim
        · exact(q1 _ h2).elim
      grind
  have hpure:∀x u,Rp (Stable κ.D T1 ι w') w' x u→Rv (tabU lb1 lf) β' (Stable (Dn S w.heap.size β lb lb1) (tabU lb1 lf) β' w') w' x u:=
    fun x u hx=>.pure (hx.mono fun p hp=>⟨hS p hp,rfl⟩)
  have htr':TR (Dn S w.heap.size β lb lb1) (tabU lb1 lf) β' w':=by
    refine⟨fun t=>?_,fun t u ht hu e=>hσinj t u ht hu (h1.tr.inj _ _ (hσlive t ht) (hσlive u hu) e),fun t ht=>h1.tr.lt _ (hσlive t ht)⟩
    by_cases hl:(tabU lb1 lf).live t
    · have hob:=h1.tr.ob (σ t)
      show ObRel _ _ _ _ (ι (σ t)) _
      rcases liv t hl with⟨j,k0,k,hj0,rfl,hj,hkl⟩ | ⟨j,s,k,hj,rfl,hk,hkl⟩
      · obtain⟨k',e1,e2⟩:=bor j k0 hj0
        rw[hj] at e1;injection e1 with e1;subst e1
        rw[σ_bor j (List.getElem?_eq_some_iff.1 hj0).1] at hob ⊢
        rcases e2 with e2 | ⟨_,_,_,_,q⟩
        · rw[e2] at hkl;exact hkl.elim
        · rw[getB j k hj];exact q _ _ _ _ hS hob
      grind
    · simp only[Tab.live] at hl
      cases hk:((tabU lb1 lf).get t).k with
      | dead=>trivial
      | nrow ty fz nl L=>
        (left<;>grind[absurd,OK.live])
      | _=>rw[hk] at hl;exact absurd trivial hl
  have hrr:=ja (R:=Rv T1 ι (Stable κ.D T1 ι w') w') (R':=fun ss x u=>RR2 T1 ι (Stable κ.D T1 ι w') w' lb.length ss x u) (fun bs v x l bs' hx=>(Qf hx).1) (fun _ _ _ _ hx=>hx.grow) vs [] ss xs l us hview hus1
    fun bs v x l' bs1 u hm hx hs hu=>Xc h1 hall hx (fun s hs'=>hfz s (by rw[←hL];simp[hs s hs'])) hu
  have hrv:LR (Rv (tabU lb1 lf) β' (Stable (Dn S w.heap.size β lb lb1) (tabU lb1 lf) β' w') w') xs us:=by
    refine hrr.mono fun x u hxu=>?_
    rcases hxu with(hp | ⟨j,s,g,k,hj,hg,⟨ty,sz,fz,cs,hk⟩,rfl,hr2⟩ | ⟨j,s,off,hj,⟨ty,cs,hk⟩,rfl,rfl⟩ | ⟨j,off,hj,hg,⟨ty,cs,hk⟩,rfl,rfl⟩) | ⟨j,s,g,hj,hg,⟨ty,fz,nl,L0,hk⟩,rfl,hr2⟩
    · exact hpure x u hp
    · have hT:T1.get s=⟨g,.row ty sz fz cs⟩:=by cases hq:T1.get s;rw[hq] at hg hk;simp at hg hk;subst hg hk;rfl
      have how:=hr2.own_ hT
      obtain⟨ad,c',cap,arr,ty1,fz1,e,rest⟩:=how
      refine .own ⟨ad,c',e⟩ (Nat.zero_le _) fun ty' sz' fz' cs' hq=>?_
      obtain⟨k0,e1,e2,e3,e4,_⟩:=new j s hj
      rw[getF j k0 e1] at hq
      simp at hq
      obtain⟨cs2,e5⟩:=e4 _ _ _ _ hk
      rw[e5] at hq;injection hq with q1 q2
      subst q2
      show Own w' (ι (σ (2000000+j))) _ _ _ _
      rw[σ_new j s hj]
      exact⟨ad,c',cap,arr,ty1,fz1,e,rest⟩
    · refine .ptr ⟨_,rfl⟩ (Nat.zero_le _) fun _ _=>?_
      show _=Value.pointer (some ⟨ι (σ (2000000+j)),off,none⟩)
      rw[σ_new j s hj]
    · refine .ptr ⟨_,rfl⟩ (Nat.zero_le _) fun _ _=>?_
      grind
    · have hT:T1.get s=⟨g,.nrow ty fz nl L0⟩:=by (cases hq:T1.get s<;>grind)
      refine .acc hr2.acc_form (Nat.zero_le _) fun ty' fz' nl' L' hq=>?_
      obtain⟨k0,e1,e2,e3,_,e5,_⟩:=new j s hj
      rw[getF j k0 e1] at hq
      simp at hq
      have:=e5 _ _ _ _ hk
      rw[this] at hq;injection hq with q1 q2 q3 q4
      subst q1 q2 q3 q4
      show _∨(_∧Own w' (ι (σ (2000000+j))) _ _ _ _)
      rw[σ_new j s hj]
      exact hr2.acc_ hT
  have hpost:a'.defers=[]∧∃v,(results fn a'.tmps).run P w'=.ok v w'∧∃res lb' lf,G res lb' lf∧∃v' β'',Ending.returned v=.returned v'∧Kept (fun b=>∃t,(tabU lb []).live t∧β t=b) w w'∧
      TR (Dn S w.heap.size β lb lb') (tabU lb' lf) β'' w'∧Rv (tabU lb' lf) β'' (Stable (Dn S w.heap.size β lb lb') (tabU lb' lf) β'' w') w' res v'∧
      lb.length=lb'.length∧(∀j,j<lb.length→(tabU lb' lf).live (1000000+j)→β'' (1000000+j)=β (1000000+j))∧∀j,j<lf.length→(tabU lb' lf).live (2000000+j)→Fn w.heap.size β lb lb' (β'' (2000000+j)):=by
    refine⟨hr.dfr,_,hres,packV xs,lb1,lf,hG,_,β',rfl,hr.kept,htr',?_,hbl.symm,fun j hj hl=>?_,fun j hj hl=>?_⟩
    · unfold packV
      cases hrv':xs with
      | nil=>
        rw[hrv'] at hrv
        have:us=[]:=List.eq_nil_of_length_eq_zero (by simpa using hrv.1.symm)
        subst this
        exact .tup hrv.1 hrv.2
      | cons x r=>
        rw[hrv'] at hrv
        obtain⟨u,us',rfl,hu,hr2⟩:=hrv.head
        cases r with
        | nil=>
          have:us'=[]:=List.eq_nil_of_length_eq_zero (by simpa using hr2.1.symm)
          subst this
          exact hu
        | cons y r=>
          obtain⟨u2,us2,rfl,_,_⟩:=hr2.head
          exact .tup hrv.1 hrv.2
    · show ι (σ (1000000+j))=_
      rw[σ_bor j hj]
      rcases liv _ hl with⟨i,k0,k,hj0,e,hji,hkl⟩ | ⟨i,s,k,hji,e,_⟩
      · have:j=i:=by omega
        subst this
        obtain⟨k',e1,e2⟩:=bor j k0 hj0
        rw[hji] at e1;injection e1 with e1;subst e1
        rcases e2 with e2 | ⟨_,q2,_,q4,_⟩
        · rw[e2] at hkl;exact hkl.elim
        · exact q4 (q2.1 hkl)
      · omega
    · have hj':ss[j]? = some (ss[j]'(by omega)):=List.getElem?_eq_getElem (by omega)
      show Fn w.heap.size β lb lb1 (ι (σ (2000000+j)))
      have hlT:=hσlive _ hl
      rw[σ_new j _ hj'] at hlT ⊢
      rcases h1.my _ hlT with h2 | ⟨t,ht,e⟩
      · exact .inl h2
      · obtain⟨i,k0,hi0,rfl,hk0⟩:=liv0 t ht
        obtain⟨k,e1,e2⟩:=bor i k0 hi0
        have hlt:=hss.2 _ (List.mem_of_getElem? hj')
        rcases e2 with e2 | ⟨_,q2,q3,q4,_⟩
        · exact .inr ⟨i,by rw[e1,e2],ht,e⟩
        · exfalso
          have hl2:=q2.1 (q3 hk0)
          have:=h1.tr.inj (1000000+i) _ hl2 hlT (by rw[q4 hl2];exact e)
          omega
  rcases he with rfl | rfl<;>exact hpost
end Go.Abs
