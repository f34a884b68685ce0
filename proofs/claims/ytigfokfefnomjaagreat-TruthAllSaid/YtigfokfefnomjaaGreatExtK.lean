/- The same reckoning, with its values brought to their forms at each step: the kernel then has less to do twice. -/
import Derived.Test.YtigfokfefnomjaaGreatExtX
import Derived.Test.YtigfokfefnomjaaGreatAbsY
namespace Go.Abs
open Go.RowKit
set_option linter.unusedVariables false
set_option linter.unusedSimpArgs false
def Zk {α:Type 1} (v:V) (k:V→α):α:=match v with
 | .undef=>k .undef
 | .bool b=>k (.bool b)
 | .int i n=>k (.int i n)
 | .str s=>k (.str s)
 | .snil=>k .snil
 | .sl n cs=>k (.sl n cs)
 | .cref cs=>k (.cref cs)
 | .own t g off n=>k (.own t g off n)
 | .ptr t g off=>k (.ptr t g off)
 | .pnil=>k .pnil
 | .agg cs=>k (.agg cs)
 | .tup cs=>k (.tup cs)
 | .ifc t v=>k (.ifc t v)
 | .inil=>k .inil
 | .fn f cs=>k (.fn f cs)
 | .fnil=>k .fnil
 | .lst L=>k (.lst L)
 | .eref X o=>k (.eref X o)
 | .eptr t g sz i off=>k (.eptr t g sz i off)
 | .acc t g=>k (.acc t g)
 | .bs b=>k (.bs b)
 | .sz=>k .sz
 | .nl L=>k (.nl L)
 | .si X=>k (.si X)
 | .nwin t g off n=>k (.nwin t g off n)
 | .mp t g=>k (.mp t g)
theorem jw {α:Type 1} (v:V) (k:V→α):Zk v k=k v:=by cases v<;>rfl
def Zj {α:Type 1}:List V→(List V→α)→α
 | [],k=>k []
 | v::r,k=>Zk v fun v=>Zj r fun r=>k (v::r)
theorem x0 {α:Type 1}:∀(l:List V) (k:List V→α),Zj l k=k l
 | [],k=>rfl
 | v::r,k=>by simp only[Zj,jw,x0 r]
def Jn {α:Type 1} (v:V) (k:V→α):α:=Zk v fun v=>match v with
 | .agg cs=>Zj cs fun cs=>k (.agg cs)
 | .tup cs=>Zj cs fun cs=>k (.tup cs)
 | v=>k v
theorem xe {α:Type 1} (v:V) (k:V→α):Jn v k=k v:=by cases v<;>simp[Jn,jw,x0]
def K9 {α:Type 1} (b:Ob) (k:Ob→α):α:=match b with
 | ⟨g,o⟩=>match o with
  | .dead=>k ⟨g,.dead⟩
  | .box ty cs=>Zj cs fun cs=>k ⟨g,.box ty cs⟩
  | .row ty sz fz cs=>k ⟨g,.row ty sz fz cs⟩
  | .iter s p=>k ⟨g,.iter s p⟩
  | .mp M=>k ⟨g,.mp M⟩
  | .nrow ty fz nl L=>k ⟨g,.nrow ty fz nl L⟩
theorem Kv {α:Type 1} (b:Ob) (k:Ob→α):K9 b k=k b:=by
 obtain⟨g,o⟩:=b
 cases o<;>simp[K9,x0]
def QA {α:Type 1}:Tab→(Tab→α)→α
 | [],k=>k []
 | (i,b)::r,k=>K9 b fun b=>QA r fun r=>k ((i,b)::r)
theorem zU {α:Type 1}:∀(l:Tab) (k:Tab→α),QA l k=k l
 | [],k=>rfl
 | (i,b)::r,k=>by simp only[QA,Kv,zU r]
def Xt {α:Type 1}:List (Nat×V)→(List (Nat×V)→α)→α
 | [],k=>k []
 | (i,v)::r,k=>Zk v fun v=>Xt r fun r=>k ((i,v)::r)
theorem yD {α:Type 1}:∀(l:List (Nat×V)) (k:List (Nat×V)→α),Xt l k=k l
 | [],k=>rfl
 | (i,v)::r,k=>by simp only[Xt,jw,yD r]
def xA {α:Type 1} (st:St) (k:St→α):α:=match st with
 | ⟨n,t,o,g⟩=>Xt t fun t=>QA o fun o=>Zj g fun g=>k ⟨n,t,o,g⟩
theorem qR {α:Type 1} (st:St) (k:St→α):xA st k=k st:=by
 simp_all[xA,yD,zU,x0]
def vp (st:St) (T:Tab) (d:Option Nat) (v:V):Tr St:=match st with
 | ⟨n,t,_,g⟩=>match d with
  | none=>.ret ⟨n,t,T,g⟩
  | some d=>if d<n then Xt (jQ d v t) fun t=>.ret ⟨n,t,T,g⟩ else .fail
theorem yp (st:St) (T:Tab) (d:Option Nat) (v:V):vp st T d v=.of (({ st with o:=T }:St).set d v):=by
 obtain⟨n,t,o,g⟩:=st
 cases d with
 | none=>rfl
 | some d=>
  simp only[vp,St.set,yD]
  split<;>rfl
def ym (Γ:OrcT) (Λ:Lend) (P:Program) (opl:List Oper) (st:St) (o:Oper):Tr St:=
 match guardT opl st o with
 | some false=>vp st st.o o.dst (.tup [])
 | some true=>(Zm Γ Λ P opl st o).bind fun r=>Jn r.1 fun v=>QA r.2 fun T=>(normT opl o v).bind fun v=>Zk v fun v=>vp st T o.dst v
 | none=>.fail
theorem xq (Γ:OrcT) (Λ:Lend) (P:Program) (opl:List Oper) (st:St) (o:Oper):ym Γ Λ P opl st o=j7 Γ Λ P opl st o:=by
 unfold ym j7
 simp only[xe,zU,jw,yp]
 cases guardT opl st o with
 | none=>rfl
 | some b=>cases b<;>rfl
def j5 (Γ:OrcT) (Λ:Lend) (P:Program) (opl:List Oper):List Oper→St→Tr St
 | [],st=>.ret st
 | o::r,st=>(ym Γ Λ P opl st o).bind (j5 Γ Λ P opl r)
theorem jG (Γ:OrcT) (Λ:Lend) (P:Program) (opl:List Oper):∀(l:List Oper) (st:St),j5 Γ Λ P opl l st=jd Γ Λ P opl l st
 | [],st=>rfl
 | o::r,st=>by
  simp only[j5,jd,xq]
  congr 1
  funext s
  exact jG Γ Λ P opl r s
def vZ (Γ:OrcT) (P:Program) (opl:List Oper):List Oper→St→Tr (List Rec×St)
 | [],st=>.ret ([],st)
 | o::r,st=>match guardT opl st o with
  | some false=>(vp st st.o o.dst (.tup [])).bind fun st'=>(vZ Γ P opl r st').bind fun q=>.ret (⟨.tup [],[],[]⟩::q.1,q.2)
  | some true=>(estepW Γ P { st with o:=restrict (foot st o) st.o } o).bind fun q=>Jn q.1.1 fun v=>(normT opl o v).bind fun v=>Zk v fun v=>
    if q.2.all ((foot st o).contains ·)=true then
     QA (overlay (q.2.map fun s=>(s,q.1.2.get s)) st.o) fun T=>
     (vp st T o.dst v).bind fun st'=>(vZ Γ P opl r st').bind fun p=>.ret (⟨v,foot st o,q.2.map fun s=>(s,q.1.2.get s)⟩::p.1,p.2)
    else .fail
  | none=>.fail
theorem KC {α β:Type} (m:Option α) (f:α→Tr β):(Tr.of m).bind f=match m with | some a=>f a | none=>.fail:=by
 cases m<;>rfl
theorem QM (Γ:OrcT) (P:Program) (opl:List Oper):∀(l:List Oper) (st:St),vZ Γ P opl l st=drunT Γ P opl l st
 | [],st=>rfl
 | o::r,st=>by
  have ih:=fun s=>QM Γ P opl r s
  simp only[vZ,drunT,xe,zU,jw,yp,KC,ih]
  cases guardT opl st o with
  | none=>rfl
  | some b=>cases b with
   | false=>
    have e:({ n:=st.n,t:=st.t,o:=st.o,g:=st.g }:St)=st:=rfl
    simp only[e]
    cases st.set o.dst (.tup [])<;>rfl
   | true=>
    grind
theorem qv {α β γ:Type} (f:α→Tr β) (g:β→Tr γ):∀m:Tr α,(m.bind f).bind g=m.bind fun a=>(f a).bind g
 | .ret a=>rfl
 | .fail=>rfl
 | .ite b x y=>by
  show Tr.ite b _ _=Tr.ite b _ _
  rw[qv f g x,qv f g y]
 | .ob m h=>by
  show Tr.ob m _=Tr.ob m _
  congr 1
  funext a
  exact qv f g (h a)
 | .sm s h k=>by
  show Tr.sm s _ _=Tr.sm s _ _
  congr 1
  ·funext a;exact qv f g (h a)
  ·funext a;exact qv f g (k a)
def QL (Γ:OrcT) (P:Program) (opl:List Oper) {γ:Type}:List Oper→St→(List Rec→St→Tr γ)→Tr γ
 | [],st,k=>k [] st
 | o::r,st,k=>match guardT opl st o with
  | some false=>(vp st st.o o.dst (.tup [])).bind fun st'=>QL Γ P opl r st' fun rs s=>k (⟨.tup [],[],[]⟩::rs) s
  | some true=>(estepW Γ P { st with o:=restrict (foot st o) st.o } o).bind fun q=>Jn q.1.1 fun v=>(normT opl o v).bind fun v=>Zk v fun v=>
    if q.2.all ((foot st o).contains ·)=true then
     QA (overlay (q.2.map fun s=>(s,q.1.2.get s)) st.o) fun T=>
     (vp st T o.dst v).bind fun st'=>QL Γ P opl r st' fun rs s=>k (⟨v,foot st o,q.2.map fun s=>(s,q.1.2.get s)⟩::rs) s
    else .fail
  | none=>.fail
theorem vg (Γ:OrcT) (P:Program) (opl:List Oper) {γ:Type}:∀(l:List Oper) (st:St) (k:List Rec→St→Tr γ),QL Γ P opl l st k=(vZ Γ P opl l st).bind fun p=>k p.1 p.2
 | [],st,k=>rfl
 | o::r,st,k=>by
  simp only[QL,vZ,xe,zU,jw]
  cases guardT opl st o with
  | none=>rfl
  | some b=>cases b with
   | false=>
    simp only[qv,vg Γ P opl r]
    rfl
   | true=>
    simp only[qv,vg Γ P opl r]
    congr 1
    funext q
    congr 1
    funext v
    split
    ·rw[qv]
     congr 1
     funext s
     rw[qv]
     rfl
    ·rfl
def regionF (Γ:OrcT) (Λ:Lend) (P:Program) (ops:Array Oper) (draw:Bool) (st:St):Tr St:=
 if draw=true then xA { st with o:=st.o.freezes (zOf ops.toList st) } fun st=>QL (Kk Γ) P ops.toList ops.toList st fun rs s=>if objsOk ops.toList rs=true then .ret s else .fail
 else xA (spill st ops.toList) fun st=>j5 Γ Λ P ops.toList ops.toList st
theorem kJ (Γ:OrcT) (Λ:Lend) (P:Program) (ops:Array Oper) (draw:Bool) (st:St):regionF Γ Λ P ops draw st=regionT2 Γ Λ P ops draw st:=by
 unfold regionF regionT2 regionT
 simp_all[qR,vg,QM,jG,if_true,Bool.false_eq_true,if_false]
theorem Qd {st st':St} {T:Tab} {d:Option Nat} {v:V} (h:(vp st T d v).run=some st'):({ st with o:=T }:St).set d v=some st':=by
 grind[yp,qY]
theorem KN {st st':St} {d:Option Nat} {v:V} (h:st.set d v=some st'):st'.g=st.g∧st'.n=st.n:=by
 cases d with
 | none=>simp only[St.set,Option.some.injEq] at h;subst h;exact⟨rfl,rfl⟩
 | some d=>
  simp only[St.set] at h
  split at h
  ·injection h with h;subst h;exact⟨rfl,rfl⟩
  ·cases h
theorem XW {Γ:OrcT} {Λ:Lend} {P:Program} {opl:List Oper} {st st':St} {o:Oper} (h:(j7 Γ Λ P opl st o).run=some st'):st'.g=st.g:=by
 unfold j7 at h
 split at h
 ·exact(KN (qY h)).1
 ·obtain⟨r,h1,h2⟩:=qg h
  obtain⟨v,h3,h4⟩:=qg h2
  exact(KN (qY h4)).1
 ·cases h
theorem yY {Γ:OrcT} {Λ:Lend} {P:Program} {opl:List Oper}:∀(l:List Oper) (st st':St),(jd Γ Λ P opl l st).run=some st'→st'.g=st.g
 | [],st,st',h=>by have:=qd h;subst this;rfl
 | o::r,st,st',h=>by
  obtain⟨s,h1,h2⟩:=qg h
  rw[yY r s st' h2,XW h1]
def qZ (Γ:OrcT) (Λ:Lend) (P:Program):Nat→Code→St→Tr (Ex×St)
 | 0,_,_=>.fail
 | n+1,c,st=>match c with
  | .skip=>.ret (.normal,st)
  | .label _=>.ret (.normal,st)
  | .ret=>.ret (.ret,st)
  | .region _ ops draw=>if draw=true then .fail else(j5 Γ Λ P ops.toList ops.toList st).bind fun s=>.ret (.normal,s)
  | .seq x y=>(qZ Γ Λ P n x st).bind fun q=>match q.1 with
   | .normal=>qZ Γ Λ P n y q.2
   | _=>.ret q
  | .cond c x y=>match st.eval c with
   | .bool true=>qZ Γ Λ P n x st
   | .bool false=>qZ Γ Λ P n y st
   | .bs b=>.ite b (qZ Γ Λ P n x st) (qZ Γ Λ P n y st)
   | _=>.fail
  | .block _ c=>(qZ Γ Λ P n c st).bind fun q=>match q.1 with
   | .exit _=>.fail
   | _=>.ret q
  | _=>.fail
theorem Qs {κ:Cx} {Γ:OrcT} {Λ:Lend} (hΓ:GammaOk2 κ.P Γ.orc):∀(n:Nat) (c:Code) (st:St) (r:Ex×St),(qZ Γ Λ κ.P n c st).run=some r→
  HT κ c (fun e s=>e=r.1.to∧s=r.2) st∧r.2.g=st.g∧∀i,r.1≠.exit i
 | 0,c,st,r,h=>by cases h
 | n+1,c,st,r,h=>by
  have ih:=Qs (κ:=κ) (Λ:=Λ) hΓ n
  cases c with
  | skip=>simp only[qZ] at h;have:=qd h;subst this;exact⟨HT.skip ⟨rfl,rfl⟩,rfl,fun i=>by simp⟩
  | label l=>simp only[qZ] at h;have:=qd h;subst this;exact⟨HT.label ⟨rfl,rfl⟩,rfl,fun i=>by simp⟩
  | ret=>simp only[qZ] at h;have:=qd h;subst this;exact⟨HT.ret ⟨rfl,rfl⟩,rfl,fun i=>by simp⟩
  | region id ops draw=>
   simp only[qZ] at h
   split at h
   ·cases h
   ·rename_i hd
    have hd:draw=false:=by simpa using hd
    subst hd
    obtain⟨s,h1,h2⟩:=qg h
    have:=qd h2;subst this
    rw[jG] at h1
    exact⟨fun a w hr=>wp_region_list (xo hΓ ops.toList _ s a w h1 hr fun a' w' hr'=>⟨s,⟨rfl,rfl⟩,hr'⟩),yY _ _ _ h1,fun i=>by simp⟩
  | seq x y=>
   simp only[qZ] at h
   obtain⟨q,h1,h2⟩:=qg h
   obtain⟨a1,a2,a3⟩:=ih x st q h1
   obtain⟨ex,sx⟩:=q
   cases ex with
   | normal=>
    obtain⟨c1,c2,c3⟩:=ih y sx r h2
    refine⟨HT.seq (a1.mono fun e s=>?_),c2.trans a2,c3⟩
    rintro⟨e1,e2⟩
    simp only at e1 e2;subst e1 e2
    exact c1
   | exit i=>grind
   | ret=>
    have:=qd h2;subst this
    refine⟨HT.seq (a1.mono fun e s=>?_),a2,a3⟩
    rintro⟨e1,e2⟩
    simp only at e1 e2;subst e1 e2
    exact⟨rfl,rfl⟩
  | cond o x y=>
   simp only[qZ] at h
   split at h
   ·grind[HT.cond]
   ·grind[HT.cond]
   ·rename_i b ho
    cases b with
    | true=>obtain⟨a1,a2⟩:=ih x st r h;exact⟨HT.condS ho a1,a2⟩
    | false=>obtain⟨a1,a2⟩:=ih y st r h;exact⟨HT.condS ho a1,a2⟩
   ·cases h
  | block id c=>
   simp only[qZ] at h
   obtain⟨q,h1,h2⟩:=qg h
   obtain⟨a1,a2,a3⟩:=ih c st q h1
   obtain⟨ex,sx⟩:=q
   cases ex with
   | exit i=>cases h2
   | normal=>
    have:=qd h2;subst this
    refine⟨HT.block (a1.mono fun e s=>?_),a2,a3⟩
    rintro⟨e1,e2⟩
    simp only at e1 e2;subst e1 e2
    exact⟨rfl,rfl⟩
   | ret=>
    have:=qd h2;subst this
    refine⟨HT.block (a1.mono fun e s=>?_),a2,a3⟩
    rintro⟨e1,e2⟩
    simp only at e1 e2;subst e1 e2
    exact⟨rfl,rfl⟩
  | _=>cases h
def K8 (Γ:OrcT) (Λ:Lend) (P:Program) (k:Nat) (xs:List V) (T:Tab) (g:List V):Tr (V×Tab):=match P.funcs[k]? with
 | some fn=>match fn.body with
  | some c => if (fn.name == "runtime.NumGoroutine") = false ∧ xs.length ≤ fn.ntmps then
    (qZ Γ Λ P 60 c ⟨fn.ntmps, slots 0 xs, T, g⟩).bind fun q => match Qg P q.2 fn.results.toList with
     | some vs=>.ret (packV vs,q.2.o)
     | none=>.fail
   else .fail
  | none=>.fail
 | none=>.fail
theorem Ku {P:Program} {Γ:OrcT} {Λ:Lend} (hΓ:GammaOk2 P Γ.orc) {k:Nat} {xs:List V} {T:Tab} {g:List V} {r:V×Tab} (h:(K8 Γ Λ P k xs T g).run=some r):
  XR P k xs T g r.1 r.2 g ∧ ∃ fn, P.funcs[k]? = some fn ∧ (fn.name == "runtime.NumGoroutine") = false ∧ fn.body.isNone = false := by
 unfold K8 at h
 split at h
 case h_2=>cases h
 rename_i fn hf
 split at h
 case h_2=>cases h
 rename_i c hb
 split at h
 case isFalse=>cases h
 rename_i hc
 obtain⟨q,h1,h2⟩:=qg h
 refine⟨J6 hf hb hc.2 fun κ hκ=>?_,fn,hf,hc.1,by simp[hb]⟩
 subst hκ
 obtain⟨a1,a2,a3⟩:=Qs (κ:=κ) hΓ 60 c _ q h1
 refine a1.mono fun e s=>?_
 rintro⟨rfl,rfl⟩
 split at h2
 ·rename_i vs hvs
  have:=qd h2;subst this
  refine⟨?_,vs,hvs,rfl,rfl,a2⟩
  cases hq:q.1 with
  | normal=>exact .inl rfl
  | ret=>exact .inr rfl
  | exit i=>grind
 ·cases h2
def Zu (T:Tab):List V→Bool
 | []=>false
 | .ptr t _ _::r=>(match (T.get t).k with
  | .box _ cs=>cs.any fun v=>match v with | .acc _ _=>true | _=>false
  | _=>false)||Zu T r
 | _::r=>Zu T r
def ZZ (Γ:OrcT) (Λ:Lend) (P:Program) (opl:List Oper) (st:St) (o:Oper):Option (Tr St):=match o.op with
 | .call ⟨.value f,args,_⟩=>match st.eval f with
  | .fn k caps=>if Zu st.o caps=true then(match guardT opl st o with
   | some true=>some ((K8 Γ Λ P k (args.toList.map st.eval++caps) st.o (st.g++st.t.map (fun p=>st.get p.1))).bind fun r=>Jn r.1 fun v=>QA r.2 fun T=>vp st T o.dst v)
   | _=>none) else none
  | _=>none
 | _=>none
def Vt (st:St) (y:Nat):List Nat:=match st.get y with
 | .acc _ _=>[y]
 | _=>[]
def KX (st:St) (o:Oper):List Nat:=match o.op with
 | .store _ x (.tmp y)=>match st.eval x with
  | .eptr _ _ _ _ _=>Vt st y
  | _=>[]
 | _=>[]
def viewO (st:St) (o:Oper):St:=(KX st o).foldl Abs.viewR st
theorem yT {κ:Cx} {a:Act} {w:World}:∀(l:List Nat) (st:St),Rel κ st a w→Rel κ (l.foldl Abs.viewR st) a w
 | [],_,h=>h
 | y::r,_,h=>yT r _ h.viewR
theorem Rel.viewO {κ:Cx} {st:St} {a:Act} {w:World} (h:Rel κ st a w) (o:Oper):Rel κ (Abs.viewO st o) a w:=yT _ _ h
theorem JX (st:St) (y:Nat):(Abs.viewR st y).n=st.n∧(Abs.viewR st y).g=st.g:=by
 unfold Abs.viewR
 grind
theorem vB:∀(l:List Nat) (st:St),(l.foldl Abs.viewR st).n=st.n∧(l.foldl Abs.viewR st).g=st.g∧∀t,(st.get t).still=true→(l.foldl Abs.viewR st).get t=st.get t
 | [],_=>⟨rfl,rfl,fun _ _=>rfl⟩
 | y::r,st=>by
  obtain⟨a1,a2,a3⟩:=vB r (Abs.viewR st y)
  obtain⟨b1,b2⟩:=JX st y
  have hg:∀t,(st.get t).still=true→(Abs.viewR st y).get t=st.get t:=fun t ht=>(jo (V.still_pure _ ht)).1
  exact⟨a1.trans b1,a2.trans b2,fun t ht=>(a3 t (by rw[hg t ht];exact ht)).trans (hg t ht)⟩
theorem Ja (st:St) (o:Oper):(viewO st o).n=st.n∧(viewO st o).g=st.g∧∀t,(st.get t).still=true→(viewO st o).get t=st.get t:=vB _ _
def yl (Γ:OrcT) (Λ:Lend) (P:Program) (opl:List Oper) (st:St) (o:Oper):Tr St:=match ZZ Γ Λ P opl st o with
 | some t=>t
 | none=>xA (viewO st o) fun st=>ym Γ Λ P opl st o
def zP (Γ:OrcT) (Λ:Lend) (P:Program) (opl:List Oper):List Oper→St→Tr St
 | [],st=>.ret st
 | o::r,st=>(yl Γ Λ P opl st o).bind (zP Γ Λ P opl r)
theorem LR.getD_map {α:Type} {R:V→Value→Prop} (f:α→V) (g:α→Value):∀(l:List α),LR R (l.map f) (l.map g)→∀x∈l,R (f x) (g x)
 | [],_,x,hx=>by simp at hx
 | y::l,h,x,hx=>by
  obtain⟨u,us,e,h1,h2⟩:=h.head
  simp only[List.map_cons,List.cons.injEq] at e
  obtain⟨rfl,rfl⟩:=e
  simp only[List.mem_cons] at hx
  rcases hx with rfl | hx
  ·exact h1
  ·exact LR.getD_map f g l h2 x hx
theorem XC {κ:Cx} {st:St} {a:Act} {w:World} {Γ:OrcT} {Λ:Lend} (hΓ:GammaOk2 κ.P Γ.orc) (hrel:Rel κ st a w) {ops:Array Oper} {o:Oper} {t:Tr St} (ht:ZZ Γ Λ κ.P ops.toList st o=some t) {st':St} (hx:t.run=some st') {K:Act→World→Prop} {Q:Exit→Act→World→Prop}
  (hK:∀a' w',Rel κ st' a' w'→K a' w'):if Region.wanted o (yielded ops a.tmps) then o.wp κ.P a w K Q else K (a.put o.dst undef) w:=by
 obtain⟨ι,h⟩:=hrel
 unfold ZZ at ht
 split at ht
 case h_2=>cases ht
 rename_i f args ts ho
 split at ht
 case h_2=>cases ht
 rename_i k caps hf
 split at ht
 case isFalse=>cases ht
 split at ht
 case h_2=>cases ht
 rename_i hg
 injection ht with ht
 subst ht
 rw[zk h (guardT_ok hg)]
 simp only[if_true]
 obtain⟨⟨v,T'⟩,h1,h2⟩:=qg hx
 simp only[xe,zU] at h2
 have h4:=Qd h2
 obtain⟨hspec,fn,e1,e2,e3⟩:=Ku hΓ h1
 simp only at hspec
 have hfv:=h.eval f
 rw[hf] at hfv
 obtain⟨us,hfu,hl,hh⟩:=hfv.fn_
 have hargs:LR (Rv st.o ι (Stable κ.D st.o ι w) w) (args.toList.map st.eval++caps) (args.map a.eval++⟨us⟩).toList:=by
  have:=LR.map st.eval a.eval args.toList (R:=Rv st.o ι (Stable κ.D st.o ι w) w) fun x _=>h.eval x
  simpa using this.append ⟨hl,hh⟩
 unfold Oper.wp
 rw[jx ho hfu e1 e2 e3]
 let κ':Cx:={ κ with gv:=κ.gv++st.t.map (fun p=>a.tmps.getD p.1 undef) }
 have hs:LR (Rv st.o ι (Stable κ.D st.o ι w) w) (st.t.map (fun p=>st.get p.1)) (st.t.map (fun p=>a.tmps.getD p.1 undef)):=LR.map _ _ st.t fun p _=>h.tm p.1
 have hm0:XS κ' ι st.o (st.g++st.t.map (fun p=>st.get p.1)) w:=⟨h.tr,h.my,h.kept,h.pin,h.gh.append hs⟩
 refine(hspec κ' rfl ι w _ hm0 hargs).mono fun e w'=>?_
 rintro⟨cv,ι',rfl,hm,hv⟩
 have hgl:st.g.length=κ.gv.length:=h.gh.1
 have hg1:=hm.gh.take st.g.length
 have hg2:=hm.gh.drop st.g.length
 simp only[κ',hgl,List.take_left,List.drop_left] at hg1 hg2
 rw[←hgl] at hg1 hg2
 rw[List.take_left] at hg1
 rw[List.drop_left] at hg2
 have hr:RelI κ ι' { st with o:=T' } a w':=by
  refine⟨h.dfr,h.sz,fun t=>?_,hm.tr,hm.my,hm.kept,hm.pin,hg1⟩
  show Rv T' ι' (Stable κ.D T' ι' w') w' (st.get t) _
  rcases aget_cases (d:=V.undef) st.t t with e | ⟨v,e5,e6⟩
  ·have:st.get t=.undef:=e
   rw[this];exact .undef _
  ·have:=LR.getD_map (fun p:Nat×V=>st.get p.1) (fun p=>a.tmps.getD p.1 undef) st.t hg2 (t,v) e5
   exact this
 exact hK _ _ ⟨ι',hr.set (To.refl hr) (by simpa using h4) hv⟩
theorem vI {κ:Cx} {st:St} {a:Act} {w:World} {Γ:OrcT} {Λ:Lend} (hΓ:GammaOk2 κ.P Γ.orc) (hrel:Rel κ st a w) {ops:Array Oper} {o:Oper} {st':St} (hx:(yl Γ Λ κ.P ops.toList st o).run=some st') {K:Act→World→Prop} {Q:Exit→Act→World→Prop}
  (hK:∀a' w',Rel κ st' a' w'→K a' w'):if Region.wanted o (yielded ops a.tmps) then o.wp κ.P a w K Q else K (a.put o.dst undef) w:=by
 unfold yl at hx
 split at hx
 ·rename_i t ht
  exact XC hΓ hrel ht hx hK
 ·rw[qR,xq] at hx
  exact yZ hΓ (hrel.viewO o) hx hK
theorem jF {κ:Cx} {Γ:OrcT} {Λ:Lend} (hΓ:GammaOk2 κ.P Γ.orc) {ops:Array Oper} {Q:Exit→Act→World→Prop}:∀(l:List Oper) (st st':St) (a:Act) (w:World),(zP Γ Λ κ.P ops.toList l st).run=some st'→Rel κ st a w→
  (∀a' w',Rel κ st' a' w'→Q .normal a' w')→wpList κ.P ops Q l a w
 | [],st,st',a,w,hx,hr,hQ=>by
  have:=qd hx
  subst this
  exact wpList_nil (hQ a w hr)
 | o::r,st,st',a,w,hx,hr,hQ=>by
  obtain⟨s1,h1,h2⟩:=qg hx
  exact wpList_step fun K hK=>vI hΓ hr h1 fun a' w' hr'=>hK _ _ (jF hΓ r s1 st' a' w' h2 hr' hQ)
def regionI (Γ:OrcT) (Λ:Lend) (P:Program) (ops:Array Oper) (draw:Bool) (st:St):Tr St:=
 if draw=true then regionF Γ Λ P ops true st else xA (spill st ops.toList) fun st=>zP Γ Λ P ops.toList ops.toList st
theorem HT.regionI {κ:Cx} {Γ:OrcT} {Λ:Lend} (hΓ:GammaOk2 κ.P Γ.orc) (hm:κ.P.follows .mixedOrders=true) {id:Nat} {ops:Array Oper} {draw:Bool} (htmp:(!draw||tmpsOk ops.toList)=true) {Q:Exit→St→Prop} {st st':St}
  (hx:(Abs.regionI Γ Λ κ.P ops draw st).run=some st') (h:Q .normal st'):HT κ (.region id ops draw) Q st:=by
 unfold Abs.regionI at hx
 cases draw with
 | true=>
  simp only[if_true,kJ] at hx
  grind[HT.regionT2]
 | false=>
  simp only[Bool.false_eq_true,if_false,qR] at hx
  exact fun a w hr=>wp_region_list (jF hΓ ops.toList _ st' a w hx (hr.spill ops.toList) fun a' w' hr'=>⟨st',h,hr'⟩)
end Go.Abs
namespace Go.Abs
open Go.RowKit
set_option linter.unusedVariables false
set_option linter.unusedSimpArgs false
def writes:Code→List Nat
 | .region _ ops _=>ops.toList.filterMap (·.dst)
 | .seq x y=>writes x++writes y
 | .cond _ x y=>writes x++writes y
 | .block _ c=>writes c
 | .loop c=>writes c
 | _=>[]
def baseOf (st:St) (c:Code):St:=
 ⟨st.n,st.t.filterMap fun p=>if (st.get p.1).still&&!(writes c).contains p.1 then some (p.1,st.get p.1) else none,[],[]⟩
def Ex.eqb:Ex→Ex→Bool
 | .normal,.normal=>true
 | .exit i,.exit j=>i==j
 | .ret,.ret=>true
 | _,_=>false
theorem Ex.eqb_ok {a b:Ex} (h:a.eqb b=true):a=b:=by
 cases a<;>cases b<;>simp[Ex.eqb] at h ⊢
 exact h
abbrev XP:=List (Ex×Pat)
def xI:XP→Type
 | []=>Empty
 | [q]=>q.2.I
 | q::r::s=>q.2.I⊕xI (r::s)
def QN:(xs:XP)→Ex→St→Option (xI xs)
 | [],_,_=>none
 | [q],e,s=>if q.1.eqb e=true then decP s q.2 else none
 | q::r::l,e,s=>if q.1.eqb e=true then omap .inl (decP s q.2) else omap .inr (QN (r::l) e s)
def Jq (base:St):(xs:XP)→xI xs→Tr (Ex×St)
 | [],_=>.fail
 | [q],x=>xA (patS base q.2 x) fun s=>.ret (q.1,s)
 | q::r::l,x=>.sm x (fun y=>xA (patS base q.2 y) fun s=>.ret (q.1,s)) fun z=>Jq base (r::l) z
inductive Hint where
 | none
 | cut (vs:List Nat) (xs:XP)
 | loop (vs:List Nat) (p:Pat) (xs:XP)
 | unroll (m:Nat)
 | reg (cs:List (Nat×List Nat×Pat))
def firstR:Code→Option Nat
 | .region id _ _=>some id
 | .seq x y=>match firstR x with | some r=>some r | none=>firstR y
 | .cond _ x y=>match firstR x with | some r=>some r | none=>firstR y
 | .block _ c=>firstR c
 | .loop c=>firstR c
 | _=>none
def hintOf (H:List (Nat×Hint)) (c:Code):Hint:=match firstR c with
 | some r=>aget .none H r
 | none=>.none
def inW (p:Pat) (c:Code) (st:St):Bool:=p.sl.all fun q=>(writes c).contains q.1||!(st.get q.1).still
def inX (xs:XP) (c:Code) (st:St):Bool:=xs.all fun q=>inW q.2 c st
def qN (st:St) (vs:List Nat):St:=vs.foldl Abs.viewR st
def xY (f:St→Tr (Ex×St)):Nat→St→Tr (Ex×St)
 | 0,_=>.fail
 | m+1,st=>(f st).bind fun q=>match q.1 with
  | .normal=>xY f m q.2
  | _=>.ret q
def Vk (tx:Tr (Ex×St)) (f:St→Tr (Ex×St)):Tr (Ex×St):=tx.bind fun q=>match q.1 with
 | .normal=>f q.2
 | _=>.ret q
def Vq (xs:XP) (x:Code) (f:St→Tr (Ex×St)) (st:St):Tr (Ex×St):=
 if inX xs x st=true then Tr.ob ((f st).elim fun q=>QN xs q.1 q.2) fun r=>Jq (baseOf st x) xs r else .fail
def KP (p:Pat) (xs:XP) (N:Nat) (c:Code) (f:St→Tr (Ex×St)) (st:St):Tr (Ex×St):=
 if inW p c st=true∧inX xs c st=true then(Tr.of (decP st p)).bind fun v0=>.ob (loopN N (fun v=>(xA (patS (baseOf st c) p v) f).elim fun q=>match q.1 with
  | .normal=>omap .inl (decP q.2 p)
  | e=>omap .inr (QN xs e q.2)) v0) fun r=>Jq (baseOf st c) xs r
 else .fail
def J8 (Γ:OrcT) (Λ:Lend) (P:Program) (opl:List Oper):List (Nat×List Nat×Pat)→List Oper→St→Tr St
 | [],l,st=>zP Γ Λ P opl l st
 | (k, vs, p) :: cs, l, st =>
  if inW p (.region 0 (l.take k).toArray false) (qN st vs)=true then
   Tr.ob ((zP Γ Λ P opl (l.take k) (qN st vs)).elim fun s=>decP s p) fun v=>
    xA (patS (baseOf (qN st vs) (.region 0 (l.take k).toArray false)) p v) fun s=>J8 Γ Λ P opl cs (l.drop k) s
  else .fail
def K0 (Γ:OrcT) (Λ:Lend) (P:Program) (h:Hint) (ops:Array Oper) (draw:Bool) (st:St):Tr St:=match h with
 | .reg cs=>if draw=true then .fail else xA (spill st ops.toList) fun s=>J8 Γ Λ P ops.toList cs ops.toList s
 | _=>regionI Γ Λ P ops draw st
def evT (Γ:OrcT) (Λ:Lend) (P:Program) (HL HC:List (Nat×Hint)) (N:Nat):Nat→Code→St→Tr (Ex×St)
 | 0,_,_=>.fail
 | n+1,c,st=>match c with
  | .skip=>.ret (.normal,st)
  | .label _=>.ret (.normal,st)
  | .exit id=>.ret (.exit id,st)
  | .ret=>.ret (.ret,st)
  | .region id ops draw=>(K0 Γ Λ P (aget .none HC (1000000+id)) ops draw st).bind fun s=>.ret (.normal,s)
  | .seq x y=>Vk (match hintOf HC y with
    | .cut vs xs=>Vq xs x (fun s=>evT Γ Λ P HL HC N n x s) (qN st vs)
    | _=>evT Γ Λ P HL HC N n x st) fun s=>evT Γ Λ P HL HC N n y s
  | .cond c x y=>match st.eval c with
   | .bool true=>evT Γ Λ P HL HC N n x st
   | .bool false=>evT Γ Λ P HL HC N n y st
   | .bs b=>.ite b (evT Γ Λ P HL HC N n x st) (evT Γ Λ P HL HC N n y st)
   | _=>.fail
  | .block id c=>(evT Γ Λ P HL HC N n c st).bind fun q=>match q.1 with
   | .exit i=>if i=id then .ret (.normal,q.2) else .ret q
   | _=>.ret q
  | .loop c=>match hintOf HL c with
   | .loop vs p xs=>KP p xs N c (fun s=>evT Γ Λ P HL HC N n c s) (qN st vs)
   | .unroll m=>xY (fun s=>evT Γ Λ P HL HC N n c s) m st
   | _=>.fail
  | _=>.fail
def Keep (W:List Nat) (st s:St):Prop:=s.n=st.n∧s.g=[]∧∀t,t∉W→(st.get t).still=true→s.get t=st.get t
theorem Keep.refl {W:List Nat} {st:St} (h:st.g=[]):Keep W st st:=⟨rfl,h,fun _ _ _=>rfl⟩
theorem Keep.mono {W W':List Nat} {st s:St} (h:Keep W st s) (hw:∀t,t∈W→t∈W'):Keep W' st s:=⟨h.1,h.2.1,fun t ht hs=>h.2.2 t (fun e=>ht (hw t e)) hs⟩
theorem Keep.trans {W:List Nat} {st s s':St} (h:Keep W st s) (h':Keep W s s'):Keep W st s':=
 ⟨h'.1.trans h.1,h'.2.1,fun t ht hs=>by rw[h'.2.2 t ht (by rw[h.2.2 t ht hs];exact hs),h.2.2 t ht hs]⟩
theorem base_get (st:St) (c:Code) (t:Nat):(baseOf st c).get t=.undef∨((baseOf st c).get t=st.get t∧((baseOf st c).get t).still=true):=by
 rcases aget_cases (d:=V.undef) (baseOf st c).t t with e | ⟨v,e1,e2⟩
 ·exact .inl e
 ·right
  simp only[baseOf,List.mem_filterMap] at e1
  obtain⟨p,_,hp⟩:=e1
  split at hp
  ·rename_i hc
   simp only[Option.some.injEq,Prod.mk.injEq] at hp
   obtain⟨rfl,rfl⟩:=hp
   have:(baseOf st c).get p.1=st.get p.1:=e2
   grind
  ·cases hp
theorem aget_key {α:Type} {d:α}:∀{l:List (Nat×α)} {q:Nat} {x:α},(q,x)∈l→∃v,(q,v)∈l∧aget d l q=v
 | [],q,x,h=>by simp at h
 | (k, y) :: r, q, x, h => by
  simp only[aget]
  by_cases e:k=q
  ·subst e;exact⟨y,by simp,by simp⟩
  ·rw[if_neg e]
   rcases List.mem_cons.1 h with h | h
   ·injection h with e1 _;exact absurd e1.symm e
   ·obtain⟨v,h1,h2⟩:=aget_key h
    exact⟨v,by simp[h1],h2⟩
theorem base_keep {st:St} {c:Code} {t:Nat} (ht:t∉writes c) (hs:(st.get t).still=true):(baseOf st c).get t=st.get t:=by
 rcases aget_cases (d:=V.undef) st.t t with e | ⟨v,e1,e2⟩
 ·have:st.get t=.undef:=e
  grind[V.still]
 ·have hm:(t,st.get t)∈(baseOf st c).t:=by
   grind[baseOf,writes]
  obtain⟨u,h1,h2⟩:=aget_key (d:=V.undef) hm
  have h3:(baseOf st c).get t=u:=h2
  rcases base_get st c t with e | ⟨e,_⟩
  ·rw[h3] at e
   subst e
   simp only[baseOf,List.mem_filterMap] at h1
   grind
  ·exact e
theorem yK {st:St} {c:Code} {t:Nat} (ht:t∈writes c):(baseOf st c).get t=.undef:=by
 rcases aget_cases (d:=V.undef) (baseOf st c).t t with e | ⟨v,e3,e4⟩
 ·exact e
 ·simp only[baseOf,List.mem_filterMap] at e3
  grind
theorem ve:∀(m:List (Nat×SS)) (l:List TX) (t:Nat) (v:V),(t,v)∈(zJ m l).1→∃p∈m,p.1=t
 | [],l,t,v,h=>by simp[zJ] at h
 | e::m,l,t,v,h=>by
  simp only[zJ] at h
  rcases List.mem_cons.1 h with h | h
  ·injection h with h1 _;exact⟨e,by simp,h1.symm⟩
  ·obtain⟨p,h1,h2⟩:=ve m _ t v h
   exact⟨p,by simp[h1],h2⟩
theorem patS_keep {st:St} {c:Code} {p:Pat} {x:p.I} (hp:inW p c st=true):Keep (writes c) st (patS (baseOf st c) p x):=by
 refine⟨rfl,rfl,fun t ht hs=>?_⟩
 rw[←base_keep ht hs]
 show aget .undef ((zJ p.sl (qU p.ts x)).1++(baseOf st c).t) t=aget .undef (baseOf st c).t t
 have key:∀m:List (Nat×V),(∀q v,(q,v)∈m→q≠t)→aget .undef (m++(baseOf st c).t) t=aget .undef (baseOf st c).t t:=by
  intro m
  induction m with
  | nil=>intro _;rfl
  | cons q r ih=>
   grind[aget]
 refine key _ fun q v hq e=>?_
 subst e
 obtain⟨p',h1,rfl⟩:=ve p.sl _ q v hq
 have:=List.all_eq_true.1 hp p' h1
 grind
theorem set_keep {st st':St} {d:Option Nat} {v:V} {W:List Nat} (hg:st.g=[]) (h:st.set d v=some st') (hd:∀t,d=some t→t∈W):Keep W st st':=by
 obtain⟨h1,h2,h3,h4⟩:=set_get h
 refine⟨h1,(set_g h).trans hg,fun t ht _=>?_⟩
 grind
theorem Keep.tab {W:List Nat} {st s:St} {T:Tab} (h:Keep W ({ st with o:=T }:St) s):Keep W st s:=h
theorem jc {Γ:OrcT} {Λ:Lend} {P:Program} {opl:List Oper} {W:List Nat}:∀(l:List Oper) (st st':St),st.g=[]→(∀o∈l,∀t,o.dst=some t→t∈W)→(jd Γ Λ P opl l st).run=some st'→Keep W st st'
 | [],st,st',hg,_,h=>by have:=qd h;subst this;exact .refl hg
 | o::r,st,st',hg,hd,h=>by
  obtain⟨s1,h1,h2⟩:=qg h
  have hk:Keep W st s1:=by
   unfold j7 at h1
   split at h1
   ·exact set_keep hg (qY h1) (hd o (by simp))
   ·obtain⟨q,_,h3⟩:=qg h1
    obtain⟨v,_,h4⟩:=qg h3
    exact(set_keep (st:={ st with o:=q.2 }) hg (qY h4) (hd o (by simp))).tab
   ·cases h1
  exact hk.trans (jc r s1 st' hk.2.1 (fun o ho=>hd o (by simp[ho])) h2)
theorem yu {Γ:OrcT} {Λ:Lend} {P:Program} {opl:List Oper} {st s1:St} {o:Oper} (h:(j7 Γ Λ P opl st o).run=some s1):(jd Γ Λ P opl [o] st).run=some s1:=by
 have key:∀(m:Tr St),m.run=some s1→(m.bind fun s=>Tr.ret s).run=some s1:=fun m hm=>by
  have:(m.bind fun s=>Tr.ret s)=m:=by
   clear h hm
   induction m with
   | ret a=>rfl
   | fail=>rfl
   | ite b x y h1 h2=>show Tr.ite b _ _=_;rw[h1,h2]
   | ob m h ih=>show Tr.ob m _=_;simp_all
   | sm s h k ih1 ih2=>show Tr.sm s _ _=_;simp_all
  grind
 exact key _ h
theorem zb {Γ:OrcT} {Λ:Lend} {P:Program} {opl:List Oper} {W:List Nat}:∀(l:List Oper) (st st':St),st.g=[]→(∀o∈l,∀t,o.dst=some t→t∈W)→(zP Γ Λ P opl l st).run=some st'→Keep W st st'
 | [],st,st',hg,_,h=>by have:=qd h;subst this;exact .refl hg
 | o::r,st,st',hg,hd,h=>by
  obtain⟨s1,h1,h2⟩:=qg h
  have hk:Keep W st s1:=by
   unfold yl at h1
   split at h1
   ·rename_i t ht
    unfold ZZ at ht
    split at ht
    case h_2=>cases ht
    split at ht
    case h_2=>cases ht
    split at ht
    case isFalse=>cases ht
    split at ht
    case h_2=>cases ht
    injection ht with ht
    subst ht
    obtain⟨q,_,h3⟩:=qg h1
    simp only[xe,zU] at h3
    exact(set_keep (st:={ st with o:=q.2 }) hg (Qd h3) (hd o (by simp))).tab
   ·rw[qR,xq] at h1
    obtain⟨p1,p2,p3⟩:=Ja st o
    have hk:=jc [o] (viewO st o) s1 (p2.trans hg) (fun o' ho'=>hd o' (by simp at ho';simp[ho'])) (yu h1)
    exact⟨hk.1.trans p1,hk.2.1,fun t ht hs=>by rw[hk.2.2 t ht (by rw[p3 t hs];exact hs),p3 t hs]⟩
  exact hk.trans (zb r s1 st' hk.2.1 (fun o ho=>hd o (by simp[ho])) h2)
theorem drun_keep {Γ:Orc} {P:Program} {opl:List Oper} {W:List Nat}:∀(l:List Oper) (st:St) (rs:List Rec) (st':St),st.g=[]→(∀o∈l,∀t,o.dst=some t→t∈W)→drun Γ P opl l st=some (rs,st')→Keep W st st'
 | [],st,rs,st',hg,_,h=>by simp[drun] at h;rw[←h.2];exact .refl hg
 | o::r,st,rs,st',hg,hd,h=>by
  have hd':∀o∈r,∀t,o.dst=some t→t∈W:=fun o ho=>hd o (by simp[ho])
  simp only[drun] at h
  split at h
  ·split at h
   ·rename_i s1 h1
    split at h
    ·rename_i rs' s hr
     simp only[Option.some.injEq,Prod.mk.injEq] at h
     obtain⟨_,rfl⟩:=h
     have hk:=set_keep hg h1 (hd o (by simp))
     exact hk.trans (drun_keep r s1 rs' _ hk.2.1 hd' hr)
    ·cases h
   ·cases h
  ·split at h
   ·split at h
    ·split at h
     ·rename_i s1 h1
      split at h
      ·rename_i rs' s hr
       simp only[Option.some.injEq,Prod.mk.injEq] at h
       obtain⟨_,rfl⟩:=h
       have hk:=(set_keep (W:=W) (by exact hg) h1 (hd o (by simp))).tab
       exact hk.trans (drun_keep r s1 rs' _ hk.2.1 hd' hr)
      ·cases h
     ·cases h
    ·cases h
   ·cases h
  ·cases h
theorem vq {Γ:OrcT} {Λ:Lend} {P:Program} {ops:Array Oper} {draw:Bool} {st st':St} (hg:st.g=[]) (h:(regionT2 Γ Λ P ops draw st).run=some st'):Keep (ops.toList.filterMap (·.dst)) st st':=by
 have hd:∀o∈ops.toList,∀t,o.dst=some t→t∈ops.toList.filterMap (·.dst):=fun o ho t ht=>List.mem_filterMap.2 ⟨o,ho,ht⟩
 unfold regionT2 at h
 split at h
 ·rename_i hdr
  unfold regionT at h
  rw[if_pos hdr] at h
  obtain⟨q,h1,h2⟩:=qg h
  split at h2
  ·have:=qd h2
   subst this
   exact(drun_keep _ _ q.1 q.2 (by exact hg) hd (drunT_run _ _ _ h1)).tab
  ·cases h2
 ·obtain⟨a1,a2,a3⟩:=jq ops.toList st
  have hk:=jc _ _ st' (a2 hg) hd h
  exact⟨hk.1.trans a1,hk.2.1,fun t ht hs=>by rw[hk.2.2 t ht (by grind),a3 t hs]⟩
theorem qH {α β:Type} {f:α→β} {m:Option α} {b:β} (h:omap f m=some b):∃a,m=some a∧f a=b:=by
 unfold omap at h
 cases m with
 | none=>cases h
 | some a=>exact⟨a,rfl,by simpa using h⟩
theorem yz {α β:Type} {m:Option β} {f:β→Tr α} {r:α} (h:(Tr.ob m f).run=some r):∃b,m=some b∧(f b).run=some r:=by
 cases m with
 | none=>cases h
 | some b=>exact⟨b,rfl,h⟩
theorem QF {base:St}:∀(xs:XP) (e:Ex) (s:St) (x:xI xs) (r:Ex×St),QN xs e s=some x→(Jq base xs x).run=some r→∃p,(e,p)∈xs∧∃y,decP s p=some y∧r=(e,patS base p y)
 | [],e,s,x,r,h,_=>by cases h
 | [q],e,s,x,r,h,hr=>by
  have h':(if q.1.eqb e=true then decP s q.2 else none)=some x:=h
  by_cases he:q.1.eqb e=true
  ·rw[if_pos he] at h'
   have hr':(xA (patS base q.2 x) fun s=>Tr.ret (q.1,s)).run=some r:=hr
   rw[qR] at hr'
   have:=qd hr'
   subst this
   exact⟨q.2,by rw[←Ex.eqb_ok he];simp,x,h',by rw[Ex.eqb_ok he]⟩
  ·rw[if_neg he] at h';cases h'
 | q::q'::l,e,s,x,r,h,hr=>by
  simp only[QN] at h
  split at h
  ·rename_i he
   obtain⟨y,h1,rfl⟩:=qH h
   have hr':(xA (patS base q.2 y) fun s=>Tr.ret (q.1,s)).run=some r:=hr
   rw[qR] at hr'
   have:=qd hr'
   subst this
   exact⟨q.2,by rw[←Ex.eqb_ok he];simp,y,h1,by rw[Ex.eqb_ok he]⟩
  ·obtain⟨z,h1,rfl⟩:=qH h
   have hr':(Jq base (q'::l) z).run=some r:=hr
   obtain⟨p,h2,y,h3,h4⟩:=QF (q'::l) e s z r h1 hr'
   exact⟨p,List.mem_cons_of_mem _ h2,y,h3,h4⟩
section
variable {κ : Cx} {Γ : OrcT} {Λ : Lend} {HL HC : List (Nat × Hint)} {N : Nat}
theorem zC:∀(vs:List Nat) (st:St),(qN st vs).n=st.n∧(qN st vs).g=st.g∧∀t,(st.get t).still=true→(qN st vs).get t=st.get t
 | [],st=>⟨rfl,rfl,fun _ _=>rfl⟩
 | t0::r,st=>by
  obtain⟨h2,h3,h4⟩:=zC r (Abs.viewR st t0)
  have hn:(Abs.viewR st t0).n=st.n∧(Abs.viewR st t0).g=st.g:=by
   unfold Abs.viewR
   split
   ·exact⟨rfl,rfl⟩
   ·split<;>exact⟨rfl,rfl⟩
  refine⟨h2.trans hn.1,h3.trans hn.2,fun t ht=>?_⟩
  have e:=(jo (st:=st) (r:=t0) (t:=t) (V.still_pure _ ht)).1
  have:qN st (t0::r)=qN (Abs.viewR st t0) r:=rfl
  rw[this,h4 t (by rw[e];exact ht),e]
theorem jm {a:Act} {w:World}:∀(vs:List Nat) (st:St),Rel κ st a w→Rel κ (qN st vs) a w
 | [],st,h=>h
 | t0::r,st,h=>jm r (Abs.viewR st t0) h.viewR
theorem Keep.view {W:List Nat} {st s:St} {vs:List Nat} (h:Keep W (qN st vs) s):Keep W st s:=by
 obtain⟨h2,h3,h4⟩:=zC vs st
 exact⟨h.1.trans h2,h.2.1,fun t ht hs=>by rw[h.2.2 t ht (by grind),h4 t hs]⟩
theorem toCanon (hgv:κ.gv=[]) {st s:St} {x:Code} {p:Pat} {v:p.I} (hk:Keep (writes x) st s) (hd:decP s p=some v):∀a w,Rel κ s a w→Rel κ (patS (baseOf st x) p v) a w:=fun a w hr=>by
 refine Abs.canon hgv (hk.1.symm▸rfl) (fun t=>?_) hd hr
 rcases base_get st x t with e | ⟨e1,e2⟩
 ·exact .inl e
 ·by_cases ht:t∈writes x
  ·exact .inl (yK ht)
  ·exact .inr ⟨by rw[e1,hk.2.2 t ht (by grind)],e2⟩
theorem ZX (hgv:κ.gv=[]) {st s:St} {x:Code} {xs:XP} {e:Ex} {v:xI xs} {r:Ex×St} (hw:inX xs x st=true) (hk:Keep (writes x) st s) (hd:QN xs e s=some v) (hr:(Jq (baseOf st x) xs v).run=some r):
  r.1=e∧Keep (writes x) st r.2∧∀a w,Rel κ s a w→Rel κ r.2 a w:=by
 obtain⟨p,h1,y,h2,rfl⟩:=QF xs e s v r hd hr
 exact⟨rfl,patS_keep (List.all_eq_true.1 hw (e,p) h1),toCanon hgv hk h2⟩
theorem yw {Γ:OrcT} {Λ:Lend} {P:Program} {ops:Array Oper} {draw:Bool} {st st':St} (hg:st.g=[]) (h:(regionI Γ Λ P ops draw st).run=some st'):Keep (ops.toList.filterMap (·.dst)) st st':=by
 unfold regionI at h
 cases draw with
 | true=>simp only[if_true,kJ] at h;exact vq hg h
 | false=>
  simp only[Bool.false_eq_true,if_false,qR] at h
  obtain⟨a1,a2,a3⟩:=jq ops.toList st
  have b2:=zb _ _ st' (a2 hg) (fun o ho t ht=>List.mem_filterMap.2 ⟨o,ho,ht⟩) h
  exact⟨b2.1.trans a1,b2.2.1,fun t ht hs=>by rw[b2.2.2 t ht (by grind),a3 t hs]⟩
theorem kq (hΓ:GammaOk2 κ.P Γ.orc) {ops:Array Oper} {Q:Exit→Act→World→Prop} {l2:List Oper}:∀(l:List Oper) (st st':St) (a:Act) (w:World),(zP Γ Λ κ.P ops.toList l st).run=some st'→Rel κ st a w→
  (∀a' w',Rel κ st' a' w'→wpList κ.P ops Q l2 a' w')→wpList κ.P ops Q (l++l2) a w
 | [],st,st',a,w,hx,hr,hQ=>by
  have:=qd hx
  subst this
  exact hQ a w hr
 | o::r,st,st',a,w,hx,hr,hQ=>by
  obtain⟨s1,h1,h2⟩:=qg hx
  exact wpList_step fun K hK=>vI hΓ hr h1 fun a' w' hr'=>hK _ _ (kq hΓ r s1 st' a' w' h2 hr' hQ)
theorem ZM (hΓ:GammaOk2 κ.P Γ.orc) (hgv:κ.gv=[]) {ops:Array Oper} {Q:Exit→Act→World→Prop} {W:List Nat}:∀(cs:List (Nat×List Nat×Pat)) (l:List Oper) (st st':St),st.g=[]→(∀o∈l,∀t,o.dst=some t→t∈W)→(J8 Γ Λ κ.P ops.toList cs l st).run=some st'→
  (∀a w,Rel κ st a w→(∀a' w',Rel κ st' a' w'→Q .normal a' w')→wpList κ.P ops Q l a w)∧Keep W st st'
 | [],l,st,st',hg,hd,h=>by
  grind[J8,jF,zb]
 | (k, vs, p) :: cs, l, st, st', hg, hd, h => by
  have e:writes (.region 0 (l.take k).toArray false)=(l.take k).filterMap (·.dst):=by simp[writes]
  simp only[J8,qR] at h
  split at h
  ·rename_i hw
   have v1:=fun a w=>jm (κ:=κ) (a:=a) (w:=w) vs st
   obtain⟨_,v3,_⟩:=zC vs st
   obtain⟨v,hv,h3⟩:=yz h
   obtain⟨s0,h4,h5⟩:=Tr.elim_run _ _ hv
   have hk0:Keep (writes (.region 0 (l.take k).toArray false)) (qN st vs) s0:=by
    grind[zb]
   have hsub:∀t,t∈writes (.region 0 (l.take k).toArray false)→t∈W:=fun t ht=>by
    grind
   have hk1:=patS_keep (x:=v) hw
   obtain⟨i1,i2⟩:=ZM hΓ hgv cs (l.drop k) _ st' hk1.2.1 (fun o ho=>hd o (List.mem_of_mem_drop ho)) h3
   refine⟨fun a w hr hQ=>?_,(hk1.mono hsub).view.trans i2⟩
   rw[←List.take_append_drop k l]
   exact kq hΓ _ _ s0 a w h4 (v1 a w hr) fun a' w' hr'=>i1 a' w' (toCanon hgv hk0 h5 a' w' hr') hQ
  ·cases h
theorem Kb (hΓ:GammaOk2 κ.P Γ.orc) (hm:κ.P.follows .mixedOrders=true) (hgv:κ.gv=[]) {hh:Hint} {id:Nat} {ops:Array Oper} {draw:Bool} (htmp:(!draw||tmpsOk ops.toList)=true) {Q:Exit→St→Prop} {st st':St} (hg:st.g=[])
  (hx:(K0 Γ Λ κ.P hh ops draw st).run=some st') (h:Q .normal st'):HT κ (.region id ops draw) Q st∧Keep (ops.toList.filterMap (·.dst)) st st':=by
 unfold K0 at hx
 simp only[qR] at hx
 split at hx
 ·split at hx
  ·cases hx
  ·rename_i hdr
   have hdr:draw=false:=by grind
   subst hdr
   obtain⟨a1,a2,a3⟩:=jq ops.toList st
   have hd:∀o∈ops.toList,∀t,o.dst=some t→t∈ops.toList.filterMap (·.dst):=fun o ho t ht=>List.mem_filterMap.2 ⟨o,ho,ht⟩
   obtain⟨b1,b2⟩:=ZM (ops:=ops) (Q:=fun e a w=>∃s,Q e s∧Rel κ s a w) hΓ hgv _ ops.toList _ st' (a2 hg) hd hx
   refine⟨fun a w hr=>wp_region_list (b1 a w (hr.spill ops.toList) fun a' w' hr'=>⟨st',h,hr'⟩),?_⟩
   exact⟨b2.1.trans a1,b2.2.1,fun t ht hs=>by rw[b2.2.2 t ht (by grind),a3 t hs]⟩
 grind[HT.regionI,yw]
theorem Xv (hΓ:GammaOk2 κ.P Γ.orc) (hm:κ.P.follows .mixedOrders=true) (hgv:κ.gv=[]):∀(n:Nat) (c:Code) (st:St) (r:Ex×St),codeOk c=true→st.g=[]→
  (evT Γ Λ κ.P HL HC N n c st).run=some r→HT κ c (evQ r) st∧Keep (writes c) st r.2
 | 0,c,st,r,_,_,h=>by cases h
 | n+1,c,st,r,hc,hg,h=>by
  have ih:=Xv hΓ hm hgv n
  cases c with
  | skip=>simp only[evT] at h;have:=qd h;subst this;exact⟨HT.skip ⟨rfl,rfl⟩,.refl hg⟩
  | label l=>simp only[evT] at h;have:=qd h;subst this;exact⟨HT.label ⟨rfl,rfl⟩,.refl hg⟩
  | exit id=>simp only[evT] at h;have:=qd h;subst this;exact⟨HT.exit ⟨rfl,rfl⟩,.refl hg⟩
  | ret=>simp only[evT] at h;have:=qd h;subst this;exact⟨HT.ret ⟨rfl,rfl⟩,.refl hg⟩
  | region id ops draw=>
   simp only[evT] at h
   obtain⟨s,h1,h2⟩:=qg h
   have:=qd h2;subst this
   exact Kb hΓ hm hgv (by grind[codeOk]) hg h1 ⟨rfl,rfl⟩
  | seq x y=>
   simp only[codeOk,Bool.and_eq_true] at hc
   simp only[evT,Vk] at h
   obtain⟨q,h1,h2⟩:=qg h
   have hx:HT κ x (evQ q) st∧Keep (writes x) st q.2:=by
    split at h1
    ·rename_i vs xs _
     unfold Vq at h1
     split at h1
     ·rename_i hw
      have v1:=fun a w=>jm (κ:=κ) (a:=a) (w:=w) vs st
      obtain⟨_,v3,_⟩:=zC vs st
      obtain⟨v,hv,h3⟩:=yz h1
      obtain⟨q0,h4,h5⟩:=Tr.elim_run _ _ hv
      obtain⟨a1,a2⟩:=ih x (qN st vs) q0 hc.1 (v3.trans hg) h4
      obtain⟨b1,b2,b3⟩:=ZX hgv hw a2 h5 h3
      refine⟨fun a w hr=>wp_mono (a1 a w (v1 a w hr)) fun e a' w'=>?_,b2.view⟩
      rintro⟨s',⟨e1,e2⟩,hr'⟩
      subst e2
      exact⟨q.2,⟨by rw[e1,b1],rfl⟩,b3 a' w' hr'⟩
     ·cases h1
    grind
   obtain⟨hx1,hx2⟩:=hx
   obtain⟨ex,sx⟩:=q
   have hkx:Keep (writes (.seq x y)) st sx:=hx2.mono fun t ht=>by simp[writes,ht]
   cases ex with
   | normal=>
    obtain⟨c1,c2⟩:=ih y sx r hc.2 hx2.2.1 h2
    refine⟨HT.seq (hx1.mono fun e s=>?_),hkx.trans (c2.mono fun t ht=>by simp[writes,ht])⟩
    rintro⟨e1,e2⟩
    simp only at e1 e2;subst e1 e2
    exact c1
   | exit i=>
    have:=qd h2;subst this
    refine⟨HT.seq (hx1.mono fun e s=>?_),hkx⟩
    rintro⟨e1,e2⟩
    simp only at e1 e2;subst e1 e2
    exact⟨rfl,rfl⟩
   | ret=>
    have:=qd h2;subst this
    refine⟨HT.seq (hx1.mono fun e s=>?_),hkx⟩
    rintro⟨e1,e2⟩
    simp only at e1 e2;subst e1 e2
    exact⟨rfl,rfl⟩
  | cond o x y=>
   simp only[codeOk,Bool.and_eq_true] at hc
   simp only[evT] at h
   split at h
   ·rename_i ho
    obtain⟨a1,a2⟩:=ih x st r hc.1 hg h
    exact⟨HT.cond ho a1,a2.mono fun t ht=>by simp[writes,ht]⟩
   ·rename_i ho
    obtain⟨a1,a2⟩:=ih y st r hc.2 hg h
    exact⟨HT.cond ho a1,a2.mono fun t ht=>by simp[writes,ht]⟩
   ·rename_i b ho
    cases b with
    | true=>
     obtain⟨a1,a2⟩:=ih x st r hc.1 hg h
     exact⟨HT.condS ho a1,a2.mono fun t ht=>by simp[writes,ht]⟩
    | false=>
     obtain⟨a1,a2⟩:=ih y st r hc.2 hg h
     exact⟨HT.condS ho a1,a2.mono fun t ht=>by simp[writes,ht]⟩
   ·cases h
  | block id c=>
   simp only[codeOk] at hc
   simp only[evT] at h
   obtain⟨q,h1,h2⟩:=qg h
   obtain⟨a1,a2⟩:=ih c st q hc hg h1
   obtain⟨ex,sx⟩:=q
   have hkx:Keep (writes (.block id c)) st sx:=a2
   cases ex with
   | normal=>
    have:=qd h2;subst this
    refine⟨HT.block (a1.mono fun e s=>?_),hkx⟩
    rintro⟨e1,e2⟩
    simp only at e1 e2;subst e1 e2
    exact⟨rfl,rfl⟩
   | ret=>
    have:=qd h2;subst this
    refine⟨HT.block (a1.mono fun e s=>?_),hkx⟩
    rintro⟨e1,e2⟩
    simp only at e1 e2;subst e1 e2
    exact⟨rfl,rfl⟩
   | exit i=>
    simp only at h2
    split at h2
    ·rename_i hi
     have:=qd h2;subst this
     refine⟨HT.block (a1.mono fun e s=>?_),hkx⟩
     rintro⟨e1,e2⟩
     simp only at e1 e2;subst e1 e2
     simp only[Ex.to,blkQ,if_pos hi]
     exact⟨rfl,rfl⟩
    ·rename_i hi
     have:=qd h2;subst this
     refine⟨HT.block (a1.mono fun e s=>?_),hkx⟩
     rintro⟨e1,e2⟩
     simp only at e1 e2;subst e1 e2
     simp only[Ex.to,blkQ,if_neg hi]
     exact⟨rfl,rfl⟩
  | loop c=>
   have hc':codeOk c=true:=by grind[codeOk]
   simp only[evT] at h
   split at h
   ·rename_i vs p xs _
    have v1:=fun a w=>jm (κ:=κ) (a:=a) (w:=w) vs st
    obtain⟨_,v3,_⟩:=zC vs st
    unfold KP at h
    have hg1:(qN st vs).g=[]:=v3.trans hg
    suffices hsf:HT κ (.loop c) (evQ r) (qN st vs)∧Keep (writes c) (qN st vs) r.2 from⟨fun a w hr=>hsf.1 a w (v1 a w hr),hsf.2.view⟩
    clear v1 v3 hg
    generalize qN st vs=st at *
    have hg:=hg1
    split at h
    ·rename_i hw
     obtain⟨v0,hd0,h1⟩:=qg h
     obtain⟨r1,hl,h2⟩:=yz h1
     have hd0:=qY hd0
     have key:∀(M:Nat) (v:p.I),loopN M (fun v=>(evT Γ Λ κ.P HL HC N n c (patS (baseOf st c) p v)).elim fun q=>match q.1 with
       | .normal=>omap .inl (decP q.2 p)
       | e=>omap .inr (QN xs e q.2)) v=some r1→(∀a w,Rel κ (patS (baseOf st c) p v) a w→
       Code.rounds κ.P c (fun e a' w'=>∃s',evQ r e s'∧Rel κ s' a' w') M a w)∧Keep (writes c) st r.2:=by
      intro M
      induction M with
      | zero=>grind[loopN]
      | succ M ihM=>
       intro v hv
       have hk1:=patS_keep (x:=v) hw.1
       simp only[loopN] at hv
       split at hv
       ·rename_i y hy
        obtain⟨q,hq,hqk⟩:=Tr.elim_run _ _ hy
        obtain⟨b1,b2⟩:=ih c _ q hc' rfl hq
        obtain⟨ex,sx⟩:=q
        have hkx:Keep (writes c) st sx:=hk1.trans b2
        have fin:ex=.normal∧decP sx p=some y:=by
         cases ex with
         | normal=>
          obtain⟨y',hd,he⟩:=qH hqk
          grind
         | exit i=>obtain⟨_,_,he⟩:=qH hqk;cases he
         | ret=>obtain⟨_,_,he⟩:=qH hqk;cases he
        obtain⟨rfl,hd⟩:=fin
        obtain⟨d1,d2⟩:=ihM y hv
        refine⟨fun a w hr=>?_,d2⟩
        rw[rounds_succ]
        refine wp_mono (b1 a w hr) fun e a' w'=>?_
        rintro⟨s',⟨e1,e2⟩,hr'⟩
        simp only at e1 e2;subst e1 e2
        exact d1 a' w' (toCanon hgv hkx hd a' w' hr')
       ·rename_i ρ hy
        injection hv with hv;subst hv
        obtain⟨q,hq,hqk⟩:=Tr.elim_run _ _ hy
        obtain⟨b1,b2⟩:=ih c _ q hc' rfl hq
        obtain⟨ex,sx⟩:=q
        have hkx:Keep (writes c) st sx:=hk1.trans b2
        have fin:ex≠.normal∧QN xs ex sx=some ρ:=by
         cases ex with
         | normal=>obtain⟨_,_,he⟩:=qH hqk;cases he
         | exit i=>
          (obtain⟨y',hd,he⟩:=qH hqk<;>grind[qH])
         | ret=>
          (obtain⟨y',hd,he⟩:=qH hqk<;>grind[qH])
        obtain⟨hne,hd⟩:=fin
        obtain⟨g1,g2,g3⟩:=ZX hgv hw.2 hkx hd h2
        refine⟨fun a w hr=>?_,g2⟩
        rw[rounds_succ]
        refine wp_mono (b1 a w hr) fun e a' w'=>?_
        rintro⟨s',⟨e1,e2⟩,hr'⟩
        simp only at e1 e2;subst e1 e2
        have hres:∃s',evQ r ex.to s'∧Rel κ s' a' w':=⟨r.2,⟨by rw[g1],rfl⟩,g3 a' w' hr'⟩
        cases ex with
        | normal=>grind
        | exit i=>exact hres
        | ret=>exact hres
       ·cases hv
     simp only[qR] at hl
     obtain⟨k1,k2⟩:=key N v0 hl
     exact⟨fun a w hr=>wp_loop_rounds N (k1 a w (toCanon hgv (.refl hg) hd0 a w hr)),k2⟩
    ·cases h
   ·rename_i m _
    have key:∀(M:Nat) (s:St),Keep (writes c) st s→(xY (fun s=>evT Γ Λ κ.P HL HC N n c s) M s).run=some r→(∀a w,Rel κ s a w→
      Code.rounds κ.P c (fun e a' w'=>∃s',evQ r e s'∧Rel κ s' a' w') M a w)∧Keep (writes c) st r.2:=by
     intro M
     induction M with
     | zero=>intro s _ hs;cases hs
     | succ M ihM=>
      intro s hks hs
      simp only[xY] at hs
      obtain⟨q,h1,h2⟩:=qg hs
      obtain⟨b1,b2⟩:=ih c s q hc' hks.2.1 h1
      obtain⟨ex,sx⟩:=q
      have hkx:Keep (writes c) st sx:=hks.trans b2
      cases ex with
      | normal=>
       obtain⟨d1,d2⟩:=ihM sx hkx h2
       refine⟨fun a w hr=>?_,d2⟩
       rw[rounds_succ]
       refine wp_mono (b1 a w hr) fun e a' w'=>?_
       rintro⟨s',⟨e1,e2⟩,hr'⟩
       simp only at e1 e2;subst e1 e2
       exact d1 a' w' hr'
      | exit i=>
       have:=qd h2;subst this
       refine⟨fun a w hr=>?_,hkx⟩
       rw[rounds_succ]
       refine wp_mono (b1 a w hr) fun e a' w'=>?_
       rintro⟨s',⟨e1,e2⟩,hr'⟩
       simp only at e1 e2;subst e1 e2
       exact⟨_,⟨rfl,rfl⟩,hr'⟩
      | ret=>
       have:=qd h2;subst this
       refine⟨fun a w hr=>?_,hkx⟩
       rw[rounds_succ]
       refine wp_mono (b1 a w hr) fun e a' w'=>?_
       rintro⟨s',⟨e1,e2⟩,hr'⟩
       simp only at e1 e2;subst e1 e2
       exact⟨_,⟨rfl,rfl⟩,hr'⟩
    obtain⟨k1,k2⟩:=key m st (.refl hg) h
    exact⟨fun a w hr=>wp_loop_rounds m (k1 a w hr),k2⟩
   ·cases h
  | _=>cases h
end
end Go.Abs
namespace Go.Abs
open Go.RowKit
set_option linter.unusedVariables false
set_option linter.unusedSimpArgs false
inductive AS where
 | val (t:Ty)
 | ptr (j off:Nat)
 | acc (j:Nat)
 | fn (f:Nat) (js:List Nat)
inductive BS where
 | box (ty:Nat) (t:Ty)
 | abox (ty:Nat) (j:Nat)
 | nrow (ty:Nat) (e:Ty) (nl:Bool)
def AS.tys:AS→List Ty
 | .val t=>[t]
 | _=>[]
def BS.tys:BS→List Ty
 | .box _ t=>[t]
 | .abox _ _=>[]
 | .nrow _ e _=>[.list e]
def xU (as:List AS) (bs:List BS):List Ty:=as.flatMap AS.tys++bs.flatMap BS.tys
def Vb:List Nat→List V
 | []=>[]
 | j::r=>.ptr (1000000+j) 0 0::Vb r
def Jt:AS→List TX→V×List TX
 | .val _,l=>match l with
  | X::r=>(valW X.e X.x,r)
  | []=>(.undef,[])
 | .ptr j off,l=>(.ptr (1000000+j) 0 off,l)
 | .acc j,l=>(.acc (1000000+j) 0,l)
 | .fn f js,l=>(.fn f (Vb js),l)
def QJ:BS→List TX→OK×List TX
 | .box ty _,l=>match l with
  | X::r=>(.box ty (cellsW X.e X.x),r)
  | []=>(.dead,[])
 | .abox ty j,l=>(.box ty [.acc (1000000+j) 0],l)
 | .nrow ty e nl,l=>match l with
  | X::r=>(.nrow ty false nl (tlOf e X),r)
  | []=>(.dead,[])
def jh:List AS→List TX→List V×List TX
 | [],l=>([],l)
 | k::r,l=>((Jt k l).1::(jh r (Jt k l).2).1,(jh r (Jt k l).2).2)
def vX:List BS→List TX→List OK
 | [],_=>[]
 | k::r,l=>(QJ k l).1::vX r (QJ k l).2
def argsOf (as:List AS) (bs:List BS) (x:tsI (xU as bs)):List V:=(jh as (qU (xU as bs) x)).1
def lbOf (as:List AS) (bs:List BS) (x:tsI (xU as bs)):List OK:=vX bs (jh as (qU (xU as bs) x)).2
def xD:List Nat→List V→Bool
 | [],[]=>true
 | j::js,.ptr q 0 0::vs=>q==1000000+j&&xD js vs
 | _,_=>false
def Jx (v:V):AS→Option (List TX)
 | .val t=>match impV t v with
  | some x=>some [⟨t,x⟩]
  | none=>none
 | .ptr j off=>match v with
  | .ptr q g off'=>if q=1000000+j∧g=0∧off'=off then some [] else none
  | _=>none
 | .acc j=>match v with
  | .acc q g=>if q=1000000+j∧g=0 then some [] else none
  | _=>none
 | .fn f js=>match v with
  | .fn f' vs=>if f'=f∧xD js vs=true then some [] else none
  | _=>none
def yG (k:OK):BS→Option (List TX)
 | .box ty t=>match k with
  | .box ty' cs=>if ty'=ty then(match impC t cs with
   | some (x,[])=>some [⟨t,x⟩]
   | _=>none) else none
  | _=>none
 | .abox ty j=>match k with
  | .box ty' [.acc q 0]=>if ty'=ty∧q=1000000+j then some [] else none
  | _=>none
 | .nrow ty e nl=>match k with
  | .nrow ty' false nl' M=>if ty'=ty∧nl'=nl then(if h:M.e=e then some [⟨.list e,castL h M.l⟩] else none) else none
  | _=>none
def vj:List AS→List V→Option (List TX)
 | [],[]=>some []
 | k::r,v::vs=>match Jx v k,vj r vs with
  | some l,some l'=>some (l++l')
  | _,_=>none
 | _,_=>none
def ya:List BS→List OK→Option (List TX)
 | [],[]=>some []
 | k::r,b::bs=>match yG b k,ya r bs with
  | some l,some l'=>some (l++l')
  | _,_=>none
 | _,_=>none
def XA (as:List AS) (bs:List BS) (xs:List V) (lb:List OK):Option (tsI (xU as bs)):=
 match vj as xs,ya bs lb with
 | some l,some l'=>xv (xU as bs) (l++l')
 | _,_=>none
theorem Rv.retab {T T':Tab} {ι:Nat→Nat} {S:Addr→Prop} {w:World} {d:V} {u:Value} (hg:∀t,(T'.get t).gen=(T.get t).gen) (hl:∀t,T'.live t→T.live t)
  (hn:∀t ty fz nl M,(T'.get t).k=.nrow ty fz nl M→(T.get t).k=.nrow ty fz nl M) (hr:∀t ty sz fz cs,(T'.get t).k≠.row ty sz fz cs) (h:Rv T ι S w d u):Rv T' ι S w d u:=by
 have key:∀t g ty fz nl M,T'.get t=⟨g,.nrow ty fz nl M⟩→T.get t=⟨g,.nrow ty fz nl M⟩:=fun t g ty fz nl M e=>by
  have e1:=hn t ty fz nl M (by rw[e])
  have e2:=hg t
  rw[e] at e2
  (cases hq:T.get t<;>grind)
 induction h with
 | pure h=>exact .pure h
 | undef v=>exact .undef v
 | own hv hg' h=>exact .own hv (by grind) fun ty sz fz cs e=>absurd (by rw[e]) (hr _ ty sz fz cs)
 | ptr hv hg' h=>exact .ptr hv (by grind) fun h1 h2=>h (by grind) (hl _ h2)
 | acc hv hg' h=>exact .acc hv (by grind) fun ty fz nl L e=>h ty fz nl L (key _ _ _ _ _ _ e)
 | eptr hv hg' h=>exact .eptr hv (by grind) fun ty fz nl L e=>h ty fz nl L (key _ _ _ _ _ _ e)
 | nwin hv hg' h=>exact .nwin hv (by grind) fun ty fz nl L e=>h ty fz nl L (key _ _ _ _ _ _ e)
 | mp hv hg' h=>exact .mp hv (by grind) fun h1 h2=>h (by grind) (hl _ h2)
 | agg hl' h ih=>exact .agg hl' ih
 | tup hl' h ih=>exact .tup hl' ih
 | ifc h ih=>exact .ifc ih
 | fn hl' h ih=>exact .fn hl' ih
def RtB (T T':Tab):Prop:=(∀t,(T'.get t).gen=(T.get t).gen)∧(∀t,T'.live t→T.live t)∧(∀t ty fz nl M,(T'.get t).k=.nrow ty fz nl M→(T.get t).k=.nrow ty fz nl M)∧∀t ty sz fz cs,(T'.get t).k≠.row ty sz fz cs
section
variable {T : Tab} {ι : Nat → Nat} {S : Addr → Prop} {w : World}
theorem JA:∀(js:List Nat) (vs:List V),xD js vs=true→vs=Vb js:=by
 intro js
 induction js with
 | nil=>
  intro vs h
  cases vs with
  | nil=>rfl
  | cons v vs=>simp[xD] at h
 | cons j js ih=>
  intro vs h
  cases vs with
  | nil=>simp[xD] at h
  | cons v vs=>
   unfold xD at h
   split at h
   ·grind
   ·rename_i e1 e2
    injection e1 with e1 e3
    injection e2 with e2 e4
    subst e1 e3 e2 e4
    simp only[Bool.and_eq_true,beq_iff_eq] at h
    rw[h.1,ih _ h.2];rfl
   ·cases h
theorem KA {v:V} {u:Value} (hv:Rv T ι S w v u):∀(k:AS) (l r:List TX),Jx v k=some l→Rv T ι S w (Jt k (l++r)).1 u∧(Jt k (l++r)).2=r
 | .val t,l,r,h=>by
  simp only[Jx] at h
  split at h
  ·rename_i x hx
   injection h with h;subst h
   exact⟨.pure (impV_rv hx hv),rfl⟩
  ·cases h
 | .ptr j off,l,r,h=>by
  simp only[Jx] at h
  split at h
  ·split at h
   ·rename_i hc
    obtain⟨rfl,rfl,rfl⟩:=hc
    injection h with h;subst h
    exact⟨hv,rfl⟩
   ·cases h
  ·cases h
 | .acc j,l,r,h=>by
  simp only[Jx] at h
  split at h
  ·split at h
   ·rename_i hc
    obtain⟨rfl,rfl⟩:=hc
    injection h with h;subst h
    exact⟨hv,rfl⟩
   ·cases h
  ·cases h
 | .fn f js,l,r,h=>by
  simp only[Jx] at h
  split at h
  ·split at h
   ·rename_i hc
    obtain⟨rfl,hc⟩:=hc
    injection h with h;subst h
    rw[JA _ _ hc] at hv
    exact⟨hv,rfl⟩
   ·cases h
  ·cases h
theorem vi:∀(as:List AS) (vs:List V) (us:List Value) (l r:List TX),vj as vs=some l→LR (Rv T ι S w) vs us→LR (Rv T ι S w) (jh as (l++r)).1 us∧(jh as (l++r)).2=r
 | [],[],us,l,r,h,hr=>by
  simp only[vj] at h
  injection h with h;subst h
  exact⟨hr,rfl⟩
 | k::as,v::vs,us,l,r,h,hr=>by
  simp only[vj] at h
  split at h
  ·rename_i l1 l2 h1 h2
   injection h with h;subst h
   obtain⟨u,us',rfl,hu,hr'⟩:=hr.head
   obtain⟨a1,a2⟩:=KA hu k l1 (l2++r) h1
   obtain⟨b1,b2⟩:=vi as vs us' l2 r h2 hr'
   simp only[jh,List.append_assoc]
   rw[a2]
   exact⟨.cons a1 b1,b2⟩
  ·cases h
 | [],_::_,us,l,r,h,_=>by simp[vj] at h
 | _::_,[],us,l,r,h,_=>by simp[vj] at h
theorem Jw {k:OK}:∀(b:BS) (l r:List TX),yG k b=some l→(QJ b (l++r)).2=r
 | .box ty t,l,r,h=>by
  simp only[yG] at h
  split at h
  ·split at h
   ·split at h
    ·injection h with h;subst h;rfl
    ·cases h
   ·cases h
  ·cases h
 | .abox ty j,l,r,h=>by
  simp only[yG] at h
  split at h
  ·split at h
   ·injection h with h;subst h;rfl
   ·cases h
  ·cases h
 | .nrow ty e nl,l,r,h=>by
  simp only[yG] at h
  split at h
  ·split at h
   ·split at h
    ·injection h with h;subst h;rfl
    ·cases h
   ·cases h
  ·cases h
theorem ZY {k:OK}:∀(b:BS) (l r:List TX),yG k b=some l→((QJ b (l++r)).1.live↔k.live)∧(∀o,(QJ b (l++r)).1.fzAt o↔k.fzAt o)∧(∀ty fz nl M,(QJ b (l++r)).1=.nrow ty fz nl M→k=.nrow ty fz nl M)∧(∀ty sz fz cs,(QJ b (l++r)).1≠.row ty sz fz cs)∧
  ∀(T':Tab) (n:Nat),RtB T T'→ObRel T ι S w n k→ObRel T' ι S w n (QJ b (l++r)).1
 | .box ty t,l,r,h=>by
  simp only[yG] at h
  split at h
  ·rename_i ty' cs
   split at h
   ·rename_i hty
    subst hty
    split at h
    ·rename_i x hx
     injection h with h;subst h
     refine⟨Iff.rfl,fun o=>Iff.rfl,fun _ _ _ _ e=>(by cases e),fun _ _ _ _ e=>(by cases e),fun T' n hrt hob=>?_⟩
     obtain⟨arr,fz,b1,b2,b3,b4⟩:=hob
     have h1:=impC_rv t cs [] x arr.toList hx ⟨by grind,b4⟩
     rw[List.append_nil] at h1
     have h2:=cellsW_rp t x _ (lr_pure (fun d hd=>pure_cellsV t x d hd) h1)
     exact⟨arr,fz,b1,b2,by rw[h2.1];simp,fun i d u hd hu=>.pure (h2.2 i d u hd hu)⟩
    ·cases h
   ·cases h
  ·cases h
 | .abox ty j,l,r,h=>by
  simp only[yG] at h
  split at h
  ·rename_i ty' q
   split at h
   ·rename_i hc
    obtain⟨rfl,rfl⟩:=hc
    injection h with h;subst h
    refine⟨Iff.rfl,fun o=>Iff.rfl,fun _ _ _ _ e=>(by cases e),fun _ _ _ _ e=>(by cases e),fun T' n hrt hob=>?_⟩
    obtain⟨arr,fz,b1,b2,b3,b4⟩:=hob
    exact⟨arr,fz,b1,b2,b3,fun i d u hd hu=>(b4 i d u hd hu).retab hrt.1 hrt.2.1 hrt.2.2.1 hrt.2.2.2⟩
   ·cases h
  ·cases h
 | .nrow ty e nl,l,r,h=>by
  simp only[yG] at h
  split at h
  ·rename_i ty' nl' M
   split at h
   ·rename_i hc
    obtain⟨rfl,rfl⟩:=hc
    split at h
    ·rename_i he
     obtain⟨e',m⟩:=M
     simp only at he;subst he
     injection h with h;subst h
     refine⟨Iff.rfl,fun o=>Iff.rfl,fun _ _ _ _ e=>e,fun _ _ _ _ e=>(by cases e),fun T' n hrt hob=>?_⟩
     rcases hob with hb | ⟨arr,fz,cap,b1,b2,b3,b4,b5,b6⟩
     ·exact .inl hb
     ·exact .inr ⟨arr,fz,cap,b1,b2,b3,b4,b5,fun i d u hd hu=>.pure ((b6 i d u hd hu).pure_ (TL.pure_cells hd))⟩
    ·cases h
   ·cases h
  ·cases h
theorem QR:∀(bs:List BS) (lb:List OK) (l:List TX),ya bs lb=some l→(vX bs l).length=lb.length∧
  ∀(j:Nat) (k:OK),lb[j]? = some k→∃k',(vX bs l)[j]? = some k'∧(k'.live↔k.live)∧(∀o,k'.fzAt o↔k.fzAt o)∧(∀ty fz nl M,k'=.nrow ty fz nl M→k=.nrow ty fz nl M)∧(∀ty sz fz cs,k'≠.row ty sz fz cs)∧
   ∀(T T':Tab) (ι:Nat→Nat) (S:Addr→Prop) (w:World) (n:Nat),RtB T T'→ObRel T ι S w n k→ObRel T' ι S w n k'
 | [],[],l,h=>⟨rfl,fun j k hj=>by simp at hj⟩
 | b::bs,k::lb,l,h=>by
  simp only[ya] at h
  split at h
  ·rename_i l1 l2 h1 h2
   injection h with h;subst h
   obtain⟨a1,a2⟩:=QR bs lb l2 h2
   simp only[vX]
   rw[Jw b l1 l2 h1]
   refine⟨by simp[a1],fun j k' hj=>?_⟩
   cases j with
   | zero=>
    simp at hj;subst hj
    have q:=ZY (T:=[]) (ι:=fun _=>0) (S:=fun _=>False) (w:=default) b l1 l2 h1
    exact⟨_,rfl,q.1,q.2.1,q.2.2.1,q.2.2.2.1,fun T T' ι S w n=>(ZY b l1 l2 h1).2.2.2.2 T' n⟩
   | succ j=>grind
  ·cases h
 | [],_::_,l,h=>by simp[ya] at h
 | _::_,[],l,h=>by simp[ya] at h
end
theorem Spec2.weaken {P:Program} {f:FuncId} {as:List AS} {bs:List BS} {xs:List V} {lb:List OK} {x:tsI (xU as bs)} {res:V} {lb' lf:List OK} (hx:XA as bs xs lb=some x)
  (h:Spec2 P f (argsOf as bs x) (lbOf as bs x) res lb' lf):Spec2 P f xs lb res lb' lf:=by
 unfold XA at hx
 split at hx
 case h_2=>cases hx
 rename_i l l' h1 h2
 have hp:=jb _ _ _ hx
 intro w cargs β S htr hargs
 have e2:(jh as (qU (xU as bs) x)).2=l':=by
  rw[hp]
  exact(vi (T:=tabU lb []) (ι:=β) (S:=Stable S (tabU lb []) β w) (w:=w) as xs cargs.toList l l' h1 hargs).2
 have hlb:lbOf as bs x=vX bs l':=by unfold lbOf;rw[e2]
 obtain⟨q1,q2⟩:=QR bs lb l' h2
 rw[←hlb] at q1 q2
 generalize lbOf as bs x=lb2 at *
 have tget:∀t,((tabU lb2 []).live t↔(tabU lb []).live t)∧(∀o,((tabU lb2 []).get t).k.fzAt o↔((tabU lb []).get t).k.fzAt o)∧((tabU lb2 []).get t).gen=((tabU lb []).get t).gen∧(∀ty fz nl M,((tabU lb2 []).get t).k=.nrow ty fz nl M→((tabU lb []).get t).k=.nrow ty fz nl M)∧(∀ty sz fz cs,((tabU lb2 []).get t).k≠.row ty sz fz cs)∧
   (∀(T T':Tab) (ι:Nat→Nat) (S:Addr→Prop) (w:World) (n:Nat),RtB T T'→ObRel T ι S w n ((tabU lb []).get t).k→ObRel T' ι S w n ((tabU lb2 []).get t).k):=by
  intro t
  by_cases ht:1000000≤t∧t-1000000<lb.length
  ·have hk:=List.getElem?_eq_getElem ht.2
   obtain⟨k',a1,a2,a3,a4,a5,a6⟩:=q2 _ _ hk
   have g1:(tabU lb []).get t=⟨0,lb[t-1000000]⟩:=by rw[get_tabU,if_pos ht.1,hk]
   have g2:(tabU lb2 []).get t=⟨0,k'⟩:=by rw[get_tabU,if_pos ht.1,a1]
   grind[Tab.live]
  ·have n1:(if 1000000≤t then lb[t-1000000]? else none)=none:=by
    grind
   have n2:(if 1000000≤t then lb2[t-1000000]? else none)=none:=by
    grind
   have g1:(tabU lb []).get t=⟨0,.dead⟩:=by rw[get_tabU,n1];simp
   have g2:(tabU lb2 []).get t=⟨0,.dead⟩:=by rw[get_tabU,n2];simp
   simp only[Tab.live,g1,g2]
   refine⟨trivial,fun _=>trivial,trivial,fun _ _ _ _ e=>(by cases e),fun _ _ _ _ e=>(by cases e),fun _ _ _ _ _ _ _ _=>trivial⟩
 have hS:∀p,Stable S (tabU lb []) β w p→Stable S (tabU lb2 []) β w p:=fun p hp=>⟨hp.1,hp.2.1,fun t ht e=>((tget t).2.1 _).2 (hp.2.2 t ((tget t).1.1 ht) e)⟩
 have hS':∀p,Stable S (tabU lb2 []) β w p→Stable S (tabU lb []) β w p:=fun p hp=>⟨hp.1,hp.2.1,fun t ht e=>((tget t).2.1 _).1 (hp.2.2 t ((tget t).1.2 ht) e)⟩
 have hSS:Stable S (tabU lb2 []) β w=Stable S (tabU lb []) β w:=funext fun p=>propext ⟨hS' p,hS p⟩
 have hRt:RtB (tabU lb []) (tabU lb2 []):=⟨fun t=>(tget t).2.2.1,fun t=>(tget t).1.1,fun t=>(tget t).2.2.2.1,fun t=>(tget t).2.2.2.2.1⟩
 have htr2:TR S (tabU lb2 []) β w:=⟨fun t=>by rw[hSS];exact(tget t).2.2.2.2.2 _ _ _ _ _ _ hRt (htr.ob t),fun t u ht hu=>htr.inj t u ((tget t).1.1 ht) ((tget u).1.1 hu),fun t ht=>htr.lt t ((tget t).1.1 ht)⟩
 have hargs1:=(vi as xs cargs.toList l l' h1 hargs).1
 have hargs2:LR (Rv (tabU lb2 []) β (Stable S (tabU lb2 []) β w) w) (argsOf as bs x) cargs.toList:=by
  have e3:argsOf as bs x=(jh as (l++l')).1:=by unfold argsOf;rw[hp]
  rw[e3,hSS]
  exact hargs1.mono fun d u hd=>hd.retab (fun t=>(tget t).2.2.1) (fun t=>(tget t).1.1) (fun t=>(tget t).2.2.2.1) (fun t=>(tget t).2.2.2.2.1)
 refine(h w cargs β S htr2 hargs2).mono fun e w'=>?_
 rintro⟨v,β',rfl,hk,htr',hv,hl,hb1,hb2⟩
 have hD:∀p,Dn S w.heap.size β lb2 lb' p→Dn S w.heap.size β lb lb' p:=fun p hp=>by
  rcases hp with q | q | ⟨j,a1,a2,a3⟩
  ·exact .inl q
  ·exact .inr (.inl q)
  ·exact .inr (.inr ⟨j,a1,(tget _).1.1 a2,a3⟩)
 have hD':∀p,Dn S w.heap.size β lb lb' p→Dn S w.heap.size β lb2 lb' p:=fun p hp=>by
  rcases hp with q | q | ⟨j,a1,a2,a3⟩
  ·exact .inl q
  ·exact .inr (.inl q)
  ·exact .inr (.inr ⟨j,a1,(tget _).1.2 a2,a3⟩)
 have hDD:Dn S w.heap.size β lb2 lb'=Dn S w.heap.size β lb lb':=funext fun p=>propext ⟨hD p,hD' p⟩
 rw[hDD] at htr' hv
 refine⟨v,β',rfl,hk.mono fun b _ ⟨t,ht,e⟩=>⟨t,(tget t).1.1 ht,e⟩,htr',hv,by omega,fun j hj=>hb1 j (by omega),fun j hj hlv=>?_⟩
 rcases hb2 j hj hlv with q | ⟨i,a1,a2,a3⟩
 ·exact .inl q
 ·exact .inr ⟨i,a1,(tget _).1.1 a2,a3⟩
structure Con where
 f:Nat
 as:List AS
 bs:List BS
 R:Type
 W:tsI (xU as bs)→Option R
 out:R→V×List OK×List OK
def Con.ok (P : Program) (c : Con) : Prop := (∃ fn, P.funcs[c.f]? = some fn ∧ (fn.name == "runtime.NumGoroutine") = false ∧ fn.body.isNone = false) ∧
 ∀x r,c.W x=some r→Spec2 P c.f (argsOf c.as c.bs x) (lbOf c.as c.bs x) (c.out r).1 (c.out r).2.1 (c.out r).2.2
def orcOf:List Con→OrcT
 | [],_,_,_=>.fail
 | c::r,f,xs,lb=>if c.f=f then(match XA c.as c.bs xs lb with
  | some x=>.ob (c.W x) fun y=>.ret (c.out y)
  | none=>orcOf r f xs lb) else orcOf r f xs lb
theorem orcOf_ok {P:Program}:∀(l:List Con),(∀c∈l,c.ok P)→GammaOk2 P (orcOf l).orc
 | [],_,f,xs,lb,res,lb',lf,h=>by simp[OrcT.orc,orcOf,Tr.run] at h
 | c::r,hl,f,xs,lb,res,lb',lf,h=>by
  have ih:=orcOf_ok r (fun c hc=>hl c (by simp[hc])) f xs lb res lb' lf
  simp only[OrcT.orc,orcOf] at h
  split at h
  ·rename_i e;subst e
   split at h
   ·rename_i x hx
    obtain⟨y,h1,h2⟩:=yz h
    have:=qd h2
    (obtain⟨a1,a2⟩:=hl c (by simp)<;>grind[qd,Spec2.weaken])
   ·exact ih h
  ·exact ih h
def ZR {R:Type}:List Bool→Option R→Option R
 | [],r=>r
 | b::l,r=>cnd b (ZR l r) none
def kRet (nt:Nat) (pout:Pat) (kp:Nat→Bool) (lb:List OK):Ex×St→Option pout.I:=fun q=>
 match q.1 with
 | .exit _=>none
 | _=>match decP q.2 pout with
  | some y=>ZR (xM (patS ⟨nt,[],[],[]⟩ pout y).o kp 0 lb) (some y)
  | none=>none
theorem kP {R:Type} {r:R} {x:Option R}:∀{l:List Bool},ZR l x=some r→l.all id=true∧x=some r
 | [],h=>⟨rfl,h⟩
 | b::l,h=>by
  cases b with
  | false=>cases h
  | true=>
   have h':ZR l x=some r:=h
   obtain⟨h1,h2⟩:=kP h'
   grind
theorem spec2_evT {P:Program} {Γ:OrcT} {Λ:Lend} (hm:P.follows .mixedOrders=true) (hΓ:GammaOk2 P Γ.orc) {f:FuncId} {fn:Func} {c:Code} (hf:P.funcs[f]? = some fn) (hb:fn.body=some c) (hc:codeOk c=true)
  {args:List V} {lb:List OK} (hn:args.length≤fn.ntmps) {pout:Pat} {kp:Nat→Bool} {HL HC:List (Nat×Hint)} {N n:Nat} {y:pout.I} {res:V} {lb' lf:List OK}
  (h:(evT Γ Λ P HL HC N n c ⟨fn.ntmps,slots 0 args,tabU lb [],[]⟩).elim (kRet fn.ntmps pout kp lb)=some y)
  (hout:retOf2 P fn kp lb (patS ⟨fn.ntmps,[],[],[]⟩ pout y)=some (res,lb',lf)):Spec2 P f args lb res lb' lf:=by
 obtain⟨⟨ex,s⟩,h1,h2⟩:=Tr.elim_run _ _ h
 unfold kRet at h2
 have fin:(ex=.normal∨ex=.ret)∧decP s pout=some y∧(xM (patS ⟨fn.ntmps,[],[],[]⟩ pout y).o kp 0 lb).all id=true:=by
  cases ex with
  | exit i=>cases h2
  | normal=>
   simp only at h2
   split at h2
   ·rename_i y' hy
    obtain⟨a1,a2⟩:=kP h2
    grind
   ·cases h2
  | ret=>
   simp only at h2
   split at h2
   ·rename_i y' hy
    obtain⟨a1,a2⟩:=kP h2
    grind
   ·cases h2
 obtain⟨hex,hd,hlen⟩:=fin
 have hG:=Jd (kp:=kp) (G:=fun r l1 l2=>r=res∧l1=lb'∧l2=lf) (lb:=lb) (args:=args) hf hb hn fun κ hκ hgv=>by
  subst hκ
  obtain⟨a1,a2⟩:=Xv hΓ hm hgv n c _ _ hc rfl h1
  intro a w hr
  refine wp_mono (a1 a w hr) fun e a' w'=>?_
  rintro⟨s',⟨e1,e2⟩,hr'⟩
  simp only at e1 e2;subst e1 e2
  refine⟨patS ⟨fn.ntmps,[],[],[]⟩ pout y,⟨?_,hlen,res,lb',lf,hout,rfl,rfl,rfl⟩,canon hgv (base:=⟨fn.ntmps,[],[],[]⟩) a2.1.symm (fun t=>.inl rfl) hd hr'⟩
  rcases hex with rfl | rfl
  ·exact .inl rfl
  ·exact .inr rfl
 intro w cargs β S htr hargs
 refine(hG w cargs β S htr hargs).mono fun e w'=>?_
 grind
end Go.Abs
