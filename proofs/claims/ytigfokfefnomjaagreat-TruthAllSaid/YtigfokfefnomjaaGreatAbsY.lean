/- Two sites change their names: nothing else turns. -/
import Derived.Test.YtigfokfefnomjaaGreatAbsU
import Derived.LoopN
import Derived.Laws.Sem
namespace Go.Abs
open Go.RowKit
set_option linter.unusedVariables false
set_option linter.unusedSimpArgs false
def swN (a b t:Nat):Nat:=if t=a then b else if t=b then a else t
theorem qo (a b t:Nat):swN a b (swN a b t)=t:=by
 grind[swN]
theorem XV {a b s t:Nat} (h:swN a b s=swN a b t):s=t:=by
 grind[swN]
mutual
def V.sw (a b:Nat):V→V
 | .own t g off n=>.own (swN a b t) g off n
 | .ptr t g off=>.ptr (swN a b t) g off
 | .acc t g=>.acc (swN a b t) g
 | .eptr t g e i off=>.eptr (swN a b t) g e i off
 | .nwin t g off n=>.nwin (swN a b t) g off n
 | .mp t g=>.mp (swN a b t) g
 | .agg cs=>.agg (swL a b cs)
 | .tup cs=>.tup (swL a b cs)
 | .ifc t v=>.ifc t (v.sw a b)
 | .fn f cs=>.fn f (swL a b cs)
 | v=>v
def swL (a b:Nat):List V→List V
 | []=>[]
 | v::r=>v.sw a b::swL a b r
end
theorem qs (a b:Nat):∀l:List V,(swL a b l).length=l.length
 | []=>rfl
 | v::r=>by simp[swL,qs a b r]
theorem qQ (a b:Nat):∀(l:List V) (i:Nat) (d:V),(swL a b l)[i]? = some d→∃d0,l[i]? = some d0∧d=d0.sw a b
 | [],i,d,h=>by simp[swL] at h
 | v::r,i,d,h=>by
  cases i with
  | zero=>simp[swL] at h;exact⟨v,rfl,h.symm⟩
  | succ i=>simp[swL] at h;simpa using qQ a b r i d h
def OK.sw (a b:Nat):OK→OK
 | .box ty cs=>.box ty (swL a b cs)
 | .row ty sz fz cs=>.row ty sz fz (swL a b cs)
 | k=>k
def Tab.sw (a b:Nat) (T:Tab):Tab:=T.map fun p=>(swN a b p.1,⟨p.2.gen,p.2.k.sw a b⟩)
theorem Tab.get_sw (a b:Nat):∀(T:Tab) (t:Nat),(T.sw a b).get t=⟨(T.get (swN a b t)).gen,(T.get (swN a b t)).k.sw a b⟩
 | [],t=>rfl
 | (k,o)::r,t=>by
  have ih:=Tab.get_sw a b r t
  grind[Tab.sw,Tab.get,aget,swN]
theorem OK.live_sw {a b:Nat} {k:OK}:(k.sw a b).live↔k.live:=by cases k<;>rfl
theorem Tab.live_sw {a b:Nat} {T:Tab} {t:Nat}:(T.sw a b).live t↔T.live (swN a b t):=by
 grind[Tab.live,Tab.get_sw,OK.live_sw]
theorem OK.fzAt_sw {a b:Nat} {k:OK} {o:Nat}:(k.sw a b).fzAt o↔k.fzAt o:=by
 cases k with
 | row ty sz fz cs=>cases fz<;>simp[OK.sw,OK.fzAt,qs]
 | _=>rfl
theorem JS (D:Addr→Prop) (a b:Nat) (T:Tab) (ι:Nat→Nat) (w:World):Stable D (T.sw a b) (fun t=>ι (swN a b t)) w=Stable D T ι w:=by
 funext p
 apply propext
 unfold Stable
 refine⟨fun⟨h1,h2,h3⟩=>⟨h1,h2,fun t hl he=>?_⟩,fun⟨h1,h2,h3⟩=>⟨h1,h2,fun t hl he=>?_⟩⟩
 ·have:=h3 (swN a b t) (Tab.live_sw.2 (by rw[qo];exact hl)) (by grind[qo])
  grind[Tab.get_sw,qo,OK.fzAt_sw]
 grind[Tab.get_sw,OK.fzAt_sw,Tab.live_sw]
theorem Rp.sw {S:Addr→Prop} {w:World} {a b:Nat} {d:V} {v:Value} (h:Rp S w d v):Rp S w (d.sw a b) v:=by
 induction h with
 | agg hl h ih=>
  rename_i cs vs
  refine .agg (by rw[qs];exact hl) fun i d u hd hu=>?_
  obtain⟨d0,h0,rfl⟩:=qQ a b cs i d hd
  grind
 | tup hl h ih=>
  rename_i cs vs
  refine .tup (by rw[qs];exact hl) fun i d u hd hu=>?_
  obtain⟨d0,h0,rfl⟩:=qQ a b cs i d hd
  grind
 | ifc h ih=>exact .ifc ih
 | fn hl h ih=>
  rename_i f cs vs
  refine .fn (by rw[qs];exact hl) fun i d u hd hu=>?_
  obtain⟨d0,h0,rfl⟩:=qQ a b cs i d hd
  grind
 | bool b=>exact .bool b
 | int k n=>exact .int k n
 | str b s h=>exact .str b s h
 | snil=>exact .snil
 | sl hc hm hl h ih=>exact .sl hc hm hl h
 | slz=>exact .slz
 | cref hm hl h ih=>exact .cref hm hl h
 | pnil=>exact .pnil
 | inil=>exact .inil
 | fnil=>exact .fnil
 | sz=>exact .sz
 | nl h ih=>exact .nl h
 | bs h ih=>exact .bs ih
 | lst h ih=>exact .lst h
 | si h ih=>exact .si h
 | eref h ih=>exact .eref h
theorem Rv.sw {T:Tab} {ι:Nat→Nat} {S:Addr→Prop} {w:World} {a b:Nat} {d:V} {v:Value} (h:Rv T ι S w d v):Rv (T.sw a b) (fun t=>ι (swN a b t)) S w (d.sw a b) v:=by
 induction h with
 | pure h=>exact .pure h.sw
 | undef v=>exact .undef v
 | @own t g off n v hv hg h=>
  refine .own hv (by rw[Tab.get_sw,qo];exact hg) fun ty sz fz cs hT=>?_
  rw[Tab.get_sw,qo] at hT
  simp only[Ob.mk.injEq] at hT
  obtain⟨h1,h2⟩:=hT
  cases hk:(T.get t).k with
  | row ty0 sz0 fz0 cs0=>
   rw[hk] at h2
   simp only[OK.sw,OK.row.injEq] at h2
   obtain⟨rfl,rfl,rfl,rfl⟩:=h2
   rw[qo]
   exact h ty0 sz0 fz0 cs0 (by cases ho:T.get t;rw[ho] at hk h1;simp at hk h1;subst hk h1;rfl)
  | _=>rw[hk] at h2;simp[OK.sw] at h2
 | @ptr t g off v hv hg h=>
  refine .ptr hv (by rw[Tab.get_sw,qo];exact hg) fun h1 h2=>?_
  rw[Tab.get_sw,qo] at h1
  rw[qo]
  exact h h1 (by have:=Tab.live_sw.1 h2;rwa [qo] at this)
 | @mp t g v hv hg h=>
  refine .mp hv (by rw[Tab.get_sw,qo];exact hg) fun h1 h2=>?_
  rw[Tab.get_sw,qo] at h1
  rw[qo]
  exact h h1 (by have:=Tab.live_sw.1 h2;rwa [qo] at this)
 | @acc t g v hv hg h=>
  refine .acc hv (by rw[Tab.get_sw,qo];exact hg) fun ty fz nl L hT=>?_
  rw[Tab.get_sw,qo] at hT
  simp only[Ob.mk.injEq] at hT
  obtain⟨h1,h2⟩:=hT
  cases hk:(T.get t).k with
  | nrow ty0 fz0 nl0 L0=>
   rw[hk] at h2
   simp only[OK.sw,OK.nrow.injEq] at h2
   obtain⟨rfl,rfl,rfl,rfl⟩:=h2
   rw[qo]
   exact h _ _ _ _ (by cases ho:T.get t;rw[ho] at hk h1;simp at hk h1;subst hk h1;rfl)
  | _=>rw[hk] at h2;simp[OK.sw] at h2
 | @nwin t g off n v hv hg h=>
  refine .nwin hv (by rw[Tab.get_sw,qo];exact hg) fun ty fz nl L hT=>?_
  rw[Tab.get_sw,qo] at hT
  simp only[Ob.mk.injEq] at hT
  obtain⟨h1,h2⟩:=hT
  cases hk:(T.get t).k with
  | nrow ty0 fz0 nl0 L0=>
   rw[hk] at h2
   simp only[OK.sw,OK.nrow.injEq] at h2
   obtain⟨rfl,rfl,rfl,rfl⟩:=h2
   rw[qo]
   exact h _ _ _ _ (by cases ho:T.get t;rw[ho] at hk h1;simp at hk h1;subst hk h1;rfl)
  | _=>rw[hk] at h2;simp[OK.sw] at h2
 | @eptr t g sz i off v hv hg h=>
  refine .eptr hv (by rw[Tab.get_sw,qo];exact hg) fun ty fz nl L hT=>?_
  rw[Tab.get_sw,qo] at hT
  simp only[Ob.mk.injEq] at hT
  obtain⟨h1,h2⟩:=hT
  cases hk:(T.get t).k with
  | nrow ty0 fz0 nl0 L0=>
   rw[hk] at h2
   simp only[OK.sw,OK.nrow.injEq] at h2
   obtain⟨rfl,rfl,rfl,rfl⟩:=h2
   rw[qo]
   exact h _ _ _ _ (by cases ho:T.get t;rw[ho] at hk h1;simp at hk h1;subst hk h1;rfl)
  | _=>rw[hk] at h2;simp[OK.sw] at h2
 | agg hl h ih=>
  rename_i cs vs
  refine .agg (by rw[qs];exact hl) fun i d u hd hu=>?_
  obtain⟨d0,h0,rfl⟩:=qQ a b cs i d hd
  exact ih i d0 u h0 hu
 | tup hl h ih=>
  rename_i cs vs
  refine .tup (by rw[qs];exact hl) fun i d u hd hu=>?_
  obtain⟨d0,h0,rfl⟩:=qQ a b cs i d hd
  exact ih i d0 u h0 hu
 | ifc h ih=>exact .ifc ih
 | fn hl h ih=>
  rename_i f cs vs
  refine .fn (by rw[qs];exact hl) fun i d u hd hu=>?_
  obtain⟨d0,h0,rfl⟩:=qQ a b cs i d hd
  exact ih i d0 u h0 hu
theorem ObRel.sw {T:Tab} {ι:Nat→Nat} {S:Addr→Prop} {w:World} {a b n:Nat} {k:OK} (h:ObRel T ι S w n k):ObRel (T.sw a b) (fun t=>ι (swN a b t)) S w n (k.sw a b):=by
 cases k with
 | dead=>trivial
 | box ty cs=>
  obtain⟨arr,fz,h1,h2,h3,h4⟩:=h
  refine⟨arr,fz,h1,h2,by rw[qs];exact h3,fun i d u hd hu=>?_⟩
  obtain⟨d0,h0,rfl⟩:=qQ a b cs i d hd
  exact(h4 i d0 u h0 hu).sw
 | row ty sz fz0 cs=>
  obtain⟨arr,fz,cap,h1,h2,h3,h4,h5,h6⟩:=h
  refine⟨arr,fz,cap,h1,h2,h3,h4,by rw[qs];exact h5,fun i d u hd hu=>?_⟩
  obtain⟨d0,h0,rfl⟩:=qQ a b cs i d hd
  exact(h6 i d0 u h0 hu).sw
 | iter s pos=>exact h
 | mp M=>exact h
 | nrow ty fz0 nl L=>
  rcases h with h | ⟨arr,fz,cap,h1,h2,h3,h4,h5,h6⟩
  ·exact .inl h
  ·refine .inr ⟨arr,fz,cap,h1,h2,h3,h4,h5,fun i d u hd hu=>?_⟩
   exact .pure ((h6 i d u hd hu).pure_ (TL.pure_cells hd))
def St.sw (a b:Nat) (st:St):St:={ n:=st.n,t:=st.t.map fun p=>(p.1,p.2.sw a b),o:=st.o.sw a b,g:=swL a b st.g }
theorem St.get_sw (a b:Nat) (st:St) (t:Nat):(st.sw a b).get t=(st.get t).sw a b:=by
 obtain⟨n,l,o,g⟩:=st
 show aget .undef (l.map fun p=>(p.1,p.2.sw a b)) t=(aget .undef l t).sw a b
 induction l with
 | nil=>rfl
 | cons p r ih=>
  grind[aget]
theorem RelI.sw {κ:Cx} {ι:Nat→Nat} {st:St} {a:Act} {w:World} {x y:Nat} (hx:x<1000000) (hy:y<1000000) (h:RelI κ ι st a w):RelI κ (fun t=>ι (swN x y t)) (st.sw x y) a w:=by
 have hS:=JS κ.D x y st.o ι w
 refine⟨h.dfr,h.sz,fun t=>?_,⟨fun t=>?_,fun t u ht hu e=>?_,fun t ht=>?_⟩,fun t ht=>?_,h.kept,fun t b hp hg hl=>?_,?_⟩
 ·rw[St.get_sw]
  show Rv (st.o.sw x y) _ (Stable κ.D (st.o.sw x y) _ w) w _ _
  rw[hS]
  exact(h.tm t).sw
 ·show ObRel (st.o.sw x y) _ (Stable κ.D (st.o.sw x y) _ w) w _ ((st.o.sw x y).get t).k
  rw[hS,Tab.get_sw]
  exact(h.tr.ob _).sw
 ·exact XV (h.tr.inj _ _ (Tab.live_sw.1 ht) (Tab.live_sw.1 hu) e)
 ·exact h.tr.lt _ (Tab.live_sw.1 ht)
 ·exact h.my _ (Tab.live_sw.1 ht)
 ·have hge:=κ.hpin t b hp
  have e:swN x y t=t:=by grind[swN]
  have hg':((st.o.sw x y).get t).gen=0:=hg
  have hl':(st.o.sw x y).live t:=hl
  rw[Tab.get_sw,e] at hg'
  rw[Tab.live_sw,e] at hl'
  simp only[e]
  exact h.pin t b hp hg' hl'
 ·show LR (Rv (st.o.sw x y) _ (Stable κ.D (st.o.sw x y) _ w) w) (swL x y st.g) κ.gv
  rw[hS]
  refine⟨by rw[qs];exact h.gh.1,fun i d u hd hu=>?_⟩
  obtain⟨d0,h0,rfl⟩:=qQ x y st.g i d hd
  exact(h.gh.2 i d0 u h0 hu).sw
theorem Rel.sw {κ:Cx} {st:St} {a:Act} {w:World} {x y:Nat} (hx:x<1000000) (hy:y<1000000) (h:Rel κ st a w):Rel κ (st.sw x y) a w:=by
 obtain⟨ι,h⟩:=h
 exact⟨_,h.sw hx hy⟩
mutual
def V.leads (t g:Nat):V→Bool
 | .own t' g' _ _=>t'==t&&g'==g
 | .ptr t' g' _=>t'==t&&g'==g
 | .acc t' g'=>t'==t&&g'==g
 | .eptr t' g' _ _ _=>t'==t&&g'==g
 | .nwin t' g' _ _=>t'==t&&g'==g
 | .mp t' g'=>t'==t&&g'==g
 | .agg cs=>jJ t g cs
 | .tup cs=>jJ t g cs
 | .ifc _ v=>v.leads t g
 | .fn _ cs=>jJ t g cs
 | _=>false
def jJ (t g:Nat):List V→Bool
 | []=>false
 | v::r=>v.leads t g||jJ t g r
end
def OK.leads (t g:Nat):OK→Bool
 | .box _ cs=>jJ t g cs
 | .row _ _ _ cs=>jJ t g cs
 | _=>false
def OK.isDead:OK→Bool
 | .dead=>true
 | _=>false
def St.used (st:St) (t:Nat):Bool:=
 let ob:=st.o.get t
 !ob.k.isDead&&(st.t.any (fun p=>p.2.leads t ob.gen)||jJ t ob.gen st.g||st.o.any (fun p=>p.1 != t&&p.2.k.leads t ob.gen))
def spare (T:Tab):Nat:=T.foldl (fun m p=>if m≤p.1∧p.1<999999 then p.1+1 else m) 500000
def Qp (o:Oper):List Nat:=
 match o.dst with
 | none=>[]
 | some d=>match o.op with
  | .alloc _ | .box _ _ | .buildSlice _ _ _ | .makeSlice _ _ _ | .range _ _ | .convert _ _ _ | .makeMap _ _=>[d]
  | .call ⟨.builtin .append,_,_⟩=>[d]
  | .call ⟨.value _,_,_⟩=>[d,d+100000,d+200000,d+300000]
  | _=>[]
def spill1 (st:St) (d:Nat):St:=if d<500000∧st.used d=true∧spare st.o<1000000 then st.sw d (spare st.o) else st
def spill (st:St) (ops:List Oper):St:=ops.foldl (fun st o=>(Qp o).foldl spill1 st) st
theorem Rel.spill1 {κ:Cx} {st:St} {a:Act} {w:World} {d:Nat} (h:Rel κ st a w):Rel κ (spill1 st d) a w:=by
 unfold Abs.spill1
 split
 ·rename_i hc;exact h.sw (by omega) hc.2.2
 ·exact h
theorem Rel.spill {κ:Cx} {a:Act} {w:World}:∀(ops:List Oper) {st:St},Rel κ st a w→Rel κ (spill st ops) a w
 | [],_,h=>h
 | o::r,st,h=>by
  have key:∀(l:List Nat) (st:St),Rel κ st a w→Rel κ (l.foldl Abs.spill1 st) a w:=by
   intro l
   induction l with
   | nil=>exact fun _ h=>h
   | cons d l ih=>exact fun st h=>ih _ h.spill1
  exact Rel.spill r (key (Qp o) st h)
end Go.Abs
namespace Go.Abs
open Go.RowKit
set_option linter.unusedVariables false
set_option linter.unusedSimpArgs false
structure XS (κ:Cx) (ι:Nat→Nat) (T:Tab) (g:List V) (w:World):Prop where
 tr:TR κ.D T ι w
 my:∀t,T.live t→κ.w0.heap.size≤ι t∨κ.X (ι t)
 kept:Kept κ.X κ.w0 w
 pin:∀t b,κ.pin t=some b→(T.get t).gen=0→T.live t→ι t=b
 gh:LR (Rv T ι (Stable κ.D T ι w) w) g κ.gv
theorem RelI.m {κ:Cx} {ι:Nat→Nat} {st:St} {a:Act} {w:World} (h:RelI κ ι st a w):XS κ ι st.o st.g w:=⟨h.tr,h.my,h.kept,h.pin,h.gh⟩
def XR (P:Program) (f:FuncId) (args:List V) (T:Tab) (g:List V) (res:V) (T':Tab) (g':List V):Prop:=
 ∀κ:Cx,κ.P=P→∀(ι:Nat→Nat) (w:World) (cargs:Array Value),XS κ ι T g w→LR (Rv T ι (Stable κ.D T ι w) w) args cargs.toList→
  Calls P f cargs w fun e w'=>∃v ι',e=.returned v∧XS κ ι' T' g' w'∧Rv T' ι' (Stable κ.D T' ι' w') w' res v
abbrev InOrc:=Nat→List V→Tab→List V→Option (V×Tab×List V)
def InOk (P:Program) (In:InOrc):Prop:=∀f xs T g res T' g',In f xs T g=some (res,T',g')→
 XR P f xs T g res T' g' ∧ ∃ fn, P.funcs[f]? = some fn ∧ (fn.name == "runtime.NumGoroutine") = false ∧ fn.body.isNone = false
def Zp (In:InOrc) (st:St) (k:Nat) (args:List V) (dst:Option Nat):Option St:=
 match In k args st.o (st.g++st.t.map (fun p=>st.get p.1)) with
 | some (res,T',g')=>({ n:=st.n,t:=(st.t.map (·.1)).zip (g'.drop st.g.length),o:=T',g:=g'.take st.g.length }:St).set dst res
 | none=>none
def J3 (Γ:Orc) (In:InOrc) (P:Program) (opl:List Oper) (st:St) (o:Oper):Option St:=
 match o.op with
 | .call ⟨.value f,args,_⟩=>match aguard opl st o with
  | some true=>match st.eval f with
   | .fn k caps=>match Zp In st k (args.toList.map st.eval++caps) o.dst with
    | some st'=>some st'
    | none=>step Γ P opl st o
   | _=>none
  | _=>step Γ P opl st o
 | _=>step Γ P opl st o
theorem JT {R:V→Value→Prop} (hu:∀v,R V.undef v) (f:Nat→Value):∀(ks:List Nat) (vs:List V),LR R vs (ks.map f)→∀t,R (aget .undef (ks.zip vs) t) (f t)
 | [],vs,h,t=>by simp[aget];exact hu _
 | k::r,[],h,t=>by simp[aget];exact hu _
 | k::r,v::vs,h,t=>by
  obtain⟨u,us,e,h1,h2⟩:=h.head
  simp only[List.map_cons,List.cons.injEq] at e
  obtain⟨rfl,rfl⟩:=e
  simp only[List.zip_cons_cons,aget]
  split
  ·rename_i e;subst e;exact h1
  ·exact JT hu f r vs h2 t
section
variable {κ : Cx} {ι : Nat → Nat} {st : St} {a : Act} {w : World}
theorem JB {In:InOrc} (hI:InOk κ.P In) (h:RelI κ ι st a w) {o:Oper} {f:Operand} {args:Array Operand} {ts:Array TypeId} (ho:o.op=.call ⟨.value f,args,ts⟩) {k:Nat} {caps:List V} (hf:st.eval f=.fn k caps)
  {st':St} (hx:Zp In st k (args.toList.map st.eval++caps) o.dst=some st') {K:Act→World→Prop} {Q:Exit→Act→World→Prop}
  (hK:∀a' w',Rel κ st' a' w'→K a' w'):o.wp κ.P a w K Q:=by
 unfold Zp at hx
 split at hx
 ·rename_i res T' g' hin
  obtain⟨hspec,fn,h1,h2,h3⟩:=hI _ _ _ _ _ _ _ hin
  have hfv:=h.eval f
  rw[hf] at hfv
  obtain⟨us,hfu,hl,hh⟩:=hfv.fn_
  have hargs:LR (Rv st.o ι (Stable κ.D st.o ι w) w) (args.toList.map st.eval++caps) (args.map a.eval++⟨us⟩).toList:=by
   have:=LR.map st.eval a.eval args.toList (R:=Rv st.o ι (Stable κ.D st.o ι w) w) fun x _=>h.eval x
   simpa using this.append ⟨hl,hh⟩
  unfold Oper.wp
  rw[jx ho hfu h1 h2 h3]
  let κ':Cx:={ κ with gv:=κ.gv++st.t.map (fun p=>a.tmps.getD p.1 undef) }
  have hs:LR (Rv st.o ι (Stable κ.D st.o ι w) w) (st.t.map (fun p=>st.get p.1)) (st.t.map (fun p=>a.tmps.getD p.1 undef)):=LR.map _ _ st.t fun p _=>h.tm p.1
  have hm0:XS κ' ι st.o (st.g++st.t.map (fun p=>st.get p.1)) w:=⟨h.tr,h.my,h.kept,h.pin,h.gh.append hs⟩
  refine(hspec κ' rfl ι w _ hm0 hargs).mono fun e w'=>?_
  rintro⟨cv,ι',rfl,hm,hv⟩
  have hgl:st.g.length=κ.gv.length:=h.gh.1
  have hg1:=hm.gh.take st.g.length
  have hg2:=hm.gh.drop st.g.length
  simp only[κ',hgl,List.take_left,List.drop_left] at hg1 hg2
  rw[←hgl] at hg1 hg2
  have hr:RelI κ ι' { n:=st.n,t:=(st.t.map (·.1)).zip (g'.drop st.g.length),o:=T',g:=g'.take st.g.length } a w':=by
   refine⟨h.dfr,h.sz,fun t=>?_,hm.tr,hm.my,hm.kept,hm.pin,hg1⟩
   exact JT (R:=Rv T' ι' (Stable κ.D T' ι' w') w') (fun v=>Rv.undef v) (fun t=>a.tmps.getD t undef) (st.t.map (·.1)) _ (by rw[List.map_map];exact hg2) t
  exact hK _ _ ⟨ι',hr.set (To.refl hr) (by simpa using hx) hv⟩
 ·cases hx
theorem J2 {Γ:Orc} {In:InOrc} (hΓ:GammaOk κ.P Γ) (hI:InOk κ.P In) (h:RelI κ ι st a w) {ops:Array Oper} {o:Oper} {st':St} (hx:J3 Γ In κ.P ops.toList st o=some st')
  {K:Act→World→Prop} {Q:Exit→Act→World→Prop} (hK:∀a' w',Rel κ st' a' w'→K a' w'):if Region.wanted o (yielded ops a.tmps) then o.wp κ.P a w K Q else K (a.put o.dst undef) w:=by
 unfold J3 at hx
 split at hx
 ·rename_i f args ts ho
  split at hx
  ·rename_i hg
   split at hx
   ·rename_i k caps hf
    split at hx
    ·rename_i st1 hc
     injection hx with hx;subst hx
     rw[zk h hg]
     simp only[if_true]
     grind[JB]
    ·exact j6 hΓ h hx hK
   ·cases hx
  ·exact j6 hΓ h hx hK
 ·exact j6 hΓ h hx hK
def km (Γ:Orc) (In:InOrc) (P:Program) (opl:List Oper):List Oper→St→Option St
 | [],st=>some st
 | o::r,st=>match J3 Γ In P opl st o with
  | some st'=>km Γ In P opl r st'
  | none=>none
theorem vH {Γ:Orc} {In:InOrc} (hΓ:GammaOk κ.P Γ) (hI:InOk κ.P In) {ops:Array Oper} {Q:Exit→Act→World→Prop}:∀(l:List Oper) (st st':St) (a:Act) (w:World),km Γ In κ.P ops.toList l st=some st'→Rel κ st a w→
  (∀a' w',Rel κ st' a' w'→Q .normal a' w')→wpList κ.P ops Q l a w
 | [],st,st',a,w,hx,h,hQ=>by
  grind[km,wpList_nil]
 | o::r,st,st',a,w,hx,⟨ι,h⟩,hQ=>by
  simp only[km] at hx
  split at hx
  ·rename_i st1 h1
   exact wpList_step fun K hK=>J2 hΓ hI h h1 fun a' w' hr=>hK _ _ (vH hΓ hI r st1 st' a' w' hx hr hQ)
  ·cases hx
end
end Go.Abs
namespace Go.Abs
open Go.RowKit
set_option linter.unusedVariables false
set_option linter.unusedSimpArgs false
def HT (κ:Cx) (c:Code) (Q:Exit→St→Prop) (st:St):Prop:=
 ∀a w,Rel κ st a w→c.wp κ.P (fun e a' w'=>∃st',Q e st'∧Rel κ st' a' w') a w
def KM (next:St→Prop) (Q:Exit→St→Prop):Exit→St→Prop
 | .normal,s=>next s
 | e,s=>Q e s
def blkQ (id:Nat) (Q:Exit→St→Prop):Exit→St→Prop
 | .exit i,s=>if i=id then Q .normal s else Q (.exit i) s
 | e,s=>Q e s
section
variable {κ : Cx} {Q : Exit → St → Prop} {st : St}
theorem HT.mono {c:Code} {Q':Exit→St→Prop} (h:HT κ c Q st) (hq:∀e s,Q e s→Q' e s):HT κ c Q' st:=
 fun a w hr=>wp_mono (h a w hr) fun e a' w' ⟨s,q,r⟩=>⟨s,hq e s q,r⟩
theorem HT.skip (h:Q .normal st):HT κ .skip Q st:=fun a w hr=>wp_skip ⟨st,h,hr⟩
theorem HT.exit {id:Nat} (h:Q (.exit id) st):HT κ (.exit id) Q st:=fun a w hr=>wp_exit ⟨st,h,hr⟩
theorem HT.ret (h:Q .ret st):HT κ .ret Q st:=fun a w hr=>wp_ret ⟨st,h,hr⟩
theorem HT.label {l:Nat} (h:Q .normal st):HT κ (.label l) Q st:=fun a w hr=>wp_label ⟨st,h,hr⟩
theorem HT.seq {x y:Code} (h:HT κ x (KM (HT κ y Q) Q) st):HT κ (.seq x y) Q st:=fun a w hr=>
 wp_seq (wp_mono (h a w hr) fun e a' w' ⟨s,q,r⟩=>by
  cases e with
  | normal=>exact q a' w' r
  | _=>exact⟨s,q,r⟩)
theorem HT.cond {c:Operand} {x y:Code} {b:Bool} (hc:st.eval c=.bool b) (h:HT κ (if b then x else y) Q st):HT κ (.cond c x y) Q st:=fun a w hr=>by
 have hr':=hr
 obtain⟨ι,hi⟩:=hr
 have:=hi.eval c
 rw[hc] at this
 exact wp_cond this.bool_ (h a w hr')
theorem HT.condS {c:Operand} {x y:Code} {b:Bool} (hc:st.eval c=.bs b) (h:HT κ (if b then x else y) Q st):HT κ (.cond c x y) Q st:=fun a w hr=>by
 have hr':=hr
 obtain⟨ι,hi⟩:=hr
 have:=hi.eval c
 rw[hc] at this
 exact wp_cond this.bs_ (h a w hr')
theorem HT.block {id:Nat} {c:Code} (h:HT κ c (blkQ id Q) st):HT κ (.block id c) Q st:=fun a w hr=>
 wp_block (wp_mono (h a w hr) fun e a' w' ⟨s,q,r⟩=>by
  cases e with
  | exit i=>
   grind[Exit.inBlock,blkQ]
  | _=>exact⟨s,q,r⟩)
theorem xL {P:Program} {c:Code} {Q:Exit→Act→World→Prop}:∀(n m:Nat) (a:Act) (w:World),n≤m→Code.rounds P c Q n a w→Code.rounds P c Q m a w
 | 0,m,a,w,_,h=>h.elim
 | n+1,0,a,w,hl,_=>absurd hl (by omega)
 | n+1,m+1,a,w,hl,h=>wp_mono h fun e a' w' q=>by
  cases e with
  | normal=>exact xL n m a' w' (by omega) q
  | _=>exact q
theorem HT.loop {c:Code} (I:Nat→St→Prop) (hI:∀k s,I k s→HT κ c (KM (fun s'=>∃j,j<k∧I j s') Q) s) {k:Nat} (h:I k st):HT κ (.loop c) Q st:=by
 have key:∀k s a w,I k s→Rel κ s a w→Code.rounds κ.P c (fun e a' w'=>∃st',Q e st'∧Rel κ st' a' w') (k+1) a w:=by
  intro k
  induction k using Nat.strongRecOn with
  | _ k ih=>
   intro s a w hs hr
   refine wp_mono (hI k s hs a w hr) fun e a' w' ⟨s',q,r⟩=>?_
   cases e with
   | normal=>
    obtain⟨j,hj,hs'⟩:=q
    exact xL (j+1) k a' w' (by omega) (ih j hj s' a' w' hs' r)
   | _=>exact⟨s',q,r⟩
 exact fun a w hr=>wp_loop_rounds (k+1) (key k st a w h hr)
def zX (Γ:Orc) (In:InOrc) (P:Program) (ops:Array Oper) (draw:Bool) (st:St):Option St:=
 let st:=spill st ops.toList
 if draw then vd Γ P ops.toList st else km Γ In P ops.toList ops.toList st
theorem HT.region {Γ:Orc} {In:InOrc} (hΓ:GammaOk κ.P Γ) (hI:InOk κ.P In) (hm:κ.P.follows .mixedOrders=true) {id:Nat} {ops:Array Oper} {draw:Bool} (htmp:(!draw||tmpsOk ops.toList)=true) {st':St}
  (hx:zX Γ In κ.P ops draw st=some st') (h:Q .normal st'):HT κ (.region id ops draw) Q st:=fun a w hr=>by
 cases draw with
 | true=>
  simp only[zX,if_true] at hx
  exact Kx hΓ hm (by grind) hx (hr.spill _) fun a' w' hr'=>⟨st',h,hr'⟩
 | false=>
  simp only[zX,Bool.false_eq_true,if_false] at hx
  exact wp_region_list (vH hΓ hI ops.toList _ st' a w hx (hr.spill _) fun a' w' hr'=>⟨st',h,hr'⟩)
end
def codeOk:Code→Bool
 | .region _ ops draw=>!draw||tmpsOk ops.toList
 | .seq x y=>codeOk x&&codeOk y
 | .cond _ x y=>codeOk x&&codeOk y
 | .block _ c=>codeOk c
 | .loop c=>codeOk c
 | _=>true
inductive Ex where
 | normal
 | exit (id:Nat)
 | ret
def Ex.to:Ex→Exit
 | .normal=>.normal
 | .exit id=>.exit id
 | .ret=>.ret
def ev (Γ:Orc) (In:InOrc) (P:Program):Nat→Code→St→Option (Ex×St)
 | 0,_,_=>none
 | n+1,c,st=>match c with
  | .skip=>some (.normal,st)
  | .label _=>some (.normal,st)
  | .exit id=>some (.exit id,st)
  | .ret=>some (.ret,st)
  | .region _ ops draw=>match zX Γ In P ops draw st with
   | some st'=>some (.normal,st')
   | none=>none
  | .seq x y=>match ev Γ In P n x st with
   | some (.normal,st')=>ev Γ In P n y st'
   | r=>r
  | .cond c x y=>match st.eval c with
   | .bool true=>ev Γ In P n x st
   | .bool false=>ev Γ In P n y st
   | .bs true=>ev Γ In P n x st
   | .bs false=>ev Γ In P n y st
   | _=>none
  | .block id c=>match ev Γ In P n c st with
   | some (.exit i,st')=>if i=id then some (.normal,st') else some (.exit i,st')
   | r=>r
  | .loop c=>match ev Γ In P n c st with
   | some (.normal,st')=>ev Γ In P n (.loop c) st'
   | r=>r
  | _=>none
def evQ (r:Ex×St):Exit→St→Prop:=fun e s=>e=r.1.to∧s=r.2
end Go.Abs
namespace Go.Abs
open Go.RowKit
set_option linter.unusedVariables false
set_option linter.unusedSimpArgs false
theorem Rv.monoS {T:Tab} {ι:Nat→Nat} {S S':Addr→Prop} {w:World} (hs:∀p,S p→S' p) {d:V} {v:Value} (h:Rv T ι S w d v):Rv T ι S' w d v:=by
 induction h with
 | pure h=>exact .pure (h.mono fun p hp=>⟨hs p hp,rfl⟩)
 | undef v=>exact .undef v
 | own hv hg h=>exact .own hv hg h
 | ptr hv hg h=>exact .ptr hv hg h
 | acc hv hg h=>exact .acc hv hg h
 | eptr hv hg h=>exact .eptr hv hg h
 | nwin hv hg h=>exact .nwin hv hg h
 | mp hv hg h=>exact .mp hv hg h
 | agg hl h ih=>exact .agg hl ih
 | tup hl h ih=>exact .tup hl ih
 | ifc h ih=>exact .ifc ih
 | fn hl h ih=>exact .fn hl ih
theorem ObRel.monoS {T:Tab} {ι:Nat→Nat} {S S':Addr→Prop} {w:World} (hs:∀p,S p→S' p) {b:Nat} {k:OK} (h:ObRel T ι S w b k):ObRel T ι S' w b k:=by
 cases k with
 | dead=>exact h
 | box ty cs=>obtain⟨arr,fz,h1,h2,h3,h4⟩:=h;exact⟨arr,fz,h1,h2,h3,fun i d u hd hu=>(h4 i d u hd hu).monoS hs⟩
 | row ty sz fz cs=>obtain⟨arr,fz,cap,h1,h2,h3,h4,h5,h6⟩:=h;exact⟨arr,fz,cap,h1,h2,h3,h4,h5,fun i d u hd hu=>(h6 i d u hd hu).monoS hs⟩
 | iter s pos=>exact h
 | mp M=>obtain⟨es,c,h1,h2,h3⟩:=h;exact⟨es,c,h1,h2,fun i p x hp hx=>⟨(h3 i p x hp hx).1,(h3 i p x hp hx).2.mono fun p hp=>⟨hs p hp,rfl⟩⟩⟩
 | nrow ty fz nl L=>
  rcases h with h | ⟨arr,fz,cap,h1,h2,h3,h4,h5,h6⟩
  ·exact .inl h
  ·exact .inr ⟨arr,fz,cap,h1,h2,h3,h4,h5,fun i d u hd hu=>(h6 i d u hd hu).monoS hs⟩
def Ka (P:Program) (st:St):ResultVar→Option V
 | .tmp t=>some (st.get t)
 | .cell a t=>(xk P st.o t (st.get a)).map (·.1)
def Qg (P:Program) (st:St):List ResultVar→Option (List V)
 | []=>some []
 | r::l=>match Ka P st r,Qg P st l with
  | some v,some vs=>some (v::vs)
  | _,_=>none
def packV (l:List V):V:=match l with
 | [v]=>v
 | l=>.tup l
section
variable {κ : Cx} {ι : Nat → Nat} {st : St} {a : Act} {w : World}
def Xe (tmps:Array Value):ResultVar→Sem Value
 | .tmp t=>pure (tmps.getD t undef)
 | .cell a t=>do loadVar t (←asAddr (tmps.getD a undef))
theorem Zf (fn:Func) (tmps:Array Value):results fn tmps=(do
  let vs ←fn.results.mapM (Xe tmps)
  pure (if h:vs.size=1 then vs[0] else .tuple vs)):=by
 unfold results
 congr 2
theorem XZ (h:RelI κ ι st a w) {r:ResultVar} {v:V} (hx:Ka κ.P st r=some v):∃cv,(Xe a.tmps r).run κ.P w=.ok cv w∧Rv st.o ι (Stable κ.D st.o ι w) w v cv:=by
 cases r with
 | tmp t=>simp[Ka] at hx;subst hx;exact⟨_,by simp[Xe],h.tm t⟩
 | cell x t=>
  simp only[Ka,xk] at hx
  split at hx
  ·rename_i cs hcs
   cases hl:vR κ.P t cs with
   | none=>simp[hl] at hx
   | some u=>
    simp[hl] at hx;subst hx
    obtain⟨ad,vs,hp,hm,hlr⟩:=yg h (h.tm x) hcs
    obtain⟨cv',hrun,hv⟩:=Qr (κ:=κ) hm hlr hl
    grind[Xe,asAddr]
  ·cases hx
theorem ZN (h:RelI κ ι st a w):∀(l:List ResultVar) (vs:List V),Qg κ.P st l=some vs→∃us:List Value,(l.mapM (Xe a.tmps)).run κ.P w=.ok us w∧LR (Rv st.o ι (Stable κ.D st.o ι w) w) vs us
 | [],vs,hx=>by simp[Qg] at hx;subst hx;exact⟨[],by simp,.nil⟩
 | r::l,vs,hx=>by
  simp only[Qg] at hx
  split at hx
  ·rename_i v vs' hv hvs
   injection hx with hx;subst hx
   obtain⟨cv,h1,h2⟩:=XZ h hv
   obtain⟨us,h3,h4⟩:=ZN h l vs' hvs
   exact⟨cv::us,by simp[List.mapM_cons,h1,h3],.cons h2 h4⟩
  ·cases hx
theorem kG (h:RelI κ ι st a w) (fn:Func) {vs:List V} (hx:Qg κ.P st fn.results.toList=some vs):
  ∃us:List Value,LR (Rv st.o ι (Stable κ.D st.o ι w) w) vs us∧(results fn a.tmps).run κ.P w=.ok (match us with | [u]=>u | us=>.tuple ⟨us⟩) w:=by
 obtain⟨us,h1,h2⟩:=ZN h _ _ hx
 refine⟨us,h2,?_⟩
 rw[Zf,Array.mapM_eq_mapM_toList]
 simp only[map_eq_pure_bind,Sem.run_bind,h1,Result.andThen_ok,bind_assoc,pure_bind]
 cases us with
 | nil=>simp
 | cons u us=>
  cases us with
  | nil=>simp
  | cons u2 us=>simp
end
def Xd (n:Nat) (T:Tab) (nb:Nat) (ss:List Nat) (v:V):Option (V×List Nat×List Nat):=
 match v with
 | .own s g 0 k=>if (T.get s).gen=g∧ss.contains s=false∧s<1000000 then(match (T.get s).k with
  | .row _ _ _ _=>some (.own (2000000+ss.length) 0 0 k,[],ss++[s])
  | _=>none) else none
 | .ptr s g off=>if (T.get s).gen=g then(match (T.get s).k with
  | .box _ _=>if 1000000≤s then(if g=0∧s-1000000<nb then some (.ptr s 0 off,[],ss) else none) else
    (match ss.idxOf? s with
     | some j=>some (.ptr (2000000+j) 0 off,[],ss)
     | none=>some (.ptr (2000000+ss.length) 0 off,[],ss++[s]))
  | _=>none) else none
 | v=>match view n T v with
  | some (x,l)=>some (x,l,ss)
  | none=>none
def Zt (nb:Nat):List Nat:=(List.range nb).map (1000000+·)
theorem zt {f:V→Option (V×List Nat)}:∀(cs xs:List V) (l:List Nat),mapV f cs=some (xs,l)→xs.length=cs.length
 | [],xs,l,h=>by simp[mapV] at h;obtain⟨rfl,rfl⟩:=h;rfl
 | v::r,xs,l,h=>by
  simp only[mapV] at h
  cases hv:f v with
  | none=>simp[hv] at h
  | some p=>
   simp only[hv] at h
   cases hm:mapV f r with
   | none=>simp[hm] at h
   | some q=>
    obtain⟨ys,l2⟩:=q
    simp[hm] at h
    obtain⟨rfl,rfl⟩:=h
    simp[zt r ys l2 hm]
def RR (T:Tab) (ι:Nat→Nat) (S:Addr→Prop) (w:World) (nb:Nat) (ss:List Nat) (x:V) (cv:Value):Prop:=
 Rp S w x cv∨
 (∃j s g k,ss[j]? = some s∧(T.get s).gen=g∧(∃ty sz fz cs,(T.get s).k=.row ty sz fz cs)∧x=.own (2000000+j) 0 0 k∧Rv T ι S w (.own s g 0 k) cv)∨
 (∃j s off,ss[j]? = some s∧(∃ty cs,(T.get s).k=.box ty cs)∧x=.ptr (2000000+j) 0 off∧cv=.pointer (some ⟨ι s,off,none⟩))∨
 (∃j off,j<nb∧(T.get (1000000+j)).gen=0∧(∃ty cs,(T.get (1000000+j)).k=.box ty cs)∧x=.ptr (1000000+j) 0 off∧cv=.pointer (some ⟨ι (1000000+j),off,none⟩))
def Zb (ss:List Nat):Prop:=ss.Nodup∧∀s∈ss,s<1000000
theorem XX {n:Nat} {T:Tab} {nb:Nat} {ss ss':List Nat} {v x:V} {l:List Nat} (h:Xd n T nb ss v=some (x,l,ss')):(∃r,ss'=ss++r)∧(Zb ss→Zb ss'):=by
 unfold Xd at h
 split at h
 ·split at h
  ·rename_i hc
   obtain⟨_,hn,hlt⟩:=hc
   split at h
   ·simp at h
    obtain⟨_,_,rfl⟩:=h
    refine⟨⟨_,rfl⟩,fun⟨h1,h2⟩=>⟨?_,?_⟩⟩
    ·grind
    grind
   ·cases h
  ·cases h
 ·split at h
  ·split at h
   ·split at h
    ·simp_all
    ·rename_i hlt
     split at h
     ·simp_all
     ·rename_i hx
      simp at h
      obtain⟨_,_,rfl⟩:=h
      refine⟨⟨_,rfl⟩,fun⟨h1,h2⟩=>⟨?_,?_⟩⟩
      ·grind
      grind
   ·cases h
  ·cases h
 ·split at h
  ·simp_all
  ·cases h
theorem RR.grow {T:Tab} {ι:Nat→Nat} {S:Addr→Prop} {w:World} {nb:Nat} {ss r:List Nat} {x:V} {cv:Value} (h:RR T ι S w nb ss x cv):RR T ι S w nb (ss++r) x cv:=by
 have up:∀(j s:Nat),ss[j]? = some s→(ss++r)[j]? = some s:=fun j s hj=>by grind
 rcases h with h | ⟨j,s,g,k,h1,h2⟩ | ⟨j,s,off,h1,h2⟩ | h
 ·exact .inl h
 ·exact .inr (.inl ⟨j,s,g,k,up j s h1,h2⟩)
 ·exact .inr (.inr (.inl ⟨j,s,off,up j s h1,h2⟩))
 ·exact .inr (.inr (.inr h))
end Go.Abs
namespace Go.Abs
open Go.RowKit
set_option linter.unusedVariables false
set_option linter.unusedSimpArgs false
def slots:Nat→List V→List (Nat×V)
 | _,[]=>[]
 | i,v::r=>(i,v)::slots (i+1) r
theorem jS:∀(l:List V) (i t:Nat),aget .undef (slots i l) t=if i≤t then l.getD (t-i) .undef else .undef
 | [],i,t=>by simp[slots,aget]
 | v::r,i,t=>by
  simp only[slots,aget]
  by_cases h:i=t
  ·subst h;simp
  ·rw[if_neg h,jS r (i+1) t]
   grind
theorem Zs {nb j:Nat} (h:j<nb):(Zt nb)[j]? = some (1000000+j):=by simp[Zt,h]
section
variable {κ : Cx} {ι : Nat → Nat} {st : St} {a : Act} {w : World}
theorem XY (h:RelI κ ι st a w) {T:Tab} (hall:∀s,(st.o.get s).gen=(T.get s).gen∧((st.o.get s).k=(T.get s).k∨(st.o.get s).k=(T.get s).k.freeze)) {n nb:Nat} {ss ss':List Nat} {v x:V} {l:List Nat} {cv:Value}
  (hx:Xd n T nb ss v=some (x,l,ss')) (hl:∀s∈l,(st.o.get s).k=(T.get s).k.freeze∧(st.o.get s).gen=(T.get s).gen) (hr:Rv st.o ι (Stable κ.D st.o ι w) w v cv):
  RR st.o ι (Stable κ.D st.o ι w) w nb ss' x cv:=by
 have hbox:∀{s ty cs},(T.get s).k=.box ty cs→(st.o.get s).k=.box ty cs:=by
  intro s ty cs hk
  rcases (hall s).2 with h1 | h1
  ·rw[h1,hk]
  ·rw[h1,hk];rfl
 unfold Xd at hx
 split at hx
 ·rename_i s g k
  split at hx
  ·rename_i hc
   split at hx
   ·rename_i ty sz fz cs hk
    simp at hx
    obtain⟨rfl,_,rfl⟩:=hx
    refine .inr (.inl ⟨ss.length,s,g,k,by simp,by grind,?_,rfl,hr⟩)
    rcases (hall s).2 with h1 | h1
    ·grind
    ·exact⟨ty,sz,true,cs,by rw[h1,hk];rfl⟩
   ·cases hx
  ·cases hx
 ·rename_i s g off
  split at hx
  ·rename_i hg
   split at hx
   ·rename_i ty cs hk
    have hb:=hbox hk
    have hp:=hr.ptr_ (by grind) (by simp[Tab.live,hb,OK.live])
    split at hx
    ·rename_i hge
     split at hx
     ·rename_i hc
      simp at hx
      obtain⟨rfl,_,rfl⟩:=hx
      have e:1000000+(s-1000000)=s:=by omega
      exact .inr (.inr (.inr ⟨s-1000000,off,hc.2,by grind,by grind,by rw[e],by rw[e];exact hp⟩))
     ·cases hx
    ·split at hx
     ·rename_i j hj
      simp at hx
      obtain⟨rfl,_,rfl⟩:=hx
      obtain⟨hlt,he,_⟩:=List.idxOf?_eq_some_iff.1 hj
      refine .inr (.inr (.inl ⟨j,s,off,?_,⟨ty,cs,hb⟩,rfl,hp⟩))
      grind
     ·simp at hx
      obtain⟨rfl,_,rfl⟩:=hx
      exact .inr (.inr (.inl ⟨ss.length,s,off,by simp,⟨ty,cs,hb⟩,rfl,hp⟩))
   ·cases hx
  ·cases hx
 ·split at hx
  ·rename_i x' l' hv
   simp at hx
   obtain⟨rfl,rfl,rfl⟩:=hx
   exact .inl (view_ok h n v _ _ cv hv hl hr)
  ·cases hx
end
end Go.Abs
namespace Go.Abs
open Go.RowKit
set_option linter.unusedVariables false
set_option linter.unusedSimpArgs false
def progOk (P : Program) : Bool := P.funcs.all fun fn => !(fn.name == "runtime.NumGoroutine") && match fn.body with
 | some c=>codeOk c
 | none=>true
def Vn (us:List Value):Value:=match us with | [u]=>u | us=>.tuple ⟨us⟩
theorem Kh {R:Tab} {ι:Nat→Nat} {S:Addr→Prop} {w:World} {vs:List V} {us:List Value} (h:LR (Rv R ι S w) vs us):Rv R ι S w (packV vs) (Vn us):=by
 match vs,us,h with
 | [v],[u],h=>exact h.2 0 v u rfl rfl
 | [v],[],h=>exact absurd h.1 (by simp)
 | [v],_::_::_,h=>exact absurd h.1 (by simp)
 | [],[],h=>exact .tup h.1 h.2
 | [],_::_,h=>exact absurd h.1 (by simp)
 | _::_::_,[],h=>exact absurd h.1 (by simp)
 | _::_::_,[u],h=>exact absurd h.1 (by simp)
 | _::_::_,_::_::_,h=>exact .tup h.1 h.2
theorem J6 {P:Program} {f:FuncId} {fn:Func} {c:Code} {args:List V} {T T':Tab} {g g':List V} {res:V} (hf:P.funcs[f]? = some fn) (hb:fn.body=some c) (hn:args.length≤fn.ntmps)
  (h:∀κ:Cx,κ.P=P→HT κ c (fun e s=>(e=.normal∨e=.ret)∧∃vs,Qg P s fn.results.toList=some vs∧packV vs=res∧s.o=T'∧s.g=g') ⟨fn.ntmps,slots 0 args,T,g⟩):XR P f args T g res T' g':=by
 intro κ hκ ι w cargs hm hargs
 subst hκ
 refine calls_of_wp hf hb ?_
 have hlen:args.length=cargs.size:=by rw[hargs.1];simp
 have h0:Rel κ ⟨fn.ntmps,slots 0 args,T,g⟩ { tmps:=cargs++Array.replicate (fn.ntmps-cargs.size) undef,defers:=[] } w:=by
  refine⟨ι,rfl,by simp;omega,fun t=>?_,hm.tr,hm.my,hm.kept,hm.pin,hm.gh⟩
  simp only[St.get,jS,Nat.zero_le,if_true,Nat.sub_zero]
  by_cases ht:t<args.length
  ·obtain⟨u,hu,hru⟩:=hargs.get (i:=t) (d:=args[t]) (List.getElem?_eq_getElem ht)
   have e1:args.getD t .undef=args[t]:=by simp[ht]
   have e2:(cargs++Array.replicate (fn.ntmps-cargs.size) undef).getD t undef=u:=by
    have ht':t<cargs.size:=by omega
    simp_all[Array.getD_eq_getD_getElem?,Array.getElem?_append_left]
   grind
  ·have e1:args.getD t .undef=.undef:=by grind
   rw[e1];exact .undef _
 refine Code.wp_mono (fun e a' w'=>?_) (h κ rfl _ _ h0)
 rintro⟨st',⟨he,vs,hvs,rfl,rfl,rfl⟩,ι',hr⟩
 obtain⟨us,hus,hres⟩:=kG hr fn hvs
 have hv:=Kh hus
 rcases he with rfl | rfl
 ·exact⟨hr.dfr,_,hres,_,ι',rfl,hr.m,hv⟩
 ·exact⟨hr.dfr,_,hres,_,ι',rfl,hr.m,hv⟩
end Go.Abs
