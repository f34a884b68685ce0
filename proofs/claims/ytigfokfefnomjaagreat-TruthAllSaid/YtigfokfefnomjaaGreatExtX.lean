/- The form of a state: which slots, which objects; a state brought to a form. -/
import Derived.Test.YtigfokfefnomjaaGreatExtC
import Derived.Laws.MakeOwn
namespace Go.Abs
open Go.RowKit
set_option linter.unusedVariables false
set_option linter.unusedSimpArgs false
def impV (t:Ty) (v:V):Option t.I:=jO t (impC t) v
theorem yV {S:Addr→Prop} {w:World} {t:Ty} {x:t.I} {u:Value} (h:Rp S w (vOf t (cellsV t x)) u) (ho:isOneT t=true∨isAggT t=true):Rp S w (valW t x) u:=by
 cases t with
 | int k=>exact h
 | bool=>exact .bs h
 | str=>exact h
 | list e=>exact .lst h
 | unit=>simp[isOneT,isAggT] at ho
 | pair a b=>simp[isOneT,isAggT] at ho
 | agg t=>
  cases h with
  | agg h1 h2=>
   have:=cellsW_rp t x _ ⟨h1,h2⟩
   exact .agg this.1 this.2
 | alt t a r=>
  refine .si ?_
  have e:vOf (.alt t a r) (cellsV (.alt t a r) x)=(cellsV (.alt t a r) x).headD .pnil:=rfl
  rw[e] at h
  exact h
 | alt1 t a=>
  cases h with
  | ifc h=>exact .ifc (yk (by rw[qf,qk]) (qE a x) h)
 | inil=>exact h
theorem Zi {α:Type} {a:Ty} {f:List V→Option (α×List V)} {v:V} {y:α} (h:jO a f v=some y):isOneT a=true∨isAggT a=true:=by
 grind[jO]
theorem impV_rv {T:Tab} {ι:Nat→Nat} {S:Addr→Prop} {w:World} {t:Ty} {x:t.I} {v:V} {u:Value} (hx:impV t v=some x) (hv:Rv T ι S w v u):Rp S w (valW t x) u:=
 yV ((ju (impC_rv t) hx hv).pure_ (jY (ql t x))) (Zi hx)
def tsI:List Ty→Type
 | []=>Unit
 | [t]=>t.I
 | t::u::r=>t.I×tsI (u::r)
def xv:(ts:List Ty)→List TX→Option (tsI ts)
 | [],l=>match l with
  | []=>some ()
  | _=>none
 | [t],l=>match l with
  | [X]=>if h:X.e=t then some (castX h X.x) else none
  | _=>none
 | t::u::r,l=>match l with
  | X::l'=>if h:X.e=t then(match xv (u::r) l' with
   | some y=>some (castX h X.x,y)
   | none=>none) else none
  | []=>none
def qU:(ts:List Ty)→tsI ts→List TX
 | [],_=>[]
 | [t],x=>[⟨t,x⟩]
 | t::u::r,x=>⟨t,x.1⟩::qU (u::r) x.2
theorem jb:∀(ts:List Ty) (l:List TX) (x:tsI ts),xv ts l=some x→qU ts x=l
 | [],l,x,h=>by
  cases l with
  | nil=>rfl
  | cons _ _=>cases h
 | [t],l,x,h=>by
  cases l with
  | nil=>cases h
  | cons X l=>
   cases l with
   | nil=>
    simp only[xv] at h
    split at h
    ·rename_i he
     obtain⟨e,y⟩:=X
     simp only at he;subst he
     injection h with h;subst h;rfl
    ·cases h
   | cons _ _=>cases h
 | t::u::r,l,x,h=>by
  cases l with
  | nil=>cases h
  | cons X l=>
   simp only[xv] at h
   split at h
   ·rename_i he
    split at h
    ·rename_i y hy
     obtain⟨e,z⟩:=X
     simp only at he;subst he
     injection h with h;subst h
     show _::qU (u::r) y=_
     rw[jb (u::r) l y hy];rfl
    ·cases h
   ·cases h
inductive SS where
 | val (t:Ty)
 | ptr (s off:Nat)
 | acc (s:Nat)
 | arr (s sz:Nat)
 | fn (f:Nat) (ss:List Nat)
 | mp (s:Nat)
inductive CS where
 | val (t:Ty)
 | acc (s:Nat)
 | pair (a b:CS)
inductive OS where
 | box (ty:Nat) (c:CS)
 | nrow (ty:Nat) (e:Ty) (fz nl:Bool)
 | iter
 | mp (e:Ty)
structure Pat where
 sl:List (Nat×SS)
 ob:List (Nat×OS):=[]
def zI (s:Nat):Nat:=if 1000000≤s then 0 else 1
abbrev Lk:=List (Nat×Nat)
def qC:Lk→Nat→Option Nat
 | [],_=>none
 | (k,v)::r,s=>if k=s then some v else qC r s
def Z4 (s:Nat):V→Lk
 | .acc q _=>[(s,q)]
 | .own q _ _ _=>[(s,q)]
 | _=>[]
def ZP (s:Nat):V→Lk
 | .ptr q _ _=>[(s,q)]
 | _=>[]
def KD (s:Nat):V→Lk
 | .eptr q _ _ _ _=>[(s,q)]
 | _=>[]
def K4 (s:Nat):V→Lk
 | .mp q _=>[(s,q)]
 | _=>[]
def ZI:List Nat→List V→Lk
 | s::ss,v::vs=>ZP s v++ZI ss vs
 | _,_=>[]
def SS.link (v:V):SS→Lk
 | .ptr s _=>ZP s v
 | .acc s=>Z4 s v
 | .arr s _=>KD s v
 | .mp s=>K4 s v
 | .fn _ ss=>match v with
  | .fn _ caps=>ZI ss caps
  | _=>[]
 | _=>[]
def CS.link:CS→List V→Lk×List V
 | .val t,cs=>([],cs.drop t.size)
 | .acc s,cs=>match cs with
  | v::r=>(Z4 s v,r)
  | []=>([],[])
 | .pair a b,cs=>((a.link cs).1++(b.link (a.link cs).2).1,(b.link (a.link cs).2).2)
def vJ (st:St):List (Nat×SS)→Lk
 | []=>[]
 | e::r=>e.2.link (st.get e.1)++vJ st r
def ji (T:Tab):List (Nat×OS)→Lk→Lk
 | [],L=>L
 | (s,.box _ c)::r,L=>match qC L s with
  | some q=>match (T.get q).k with
   | .box _ cs=>ji T r (L++(c.link cs).1)
   | _=>ji T r L
  | none=>ji T r L
 | _::r,L=>ji T r L
def zd (st:St) (p:Pat):Lk:=ji st.o p.ob (vJ st p.sl)
def Xn (T:Tab) (L:Lk):Bool:=
 L.all (fun a=>L.all (fun b=>(a.1==b.1)==(a.2==b.2)))&&L.all (fun a=>if 1000000≤a.1∨1000000≤a.2 then a.1==a.2&&(T.get a.2).gen==0 else true)
def Z3 (L:Lk) (T:Tab) (s:Nat) (v:V):Bool:=
 match v with
 | .acc q g=>qC L s==some q&&(T.get q).gen==g&&(match (T.get q).k with | .nrow _ _ _ _=>true | _=>false)
 | .own q g off n=>qC L s==some q&&(T.get q).gen==g&&off==0&&(match (T.get q).k with | .row _ sz _ cs=>n*sz==cs.length&&decide (0<n)&&decide (0<sz) | _=>false)
 | .snil | .sz=>(qC L s).isNone
 | _=>false
def ZO (L:Lk) (T:Tab) (s off:Nat) (v:V):Bool:=
 match v with
 | .ptr q g off'=>qC L s==some q&&(T.get q).gen==g&&off==off'&&(match (T.get q).k with | .box _ _ | .iter _ _=>true | _=>false)
 | _=>false
def XE (L:Lk) (T:Tab) (s sz:Nat) (v:V):Bool:=
 match v with
 | .eptr q g sz' 0 0=>qC L s==some q&&(T.get q).gen==g&&sz==sz'&&(match (T.get q).k with | .nrow _ _ _ _=>true | _=>false)
 | _=>false
def K3 (L:Lk) (T:Tab) (s:Nat) (v:V):Bool:=
 match v with
 | .mp q g=>qC L s==some q&&(T.get q).gen==g&&(match (T.get q).k with | .mp _=>true | _=>false)
 | _=>false
def yI (L:Lk) (T:Tab):List Nat→List V→Bool
 | [],[]=>true
 | s::ss,v::vs=>ZO L T s 0 v&&yI L T ss vs
 | _,_=>false
def jA (L:Lk) (T:Tab) (v:V):SS→Option (List TX)
 | .val t=>match impV t v with
  | some x=>some [⟨t,x⟩]
  | none=>none
 | .ptr s off=>if ZO L T s off v=true then some [] else none
 | .acc s=>if Z3 L T s v=true then some [] else none
 | .arr s sz=>if XE L T s sz v=true then some [] else none
 | .mp s=>if K3 L T s v=true then some [] else none
 | .fn f ss=>match v with
  | .fn f' caps=>if f=f'∧yI L T ss caps=true then some [] else none
  | _=>none
def vh (L:Lk) (T:Tab):CS→List V→Option (List TX×List V)
 | .val t,cs=>match impC t cs with
  | some (x,r)=>some ([⟨t,x⟩],r)
  | none=>none
 | .acc s,cs=>match cs with
  | v::r=>if Z3 L T s v=true then some ([],r) else none
  | []=>none
 | .pair a b,cs=>match vh L T a cs with
  | some (l1,r1)=>match vh L T b r1 with
   | some (l2,r2)=>some (l1++l2,r2)
   | none=>none
  | none=>none
def castM {e e':Ty} (h:e=e') (l:List (Int×e.I)):(Ty.list (.pair (.int .i64) e')).I:=h▸l
def zz (L:Lk) (T:Tab) (s:Nat):OS→Option (List TX)
 | .box ty c=>match qC L s with
  | some q=>match (T.get q).k with
   | .box ty' cs=>if ty=ty' then(match vh L T c cs with
    | some (l,[])=>some l
    | _=>none) else none
   | _=>none
  | none=>none
 | .nrow ty e fz nl=>match qC L s with
  | some q=>match (T.get q).k with
   | .nrow ty' fz' nl' M=>if ty=ty'∧nl=nl'∧(!fz'||fz)=true then(if h:M.e=e then some [⟨.list e,castL h M.l⟩] else none) else none
   | .row ty' sz fz' cs=>if ty=ty'∧sz=e.size∧(!fz'||fz)=true∧cs.length≠0 then(match impN (impC e) (cs.length / sz) cs with
    | some (l,[])=>some [⟨.list e,l⟩]
    | _=>none) else none
   | _=>none
  | none=>if nl=true then some [⟨.list e,[]⟩] else none
 | .iter=>match qC L s with
  | some q=>match (T.get q).k with
   | .iter l pos=>some [⟨.str,l⟩,⟨.int .i64,(pos:Int)⟩]
   | _=>none
  | none=>none
 | .mp e=>match qC L s with
  | some q=>match (T.get q).k with
   | .mp M=>if h:M.e=e then some [⟨.list (.pair (.int .i64) e),castM h M.l⟩] else none
   | _=>none
  | none=>none
def QO (L:Lk) (st:St):List (Nat×SS)→Option (List TX)
 | []=>some []
 | e::r=>match jA L st.o (st.get e.1) e.2,QO L st r with
  | some l,some l'=>some (l++l')
  | _,_=>none
def QP (L:Lk) (T:Tab):List (Nat×OS)→Option (List TX)
 | []=>some []
 | e::r=>match zz L T e.1 e.2,QP L T r with
  | some l,some l'=>some (l++l')
  | _,_=>none
def patOk (st:St) (p:Pat):Bool:=decide (p.ob.map (·.1)).Nodup&&st.g.isEmpty&&Xn st.o (zd st p)&&(zd st p).all (fun a=>(p.ob.map (·.1)).contains a.1)
def Va (st:St) (p:Pat):Option (List TX):=
 if patOk st p=true then
  match QO (zd st p) st p.sl,QP (zd st p) st.o p.ob with
  | some l,some l'=>some (l++l')
  | _,_=>none
 else none
def QH:SS→List TX→V×List TX
 | .val _,l=>match l with
  | X::r=>(valW X.e X.x,r)
  | []=>(.undef,[])
 | .ptr s off,l=>(.ptr s (zI s) off,l)
 | .acc s,l=>(.acc s (zI s),l)
 | .arr s sz,l=>(.eptr s (zI s) sz 0 0,l)
 | .mp s,l=>(.mp s (zI s),l)
 | .fn f ss,l=>(.fn f (ss.map fun s=>.ptr s (zI s) 0),l)
def zK:CS→List TX→List V×List TX
 | .val _,l=>match l with
  | X::r=>(cellsW X.e X.x,r)
  | []=>([],[])
 | .acc s,l=>([.acc s (zI s)],l)
 | .pair a b,l=>((zK a l).1++(zK b (zK a l).2).1,(zK b (zK a l).2).2)
def tlOf (e:Ty) (X:TX):TL:=match X with
 | ⟨.list e',l⟩=>⟨e',l⟩
 | _=>⟨e,[]⟩
def tmOf (e:Ty) (X:TX):TM:=match X with
 | ⟨.list (.pair (.int _) e'),l⟩=>⟨e',l⟩
 | _=>⟨e,[]⟩
def posOf (X:TX):Nat:=match X with
 | ⟨.int _,n⟩=>Int.toNat n
 | _=>0
def strOf (X:TX):List UInt8:=match X with
 | ⟨.str,l⟩=>l
 | _=>[]
def vf:OS→List TX→OK×List TX
 | .box ty c,l=>(.box ty (zK c l).1,(zK c l).2)
 | .nrow ty e fz nl,l=>match l with
  | X::r=>(.nrow ty fz nl (tlOf e X),r)
  | []=>(.dead,[])
 | .iter,l=>match l with
  | X::Y::r=>(.iter (strOf X) (posOf Y),r)
  | _=>(.dead,[])
 | .mp e,l=>match l with
  | X::r=>(.mp (tmOf e X),r)
  | []=>(.dead,[])
def zJ:List (Nat×SS)→List TX→List (Nat×V)×List TX
 | [],l=>([],l)
 | e::r,l=>((e.1,(QH e.2 l).1)::(zJ r (QH e.2 l).2).1,(zJ r (QH e.2 l).2).2)
def zw:List (Nat×OS)→List TX→Tab
 | [],_=>[]
 | e::r,l=>(e.1,⟨zI e.1,(vf e.2 l).1⟩)::zw r (vf e.2 l).2
def ZQ (base:St) (p:Pat) (l:List TX):St:=⟨base.n,(zJ p.sl l).1++base.t,zw p.ob (zJ p.sl l).2,[]⟩
def SS.tys:SS→List Ty
 | .val t=>[t]
 | _=>[]
def CS.tys:CS→List Ty
 | .val t=>[t]
 | .acc _=>[]
 | .pair a b=>a.tys++b.tys
def OS.tys:OS→List Ty
 | .box _ c=>c.tys
 | .nrow _ e _ _=>[.list e]
 | .iter=>[.str,.int .i64]
 | .mp e=>[.list (.pair (.int .i64) e)]
def Pat.ts (p:Pat):List Ty:=p.sl.flatMap (fun e=>e.2.tys)++p.ob.flatMap (fun e=>e.2.tys)
abbrev Pat.I (p:Pat):Type:=tsI p.ts
def KU (st:St) (p:Pat):Option p.I:=match Va st p with
 | some l=>xv p.ts l
 | none=>none
def patS (base:St) (p:Pat) (x:p.I):St:=ZQ base p (qU p.ts x)
mutual
def V.still:V→Bool
 | .undef | .own _ _ _ _ | .ptr _ _ _ | .acc _ _ | .eptr _ _ _ _ _ | .nwin _ _ _ _ | .mp _ _=>false
 | .agg cs=>stillL cs
 | .tup cs=>stillL cs
 | .ifc _ v=>v.still
 | .fn _ cs=>stillL cs
 | _=>true
def stillL:List V→Bool
 | []=>true
 | v::r=>v.still&&stillL r
end
mutual
theorem V.still_pure:∀v:V,v.still=true→v.pure=true
 | .agg cs,h=>by simp only[V.still] at h;simp only[V.pure];exact stillL_pure cs h
 | .tup cs,h=>by simp only[V.still] at h;simp only[V.pure];exact stillL_pure cs h
 | .ifc _ v,h=>by simp only[V.still] at h;simp only[V.pure];exact V.still_pure v h
 | .fn _ cs,h=>by simp only[V.still] at h;simp only[V.pure];exact stillL_pure cs h
 | .undef,h | .own _ _ _ _,h | .ptr _ _ _,h | .acc _ _,h | .eptr _ _ _ _ _,h | .nwin _ _ _ _,h | .mp _ _,h=>by simp[V.still] at h
 | .bool _,_ | .int _ _,_ | .str _,_ | .snil,_ | .sl _ _,_ | .cref _,_ | .pnil,_ | .inil,_ | .fnil,_ | .lst _,_ | .eref _ _,_ | .bs _,_ | .sz,_ | .nl _,_ | .si _,_=>rfl
theorem stillL_pure:∀l:List V,stillL l=true→pureL l=true
 | [],_=>rfl
 | v::r,h=>by
  simp_all[stillL,Bool.and_eq_true,pureL,V.still_pure,stillL_pure]
end
theorem zG:∀{L:Lk} {s q:Nat},qC L s=some q→(s,q)∈L
 | [],s,q,h=>by cases h
 | (k,v)::r,s,q,h=>by
  simp only[qC] at h
  split at h
  ·rename_i e;injection h with h;subst e h;simp
  ·exact List.mem_cons_of_mem _ (zG h)
theorem Xm {T:Tab} {L:Lk} (h:Xn T L=true) {s q s' q':Nat} (h1:(s,q)∈L) (h2:(s',q')∈L):s=s'↔q=q':=by
 grind[Xn]
theorem Xl {T:Tab} {L:Lk} (h:Xn T L=true) {s q:Nat} (h1:(s,q)∈L) (h2:1000000≤s∨1000000≤q):s=q∧(T.get q).gen=0:=by
 grind[Xn]
structure Fm (κ:Cx) (ι:Nat→Nat) (T:Tab) (w:World) (L:Lk) (T':Tab) (ι':Nat→Nat) (S':Addr→Prop):Prop where
 st:∀p,Stable κ.D T ι w p→S' p
 io:∀s q,qC L s=some q→ι' s=ι q
 ge:∀s q,qC L s=some q→(T'.get s).gen=zI s
section
variable {κ : Cx} {ι : Nat → Nat} {st : St} {a : Act} {w : World}
def zL (T T':Tab) (L:Lk) (s:Nat):Prop:=
 match qC L s with
 | some q=>(∀ty fz nl M,(T.get q).k=.nrow ty fz nl M→∃ty' fz',(T'.get s).k=.nrow ty' fz' nl M)∧
   (∀ty sz fz cs,(T.get q).k=.row ty sz fz cs→∃ty' fz' nl M,(T'.get s).k=.nrow ty' fz' nl M∧M.e.size=sz∧M.l.length=cs.length / sz)
 | none=>∃ty' fz' M,(T'.get s)=⟨zI s,.nrow ty' fz' true M⟩∧M.l=[]
theorem QT {L:Lk} {T':Tab} {ι':Nat→Nat} {S':Addr→Prop} (F:Fm κ ι st.o w L T' ι' S') {s:Nat} {v:V} {u:Value} (h:Z3 L st.o s v=true) (hrow:zL st.o T' L s)
  (hv:Rv st.o ι (Stable κ.D st.o ι w) w v u):Rv T' ι' S' w (.acc s (zI s)) u:=by
 unfold Z3 at h
 split at h
 ·rename_i q g
  simp only[Bool.and_eq_true,beq_iff_eq] at h
  obtain⟨⟨h1,h2⟩,h3⟩:=h
  unfold zL at hrow
  rw[h1] at hrow
  split at h3
  ·rename_i ty fz nl M hk
   obtain⟨ty',fz',e⟩:=hrow.1 _ _ _ _ hk
   have hT:st.o.get q=⟨g,.nrow ty fz nl M⟩:=by (cases hq:st.o.get q<;>grind)
   have hT':T'.get s=⟨zI s,.nrow ty' fz' nl M⟩:=by have:=F.ge s q h1;(cases hq:T'.get s<;>grind)
   refine .acc hv.acc_form (by grind) fun ty2 fz2 nl2 L2 e2=>?_
   rw[hT'] at e2
   simp at e2
   obtain⟨rfl,rfl,rfl,rfl⟩:=e2
   rw[F.io s q h1]
   exact hv.acc_ hT
  ·cases h3
 ·rename_i q g off n
  simp only[Bool.and_eq_true,beq_iff_eq] at h
  obtain⟨⟨⟨h1,h2⟩,h0⟩,h3⟩:=h
  subst h0
  unfold zL at hrow
  rw[h1] at hrow
  split at h3
  ·rename_i ty sz fz cs hk
   simp only[Bool.and_eq_true,beq_iff_eq,decide_eq_true_eq] at h3
   obtain⟨⟨h4,h5⟩,h6⟩:=h3
   obtain⟨ty',fz',nl,M,e,e1,e2⟩:=hrow.2 _ _ _ _ hk
   have hT:st.o.get q=⟨g,.row ty sz fz cs⟩:=by (cases hq:st.o.get q<;>grind)
   have hT':T'.get s=⟨zI s,.nrow ty' fz' nl M⟩:=by have:=F.ge s q h1;(cases hq:T'.get s<;>grind)
   have hlen:M.l.length=n:=by grind[Nat.mul_div_cancel]
   obtain⟨ad,c,cap',arr',ty1,fz2,rfl,o1,o2,o3,o4,o5,o6⟩:=hv.own_ hT
   refine .acc ⟨_,_,_,rfl⟩ (by grind) fun ty2 fz3 nl2 L2 e3=>?_
   rw[hT'] at e3
   simp at e3
   obtain⟨rfl,rfl,rfl,rfl⟩:=e3
   refine .inr ⟨fun e=>by grind,ad,c,cap',arr',ty1,fz2,by rw[hlen],?_,?_,by grind,by grind,o5,by rw[F.io s q h1,e1];exact o6⟩
   ·rw[F.io s q h1];exact o1
   ·rw[F.io s q h1];exact o2
  ·cases h3
 ·have hn:qC L s=none:=by simpa using h
  unfold zL at hrow
  rw[hn] at hrow
  obtain⟨ty',fz',M,e,e1⟩:=hrow
  have:=hv.snil_;subst this
  refine .acc ⟨_,_,_,rfl⟩ (by grind) fun ty2 fz2 nl2 L2 e2=>?_
  grind
 ·have hn:qC L s=none:=by simpa using h
  unfold zL at hrow
  rw[hn] at hrow
  obtain⟨ty',fz',M,e,e1⟩:=hrow
  obtain⟨p,rfl⟩:=hv.sz_
  refine .acc ⟨_,_,_,rfl⟩ (by grind) fun ty2 fz2 nl2 L2 e2=>?_
  grind
 ·cases h
theorem Qi {L:Lk} {T':Tab} {ι':Nat→Nat} {S':Addr→Prop} (F:Fm κ ι st.o w L T' ι' S') {s off:Nat} {v:V} {u:Value} (h:ZO L st.o s off v=true)
  (hv:Rv st.o ι (Stable κ.D st.o ι w) w v u):Rv T' ι' S' w (.ptr s (zI s) off) u:=by
 unfold ZO at h
 split at h
 ·rename_i q g off'
  simp only[Bool.and_eq_true,beq_iff_eq] at h
  obtain⟨⟨⟨h1,h2⟩,h0⟩,h3⟩:=h
  subst h0
  have hl:st.o.live q:=by
   grind[Tab.live,OK.live]
  have:=hv.ptr_ h2 hl
  subst this
  refine .ptr ⟨_,rfl⟩ (by rw[F.ge s q h1];grind) fun _ _=>by rw[F.io s q h1]
 ·cases h
theorem XD {L:Lk} {T':Tab} {ι':Nat→Nat} {S':Addr→Prop} (F:Fm κ ι st.o w L T' ι' S') {s sz:Nat} {v:V} {u:Value} (h:XE L st.o s sz v=true) (hrow:zL st.o T' L s)
  (hv:Rv st.o ι (Stable κ.D st.o ι w) w v u):Rv T' ι' S' w (.eptr s (zI s) sz 0 0) u:=by
 unfold XE at h
 split at h
 ·rename_i q g sz'
  simp only[Bool.and_eq_true,beq_iff_eq] at h
  obtain⟨⟨⟨h1,h2⟩,h0⟩,h3⟩:=h
  subst h0
  split at h3
  ·rename_i ty fz nl M hk
   have hT:st.o.get q=⟨g,.nrow ty fz nl M⟩:=by (cases hTs:st.o.get q<;>grind)
   obtain⟨e1,e2,e3⟩:=hv.eptr_ hT
   unfold zL at hrow
   rw[h1] at hrow
   obtain⟨ty',fz',e4⟩:=hrow.1 ty fz nl M hk
   refine .eptr ⟨_,e3⟩ (by rw[F.ge s q h1];grind) fun ty2 fz2 nl2 L2 e5=>?_
   rw[e5] at e4
   simp at e4
   obtain⟨_,_,_,rfl⟩:=e4
   exact⟨e1,e2,by rw[e3,F.io s q h1]⟩
  ·cases h3
 ·cases h
theorem Kq {L:Lk} {T':Tab} {ι':Nat→Nat} {S':Addr→Prop} (F:Fm κ ι st.o w L T' ι' S') {s:Nat} {v:V} {u:Value} (h:K3 L st.o s v=true)
  (hv:Rv st.o ι (Stable κ.D st.o ι w) w v u):Rv T' ι' S' w (.mp s (zI s)) u:=by
 unfold K3 at h
 split at h
 ·rename_i q g
  simp only[Bool.and_eq_true,beq_iff_eq] at h
  obtain⟨⟨h1,h2⟩,h3⟩:=h
  have hl:st.o.live q:=by
   grind[Tab.live,OK.live]
  have:=hv.mp_ h2 hl
  subst this
  refine .mp ⟨_,rfl⟩ (by rw[F.ge s q h1];grind) fun _ _=>by rw[F.io s q h1]
 ·cases h
theorem yb {L:Lk} {T':Tab} {ι':Nat→Nat} {S':Addr→Prop} (F:Fm κ ι st.o w L T' ι' S'):∀(ss:List Nat) (vs:List V) (us:List Value),yI L st.o ss vs=true→
  LR (Rv st.o ι (Stable κ.D st.o ι w) w) vs us→LR (Rv T' ι' S' w) (ss.map fun s=>.ptr s (zI s) 0) us
 | [],[],us,_,h=>by
  have:us=[]:=List.eq_nil_of_length_eq_zero (by simpa using h.1.symm)
  subst this;exact .nil
 | s::ss,v::vs,us,hc,h=>by
  simp only[yI,Bool.and_eq_true] at hc
  obtain⟨u,us',rfl,hu,hr⟩:=h.head
  exact .cons (Qi F hc.1 hu) (yb F ss vs us' hc.2 hr)
 | [],_::_,us,hc,_=>by cases hc
 | _::_,[],us,hc,_=>by cases hc
def SS.rows:SS→List Nat
 | .acc s=>[s]
 | .arr s _=>[s]
 | _=>[]
def CS.rows:CS→List Nat
 | .val _=>[]
 | .acc s=>[s]
 | .pair a b=>a.rows++b.rows
theorem Ky {L:Lk} {T':Tab} {ι':Nat→Nat} {S':Addr→Prop} (F:Fm κ ι st.o w L T' ι' S') {v:V} {u:Value} (hv:Rv st.o ι (Stable κ.D st.o ι w) w v u):
  ∀(k:SS) (l r:List TX),jA L st.o v k=some l→(∀s∈k.rows,zL st.o T' L s)→Rv T' ι' S' w (QH k (l++r)).1 u∧(QH k (l++r)).2=r
 | .val t,l,r,h,_=>by
  simp only[jA] at h
  split at h
  ·rename_i x hx
   injection h with h;subst h
   exact⟨.pure ((impV_rv hx hv).mono fun p hp=>⟨F.st p hp,rfl⟩),rfl⟩
  ·cases h
 | .ptr s off,l,r,h,_=>by
  simp only[jA] at h
  split at h
  ·rename_i hc
   injection h with h;subst h
   exact⟨Qi F hc hv,rfl⟩
  ·cases h
 | .acc s,l,r,h,hrow=>by
  simp only[jA] at h
  split at h
  ·rename_i hc
   injection h with h;subst h
   exact⟨QT F hc (hrow s (by simp[SS.rows])) hv,rfl⟩
  ·cases h
 | .arr s sz,l,r,h,hrow=>by
  simp only[jA] at h
  split at h
  ·rename_i hc
   injection h with h;subst h
   exact⟨XD F hc (hrow s (by simp[SS.rows])) hv,rfl⟩
  ·cases h
 | .mp s,l,r,h,_=>by
  simp only[jA] at h
  split at h
  ·rename_i hc
   injection h with h;subst h
   exact⟨Kq F hc hv,rfl⟩
  ·cases h
 | .fn f ss,l,r,h,_=>by
  simp only[jA] at h
  split at h
  ·rename_i f' caps
   split at h
   ·rename_i hc
    obtain⟨rfl,hc⟩:=hc
    injection h with h;subst h
    obtain⟨us,rfl,hl,hh⟩:=hv.fn_
    have:=yb F ss caps us hc ⟨hl,hh⟩
    exact⟨.fn this.1 this.2,rfl⟩
   ·cases h
  ·cases h
theorem yF {L:Lk} {T':Tab} {ι':Nat→Nat} {S':Addr→Prop} (F:Fm κ ι st.o w L T' ι' S'):
  ∀(k:CS) (cs cr:List V) (l r:List TX) (us:List Value),vh L st.o k cs=some (l,cr)→(∀s∈k.rows,zL st.o T' L s)→LR (Rv st.o ι (Stable κ.D st.o ι w) w) cs us→
   LR (Rv T' ι' S' w) (zK k (l++r)).1 (us.take (zK k (l++r)).1.length)∧LR (Rv st.o ι (Stable κ.D st.o ι w) w) cr (us.drop (zK k (l++r)).1.length)∧(zK k (l++r)).2=r
 | .val t,cs,cr,l,r,us,h,_,hr=>by
  simp only[vh] at h
  split at h
  ·rename_i x r1 hx
   injection h with h;injection h with h1 h2;subst h1 h2
   have:=impC_rv t cs r1 x us hx hr
   have e1:(zK (.val t) ([⟨t,x⟩]++r)).1=cellsW t x:=rfl
   rw[e1]
   have hl:(cellsW t x).length=(cellsV t x).length:=by rw[qk,qf]
   have ha:=this.take (cellsV t x).length
   have hb:=this.drop (cellsV t x).length
   rw[List.take_left] at ha
   rw[List.drop_left] at hb
   rw[hl]
   have hp:LR (Rp (Stable κ.D st.o ι w) w) (cellsV t x) (us.take (cellsV t x).length):=lr_pure (fun d hd=>pure_cellsV t x d hd) ha
   exact⟨(cellsW_rp t x _ hp).mono fun d u hd=>.pure (hd.mono fun p hp=>⟨F.st p hp,rfl⟩),hb,rfl⟩
  ·cases h
 | .acc s,cs,cr,l,r,us,h,hrow,hr=>by
  simp only[vh] at h
  split at h
  ·rename_i v r1
   split at h
   ·rename_i hc
    injection h with h;injection h with h1 h2;subst h1 h2
    obtain⟨u,us',rfl,hu,hr'⟩:=hr.head
    exact⟨.cons (QT F hc (hrow s (by simp[CS.rows])) hu) .nil,hr',rfl⟩
   ·cases h
  ·cases h
 | .pair a b,cs,cr,l,r,us,h,hrow,hr=>by
  simp only[vh] at h
  split at h
  ·rename_i l1 r1 h1
   split at h
   ·rename_i l2 r2 h2
    injection h with h;injection h with e1 e2;subst e1 e2
    obtain⟨a1,a2,a3⟩:=yF F a cs r1 l1 (l2++r) us h1 (fun s hs=>hrow s (by simp[CS.rows,hs])) hr
    obtain⟨b1,b2,b3⟩:=yF F b r1 r2 l2 r _ h2 (fun s hs=>hrow s (by simp[CS.rows,hs])) a2
    have e:(zK (.pair a b) (l1++l2++r))=((zK a (l1++(l2++r))).1++(zK b (l2++r)).1,(zK b (l2++r)).2):=by
     simp only[zK,List.append_assoc]
     rw[a3]
    rw[e]
    simp only[List.length_append]
    refine⟨?_,?_,b3⟩
    ·rw[List.take_add]
     exact a1.append b1
    ·rw[←List.drop_drop];exact b2
   ·cases h
  ·cases h
end
end Go.Abs
namespace Go.Abs
open Go.RowKit
set_option linter.unusedVariables false
set_option linter.unusedSimpArgs false
theorem Qx {e:Ty} (ih:∀(cs r:List V) (x:e.I),impC e cs=some (x,r)→cs.length=e.size+r.length):∀(n:Nat) (cs r:List V) (m:List e.I),impN (impC e) n cs=some (m,r)→cs.length=m.length*e.size+r.length
 | 0,cs,r,m,h=>by simp[impN] at h;obtain⟨rfl,rfl⟩:=h;simp
 | n+1,cs,r,m,h=>by
  simp only[impN] at h
  split at h
  ·rename_i x r1 h1
   split at h
   ·rename_i l r2 h2
    simp at h
    obtain⟨rfl,rfl⟩:=h
    have:=ih _ _ _ h1
    have:=Qx ih n _ _ _ h2
    simp only[List.length_cons,Nat.succ_mul]
    omega
   ·cases h
  ·cases h
theorem Qy:∀(t:Ty) (cs r:List V) (x:t.I),impC t cs=some (x,r)→cs.length=t.size+r.length:=by
 intro t
 induction t with
 | int k=>intro cs r x h;simp only[impC] at h;(repeat' split at h)<;>first | (simp at h;obtain⟨rfl,rfl⟩:=h;simp[Ty.size];omega) | cases h
 | bool=>intro cs r x h;simp only[impC] at h;(repeat' split at h)<;>first | (simp at h;obtain⟨rfl,rfl⟩:=h;simp[Ty.size];omega) | cases h
 | str=>intro cs r x h;simp only[impC] at h;(repeat' split at h)<;>first | (simp at h;obtain⟨rfl,rfl⟩:=h;simp[Ty.size];omega) | cases h
 | list e ih=>intro cs r x h;simp only[impC] at h;(repeat' split at h)<;>first | (simp at h;obtain⟨_,rfl⟩:=h;simp[Ty.size];omega) | cases h
 | unit=>grind[impC,Ty.size]
 | pair a b iha ihb=>
  intro cs r x h
  simp only[impC] at h
  split at h
  ·rename_i y r1 hy
   split at h
   ·rename_i z r2 hz
    simp at h
    obtain⟨rfl,rfl⟩:=h
    grind[Ty.size]
   ·cases h
  ·cases h
 | agg t ih=>intro cs r x h;simp only[impC] at h;exact ih _ _ _ h
 | alt t a q iha ihq=>intro cs r x h;simp only[impC] at h;(repeat' split at h)<;>first | (simp at h;obtain⟨_,rfl⟩:=h;simp[Ty.size];omega) | cases h
 | alt1 t a iha=>intro cs r x h;simp only[impC] at h;(repeat' split at h)<;>first | (simp at h;obtain⟨_,rfl⟩:=h;simp[Ty.size];omega) | cases h
 | inil=>intro cs r x h;(simp only[impC] at h<;>grind[impC,Ty.size])
theorem Jr {L:Lk} {T:Tab} {v:V}:∀(k:SS) (l r:List TX),jA L T v k=some l→(QH k (l++r)).2=r
 | .val t,l,r,h=>by
  simp only[jA] at h
  split at h
  ·injection h with h;subst h;rfl
  ·cases h
 | .ptr s off,l,r,h=>by
  simp only[jA] at h
  split at h
  ·injection h with h;subst h;rfl
  ·cases h
 | .acc s,l,r,h=>by
  simp only[jA] at h
  split at h
  ·injection h with h;subst h;rfl
  ·cases h
 | .arr s sz,l,r,h=>by
  simp only[jA] at h
  split at h
  ·injection h with h;subst h;rfl
  ·cases h
 | .mp s,l,r,h=>by
  simp only[jA] at h
  split at h
  ·injection h with h;subst h;rfl
  ·cases h
 | .fn f ss,l,r,h=>by
  simp only[jA] at h
  split at h
  ·split at h
   ·injection h with h;subst h;rfl
   ·cases h
  ·cases h
theorem xC {L:Lk} {T:Tab}:∀(k:CS) (cs cr:List V) (l r:List TX),vh L T k cs=some (l,cr)→(zK k (l++r)).2=r
 | .val t,cs,cr,l,r,h=>by
  simp only[vh] at h
  split at h
  ·injection h with h;injection h with h1 h2;subst h1 h2;rfl
  ·cases h
 | .acc s,cs,cr,l,r,h=>by
  simp only[vh] at h
  split at h
  ·split at h
   ·injection h with h;injection h with h1 h2;subst h1 h2;rfl
   ·cases h
  ·cases h
 | .pair a b,cs,cr,l,r,h=>by
  simp only[vh] at h
  split at h
  ·rename_i l1 r1 h1
   split at h
   ·rename_i l2 r2 h2
    injection h with h;injection h with e1 e2;subst e1 e2
    simp only[zK,List.append_assoc]
    rw[xC a cs r1 l1 (l2++r) h1]
    exact xC b r1 r2 l2 r h2
   ·cases h
  ·cases h
theorem Js {L:Lk} {T:Tab} {s:Nat}:∀(k:OS) (l r:List TX),zz L T s k=some l→(vf k (l++r)).2=r
 | .box ty c,l,r,h=>by
  simp only[zz] at h
  split at h
  ·split at h
   ·split at h
    ·split at h
     ·rename_i hd
      injection h with h;subst h
      exact xC c _ _ _ r hd
     ·cases h
    ·cases h
   ·cases h
  ·cases h
 | .nrow ty e fz nl,l,r,h=>by
  simp only[zz] at h
  split at h
  ·split at h
   ·split at h
    ·split at h
     ·injection h with h;subst h;rfl
     ·cases h
    ·cases h
   ·split at h
    ·split at h
     ·injection h with h;subst h;rfl
     ·cases h
    ·cases h
   ·cases h
  ·split at h
   ·injection h with h;subst h;rfl
   ·cases h
 | .iter,l,r,h=>by
  simp only[zz] at h
  split at h
  ·split at h
   ·injection h with h;subst h;rfl
   ·cases h
  ·cases h
 | .mp e,l,r,h=>by
  simp only[zz] at h
  split at h
  ·split at h
   ·split at h
    ·injection h with h;subst h;rfl
    ·cases h
   ·cases h
  ·cases h
theorem QG {L:Lk} {st:St}:∀(m:List (Nat×SS)) (l r:List TX),QO L st m=some l→(zJ m (l++r)).2=r∧
  ∀t v,(t,v)∈(zJ m (l++r)).1→∃k l1 r1,(t,k)∈m∧jA L st.o (st.get t) k=some l1∧v=(QH k (l1++r1)).1
 | [],l,r,h=>by simp only[QO] at h;injection h with h;subst h;exact⟨rfl,fun t v hv=>by simp[zJ] at hv⟩
 | e::m,l,r,h=>by
  simp only[QO] at h
  split at h
  ·rename_i l1 l2 h1 h2
   injection h with h;subst h
   obtain⟨a1,a2⟩:=QG m l2 r h2
   have e1:(QH e.2 (l1++l2++r)).2=l2++r:=by rw[List.append_assoc];exact Jr e.2 l1 (l2++r) h1
   simp only[zJ,e1]
   refine⟨a1,fun t v hv=>?_⟩
   rcases List.mem_cons.1 hv with hv | hv
   ·injection hv with q1 q2
    subst q1 q2
    exact⟨e.2,l1,l2++r,by simp,h1,by rw[List.append_assoc]⟩
   ·obtain⟨k,l3,r3,b1,b2,b3⟩:=a2 t v hv
    exact⟨k,l3,r3,by simp[b1],b2,b3⟩
  ·cases h
theorem QI {L:Lk} {T:Tab}:∀(m:List (Nat×OS)) (l r:List TX),QP L T m=some l→(zw m (l++r)).map (·.1)=m.map (·.1)∧
  (∀s ob,(s,ob)∈zw m (l++r)→∃k l1 r1,(s,k)∈m∧zz L T s k=some l1∧ob=⟨zI s,(vf k (l1++r1)).1⟩)∧
  ∀s k,(s,k)∈m→∃l1 r1,zz L T s k=some l1∧(s,⟨zI s,(vf k (l1++r1)).1⟩)∈zw m (l++r)
 | [],l,r,h=>by simp only[QP] at h;injection h with h;subst h;exact⟨rfl,fun s ob hv=>by simp[zw] at hv,fun s k hv=>by simp at hv⟩
 | e::m,l,r,h=>by
  simp only[QP] at h
  split at h
  ·rename_i l1 l2 h1 h2
   injection h with h;subst h
   obtain⟨a1,a2,a3⟩:=QI m l2 r h2
   have e1:(vf e.2 (l1++l2++r)).2=l2++r:=by rw[List.append_assoc];exact Js e.2 l1 (l2++r) h1
   simp only[zw,e1]
   refine⟨by simp[a1],fun s ob hv=>?_,fun s k hv=>?_⟩
   ·rcases List.mem_cons.1 hv with hv | hv
    ·injection hv with q1 q2
     subst q1 q2
     exact⟨e.2,l1,l2++r,by simp,h1,by rw[List.append_assoc]⟩
    ·obtain⟨k,l3,r3,b1,b2,b3⟩:=a2 s ob hv
     exact⟨k,l3,r3,by simp[b1],b2,b3⟩
   ·rcases List.mem_cons.1 hv with hv | hv
    ·subst hv
     exact⟨l1,l2++r,h1,by rw[List.append_assoc];simp⟩
    ·obtain⟨l3,r3,b1,b2⟩:=a3 s k hv
     exact⟨l3,r3,b1,by simp[b2]⟩
  ·cases h
theorem aget_mem {α:Type} {d v:α}:∀{l:List (Nat×α)} {q:Nat},(l.map (·.1)).Nodup→(q,v)∈l→aget d l q=v
 | [],q,_,h=>by simp at h
 | (k,x)::r,q,hn,h=>by
  simp only[List.map_cons,List.nodup_cons] at hn
  simp only[aget]
  rcases List.mem_cons.1 h with h | h
  ·grind
  ·rw[if_neg,aget_mem hn.2 h]
   grind
theorem aget_cases {α:Type} {d:α}:∀(l:List (Nat×α)) (q:Nat),aget d l q=d∨∃v,(q,v)∈l∧aget d l q=v
 | [],q=>.inl rfl
 | (k,x)::r,q=>by
  simp only[aget]
  by_cases h:k=q
  ·subst h;simp
  ·rw[if_neg h]
   rcases aget_cases r q with h1 | ⟨v,h1,h2⟩
   ·exact .inl h1
   ·exact .inr ⟨v,by simp[h1],h2⟩
def OS.rows:OS→List Nat
 | .box _ c=>c.rows
 | _=>[]
def Xq:OS→Bool
 | .nrow _ _ _ _=>true
 | _=>false
def Xa (p:Pat):Bool:=(p.sl.flatMap (fun e=>e.2.rows)++p.ob.flatMap (fun e=>e.2.rows)).all fun s=>p.ob.any fun e=>e.1==s&&Xq e.2
def KT (st:St) (p:Pat):Option p.I:=if Xa p=true then KU st p else none
section
variable {κ : Cx} {ι : Nat → Nat} {st : St} {a : Act} {w : World}
theorem Kz {L:Lk} {T':Tab} {ι':Nat→Nat} {S':Addr→Prop} (h:RelI κ ι st a w) (F:Fm κ ι st.o w L T' ι' S') {s:Nat}:
  ∀(k:OS) (l r:List TX),zz L st.o s k=some l→(∀s'∈k.rows,zL st.o T' L s')→
   ObRel T' ι' S' w (ι' s) (vf k (l++r)).1
 | .box ty c,l,r,hd,hrow=>by
  simp only[zz] at hd
  split at hd
  ·rename_i q hq
   split at hd
   ·rename_i ty' cs hk
    split at hd
    ·rename_i hty
     subst hty
     split at hd
     ·rename_i l' hdc
      injection hd with hd;subst hd
      have hob:=h.tr.ob q
      rw[hk] at hob
      obtain⟨arr,fz,b1,b2,b3,b4⟩:=hob
      obtain⟨c1,c2,c3⟩:=yF F c cs [] l' r arr.toList hdc hrow ⟨by grind,b4⟩
      have hlen:(zK c (l'++r)).1.length=arr.size:=by
       have q1:=c1.1
       have q2:=c2.1
       grind
      rw[hlen] at c1
      rw[List.take_of_length_le (by simp)] at c1
      rw[F.io s q hq]
      exact⟨arr,fz,b1,b2,hlen.symm,c1.2⟩
     ·cases hd
    ·cases hd
   ·cases hd
  ·cases hd
 | .nrow ty e fz nl,l,r,hd,_=>by
  simp only[zz] at hd
  split at hd
  ·rename_i q hq
   split at hd
   ·rename_i ty' fz' nl' M hk
    split at hd
    ·rename_i hc
     obtain⟨rfl,rfl,hc⟩:=hc
     split at hd
     ·rename_i he
      obtain⟨e',m⟩:=M
      simp only at he;subst he
      injection hd with hd;subst hd
      have hob:=h.tr.ob q
      rw[hk] at hob
      rw[F.io s q hq]
      show ObRel T' ι' S' w (ι q) (.nrow ty fz nl ⟨e',m⟩)
      rcases hob with hb | ⟨arr,fz1,cap,b1,b2,b3,b4,b5,b6⟩
      ·exact .inl hb
      ·exact .inr ⟨arr,fz1,cap,b1,b2,b3,b4,b5,fun i d u hd hu=>.pure (((b6 i d u hd hu).pure_ (TL.pure_cells hd)).mono fun p hp=>⟨F.st p hp,rfl⟩)⟩
     ·cases hd
    ·cases hd
   ·rename_i ty' sz fz' cs hk
    split at hd
    ·rename_i hc
     obtain⟨rfl,rfl,hc,hne⟩:=hc
     split at hd
     ·rename_i m hm
      injection hd with hd;subst hd
      have hob:=h.tr.ob q
      rw[hk] at hob
      obtain⟨arr,fz1,cap,b1,b2,b3,b4,b5,b6⟩:=hob
      rw[F.io s q hq]
      show ObRel T' ι' S' w (ι q) (.nrow ty fz nl ⟨e,m⟩)
      have hlr:LR (Rv st.o ι (Stable κ.D st.o ι w) w) cs (arr.toList.take cs.length):=⟨by simp;omega,fun i d u hd hu=>by
       grind⟩
      obtain⟨h5,h6⟩:=impN_rv (impC_rv e) _ cs [] m _ hm hlr
      rw[List.append_nil] at h6
      have hlen:cs.length=(⟨e,m⟩:TL).cells.length:=by
       have:=h6.1
       rw[←hlr.1] at this
       exact this.symm
      refine .inr ⟨arr,fz1,cap,b1,fun j hj=>b2 j hj,b3,b4,by grind,fun i d u hd hu=>?_⟩
      have hi:i<cs.length:=by grind
      have:=h6.2 i d u hd (by grind)
      exact .pure ((this.pure_ (TL.pure_cells hd)).mono fun p hp=>⟨F.st p hp,rfl⟩)
     ·cases hd
    ·cases hd
   ·cases hd
  ·split at hd
   ·rename_i hnl
    injection hd with hd;subst hd
    exact .inl ⟨hnl,rfl⟩
   ·cases hd
 | .iter,l,r,hd,_=>by
  simp only[zz] at hd
  split at hd
  ·rename_i q hq
   split at hd
   ·rename_i m pos hk
    injection hd with hd;subst hd
    have hob:=h.tr.ob q
    rw[hk] at hob
    rw[F.io s q hq]
    show ObRel T' ι' S' w (ι q) (.iter m (Int.toNat (pos:Int)))
    rw[Int.toNat_natCast]
    exact hob
   ·cases hd
  ·cases hd
 | .mp e,l,r,hd,_=>by
  simp only[zz] at hd
  split at hd
  ·rename_i q hq
   split at hd
   ·rename_i M hk
    split at hd
    ·rename_i he
     obtain⟨e',m⟩:=M
     simp only at he;subst he
     injection hd with hd;subst hd
     have hob:=h.tr.ob q
     rw[hk] at hob
     rw[F.io s q hq]
     show ObRel T' ι' S' w (ι q) (.mp ⟨e',m⟩)
     obtain⟨es,c,h1,h2,h3⟩:=hob
     exact⟨es,c,h1,h2,fun i p x hp hx=>⟨(h3 i p x hp hx).1,(h3 i p x hp hx).2.mono fun p hp=>⟨F.st p hp,rfl⟩⟩⟩
    ·cases hd
   ·cases hd
  ·cases hd
theorem Jv {L:Lk} {s:Nat}:∀(k:OS) (l r:List TX),zz L st.o s k=some l→(vf k (l++r)).1.live→
   ∃q,qC L s=some q∧st.o.live q∧∀o,(st.o.get q).k.fzAt o→(vf k (l++r)).1.fzAt o
 | .box ty c,l,r,hd,hl=>by
  simp only[zz] at hd
  split at hd
  ·rename_i q hq
   split at hd
   ·rename_i ty' cs hk
    exact⟨q,hq,by simp[Tab.live,hk,OK.live],fun o ho=>by rw[hk] at ho;exact ho.elim⟩
   ·cases hd
  ·cases hd
 | .nrow ty e fz nl,l,r,hd,hl=>by
  simp only[zz] at hd
  split at hd
  ·rename_i q hq
   split at hd
   ·rename_i ty' fz' nl' M hk
    split at hd
    ·rename_i hc
     obtain⟨rfl,rfl,hc⟩:=hc
     split at hd
     ·rename_i he
      obtain⟨e',m⟩:=M
      simp only at he;subst he
      injection hd with hd;subst hd
      refine⟨q,hq,by simp only[Tab.live,hk];exact hl,fun o ho=>?_⟩
      rw[hk] at ho
      cases fz' with
      | false=>exact ho.elim
      | true=>
       simp at hc
       subst hc
       exact ho
     ·cases hd
    ·cases hd
   ·rename_i ty' sz fz' cs hk
    split at hd
    ·rename_i hc
     obtain⟨rfl,rfl,hc,hne⟩:=hc
     split at hd
     ·rename_i m hm
      injection hd with hd;subst hd
      refine⟨q,hq,by simp[Tab.live,hk,OK.live],fun o ho=>?_⟩
      rw[hk] at ho
      cases fz' with
      | false=>exact ho.elim
      | true=>
       simp at hc
       subst hc
       have ho':o<cs.length:=ho
       (show o<m.length*e.size<;>grind[Qx,Qy,List.length_nil])
     ·cases hd
    ·cases hd
   ·cases hd
  ·split at hd
   ·rename_i hnl
    injection hd with hd;subst hd
    exact absurd ⟨hnl,rfl⟩ hl
   ·cases hd
 | .iter,l,r,hd,hl=>by
  simp only[zz] at hd
  split at hd
  ·rename_i q hq
   split at hd
   ·rename_i m pos hk
    exact⟨q,hq,by simp[Tab.live,hk,OK.live],fun o ho=>by rw[hk] at ho;exact ho.elim⟩
   ·cases hd
  ·cases hd
 | .mp e,l,r,hd,hl=>by
  simp only[zz] at hd
  split at hd
  ·rename_i q hq
   split at hd
   ·rename_i M hk
    exact⟨q,hq,by simp[Tab.live,hk,OK.live],fun o ho=>by rw[hk] at ho;exact ho.elim⟩
   ·cases hd
  ·cases hd
end
end Go.Abs
namespace Go.Abs
open Go.RowKit
set_option linter.unusedVariables false
set_option linter.unusedSimpArgs false
section
variable {κ : Cx} {ι : Nat → Nat} {st : St} {a : Act} {w : World}
theorem Vc {base:St} {p:Pat} {l:List TX} (hgv:κ.gv=[]) (hn:base.n=st.n) (hb:∀t,base.get t=.undef∨(base.get t=st.get t∧(base.get t).still=true)) (hro:Xa p=true) (hx:Va st p=some l) (hr:Rel κ st a w):Rel κ (ZQ base p l) a w:=by
 obtain⟨ι,h⟩:=hr
 unfold Va at hx
 split at hx
 case isFalse=>cases hx
 rename_i hok
 simp only[patOk,Bool.and_eq_true,decide_eq_true_eq] at hok
 obtain⟨⟨⟨hns,hg0⟩,hlk⟩,hcov⟩:=hok
 split at hx
 case h_2=>cases hx
 rename_i l1 l2 hsl hol
 injection hx with hx;subst hx
 generalize hL:zd st p=L at *
 obtain⟨hs1,hs2⟩:=QG p.sl l1 l2 hsl
 have hol':=QI p.ob l2 [] hol
 rw[List.append_nil] at hol'
 obtain⟨ho1,ho2,ho3⟩:=hol'
 have hT':(ZQ base p (l1++l2)).o=zw p.ob l2:=by simp only[ZQ,hs1]
 have hnd:((zw p.ob l2).map (·.1)).Nodup:=by grind
 let ι':Nat→Nat:=fun s=>match qC L s with | some q=>ι q | none=>0
 have hι':∀s q,qC L s=some q→ι' s=ι q:=fun s q hq=>by grind
 have hget:∀s k,(s,k)∈p.ob→∃l1 r1,zz L st.o s k=some l1∧Tab.get (zw p.ob l2) s=⟨zI s,(vf k (l1++r1)).1⟩:=fun s k hk=>by
  obtain⟨l3,r3,b1,b2⟩:=ho3 s k hk
  exact⟨l3,r3,b1,aget_mem hnd b2⟩
 have hcase:∀s,Tab.get (zw p.ob l2) s=⟨0,.dead⟩∨∃k l3 r3,(s,k)∈p.ob∧zz L st.o s k=some l3∧Tab.get (zw p.ob l2) s=⟨zI s,(vf k (l3++r3)).1⟩:=fun s=>by
  rcases aget_cases (d:=(⟨0,.dead⟩:Ob)) (zw p.ob l2) s with e | ⟨v,e1,e2⟩
  ·exact .inl e
  grind
 generalize hTT:zw p.ob l2=T' at *
 have hlive:∀s,T'.live s→∃q,qC L s=some q∧st.o.live q∧∀o,(st.o.get q).k.fzAt o→(T'.get s).k.fzAt o:=fun s hs=>by
  grind[Tab.live,OK.live,Jv]
 have hS:∀q,Stable κ.D st.o ι w q→Stable κ.D T' ι' w q:=fun q hq=>by
  refine⟨hq.1,hq.2.1,fun s hs e=>?_⟩
  obtain⟨q',h1,h2,h3⟩:=hlive s hs
  exact h3 _ (hq.2.2 q' h2 (by grind))
 have F:Fm κ ι st.o w L T' ι' (Stable κ.D T' ι' w):=⟨hS,hι',fun s q hq=>by
  have hm:=zG hq
  grind⟩
 have hrowAt:∀s,(∃k,(s,k)∈p.ob∧Xq k=true)→zL st.o T' L s:=fun s ⟨k,hk,hnr⟩=>by
  cases k with
  | nrow ty e fz nl=>
   obtain⟨l3,r3,b1,b2⟩:=hget s _ hk
   unfold zL
   simp only[zz] at b1
   split at b1
   ·rename_i q hq
    split at b1
    ·rename_i ty' fz' nl' M hk'
     split at b1
     ·rename_i hc
      obtain⟨rfl,rfl,hc⟩:=hc
      split at b1
      ·rename_i he
       obtain⟨e',m⟩:=M
       simp only at he;subst he
       injection b1 with b1;subst b1
       refine⟨fun ty2 fz2 nl2 M2 e2=>?_,fun ty2 sz2 fz2 cs2 e2=>by grind⟩
       rw[hk'] at e2
       injection e2 with q1 q2 q3 q4
       subst q1 q2 q3 q4
       exact⟨ty,fz,by rw[b2];rfl⟩
      ·cases b1
     ·cases b1
    ·rename_i ty' sz fz' cs hk'
     split at b1
     ·rename_i hc
      obtain⟨rfl,rfl,hc,hne⟩:=hc
      split at b1
      ·rename_i m hm
       injection b1 with b1;subst b1
       refine⟨fun ty2 fz2 nl2 M2 e2=>(by grind),fun ty2 sz2 fz2 cs2 e2=>?_⟩
       rw[hk'] at e2
       injection e2 with q1 q2 q3 q4
       subst q1 q2 q3 q4
       have hob:=h.tr.ob q
       rw[hk'] at hob
       obtain⟨arr,fz1,cap,c1,c2,c3,c4,c5,c6⟩:=hob
       have hlr:LR (Rv st.o ι (Stable κ.D st.o ι w) w) cs (arr.toList.take cs.length):=⟨by simp;omega,fun i d u hd hu=>by
        grind⟩
       obtain⟨h5,_⟩:=impN_rv (impC_rv e) _ cs [] m _ hm hlr
       exact⟨ty,fz,nl,⟨e,m⟩,by rw[b2];rfl,rfl,h5⟩
      ·cases b1
     ·cases b1
    ·cases b1
   ·rename_i hq
    split at b1
    ·rename_i hnl
     injection b1 with b1;subst b1
     subst hnl
     exact⟨ty,fz,⟨e,[]⟩,b2,rfl⟩
    ·cases b1
  | box _ _=>cases hnr
  | iter=>cases hnr
  | mp _=>cases hnr
 have hro':∀s,s∈p.sl.flatMap (fun e=>e.2.rows)∨s∈p.ob.flatMap (fun e=>e.2.rows)→zL st.o T' L s:=fun s hs=>by
  have:=List.all_eq_true.1 hro s (List.mem_append.2 hs)
  grind
 refine⟨ι',h.dfr,h.sz.trans hn.symm,fun t=>?_,⟨fun s=>?_,fun s s' hs hs' e=>?_,fun s hs=>?_⟩,fun s hs=>?_,h.kept,fun s b hp hg hs=>?_,?_⟩
 ·-- slots
  rw[hT']
  show Rv T' ι' _ w (aget .undef ((zJ p.sl (l1++l2)).1++base.t) t) _
  have key:∀(m:List (Nat×V)),(∀t v,(t,v)∈m→Rv T' ι' (Stable κ.D T' ι' w) w v (a.tmps.getD t undef))→
    Rv T' ι' (Stable κ.D T' ι' w) w (aget .undef (m++base.t) t) (a.tmps.getD t undef):=by
   intro m
   induction m with
   | nil=>
    intro _
    have e0:aget V.undef ([]++base.t) t=base.get t:=rfl
    rw[e0]
    rcases hb t with e | ⟨e,hs⟩
    ·rw[e];exact .undef _
    ·have:=h.tm t
     rw[←e] at this
     exact .pure ((this.pure_ (V.still_pure _ hs)).mono fun p hp=>⟨hS p hp,rfl⟩)
   | cons q r ih=>
    intro hm
    obtain⟨k,v⟩:=q
    simp only[List.cons_append,aget]
    split
    ·grind
    ·exact ih fun t v hv=>hm t v (by simp[hv])
  refine key _ fun t v hv=>?_
  obtain⟨k,l3,r3,b1,b2,rfl⟩:=hs2 t v hv
  exact(Ky F (h.tm t) k l3 r3 b2 fun s hs=>hro' s (.inl (List.mem_flatMap.2 ⟨(t,k),b1,hs⟩))).1
 ·rw[hT']
  rcases hcase s with e | ⟨k,l3,r3,b1,b2,b3⟩
  ·rw[e];trivial
  grind[Kz]
 ·rw[hT'] at hs hs'
  obtain⟨q,h1,h2,_⟩:=hlive s hs
  obtain⟨q',h1',h2',_⟩:=hlive s' hs'
  rw[hι' s q h1,hι' s' q' h1'] at e
  have:=h.tr.inj q q' h2 h2' e
  subst this
  exact(Xm hlk (zG h1) (zG h1')).2 rfl
 ·rw[hT'] at hs
  obtain⟨q,h1,h2,_⟩:=hlive s hs
  rw[hι' s q h1];exact h.tr.lt q h2
 ·rw[hT'] at hs
  obtain⟨q,h1,h2,_⟩:=hlive s hs
  rw[hι' s q h1];exact h.my q h2
 ·rw[hT'] at hs
  obtain⟨q,h1,h2,_⟩:=hlive s hs
  have h3:=κ.hpin s b hp
  obtain⟨e1,e2⟩:=Xl hlk (zG h1) (.inl h3)
  subst e1
  rw[hι' s s h1]
  exact h.pin s b hp e2 h2
 ·rw[hgv];exact .nil
def viewR (st:St) (r:Nat):St:=
 if (st.get r).pure=true then st else
 match view depth st.o (st.get r) with
 | some (x,l)=>{ st with t:=(r,x)::st.t,o:=st.o.freezes l }
 | none=>st
theorem Rel.viewR {r:Nat} (h:Rel κ st a w):Rel κ (Abs.viewR st r) a w:=by
 unfold Abs.viewR
 split
 ·exact h
 split
 ·rename_i x l hv
  obtain⟨ι,h⟩:=h
  have hto:=To.freezes h l
  have h1:=To.rel h hto
  refine⟨ι,h1.dfr,h1.sz,fun t=>?_,h1.tr,h1.my,h1.kept,h1.pin,h1.gh⟩
  show Rv _ ι _ w (aget .undef ((r,x)::st.t) t) _
  simp only[aget]
  split
  ·rename_i e;subst e
   refine .pure (view_ok h1 (T:=st.o) depth _ x l _ hv (fun s hs=>?_) (h1.tm r))
   simp_all[get,Tab.get_freezes,if_pos]
  ·exact h1.tm t
 ·exact h
theorem jo {r t:Nat} (h:(st.get t).pure=true):(Abs.viewR st r).get t=st.get t∧(Abs.viewR st r).n=st.n:=by
 unfold Abs.viewR
 split
 ·grind
 ·rename_i hp
  split
  ·refine⟨?_,rfl⟩
   show aget .undef ((r,_)::st.t) t=_
   simp only[aget]
   rw[if_neg]
   ·rfl
   grind
  grind
def viewB (st:St) (q:Nat):St:=
 match (st.o.get q).k with
 | .box ty cs=>if pureL cs=true then st else
  match mapV (view depth st.o) cs with
  | some (xs,l)=>{ st with o:=(st.o.freezes l).put q ⟨(st.o.get q).gen,.box ty xs⟩ }
  | none=>st
 | _=>st
theorem Rel.viewB {q:Nat} (h:Rel κ st a w):Rel κ (Abs.viewB st q) a w:=by
 unfold Abs.viewB
 split
 ·rename_i ty cs hk
  split
  ·exact h
  split
  ·rename_i xs l hm
   obtain⟨ι,h⟩:=h
   have hto:=To.freezes h l
   have h1:=To.rel h hto
   have hfz:∀s∈l,((st.o.freezes l).get s).k=(st.o.get s).k.freeze∧((st.o.freezes l).get s).gen=(st.o.get s).gen:=fun s hs=>by
    rw[Tab.get_freezes,if_pos hs];exact⟨rfl,rfl⟩
   have hk1:(st.o.freezes l).get q=⟨(st.o.get q).gen,.box ty cs⟩:=by
    rw[Tab.get_freezes]
    split
    ·rw[hk];rfl
    ·cases hq:st.o.get q;rw[hq] at hk;simp at hk;subst hk;rfl
   generalize hT1:st.o.freezes l=T1 at *
   have hl1:T1.live q:=by simp[Tab.live,hk1,OK.live]
   have hob:=h1.tr.ob q
   have hob':ObRel T1 ι (Stable κ.D T1 ι w) w (ι q) (.box ty cs):=by
    have e:(({ st with o:=T1 }:St).o.get q).k=.box ty cs:=by show (T1.get q).k=_;rw[hk1]
    rw[e] at hob;exact hob
   obtain⟨arr,fz,b1,b2,b3,b4⟩:=hob'
   have hm2:=zq (R':=Rp (Stable κ.D T1 ι w) w) cs xs l arr.toList hm ⟨by simpa using b3.symm,b4⟩ fun v x l'' u hmv hv hs hu=>
    view_ok (st:={ st with o:=T1 }) h1 depth v x l'' u hv (fun s hs'=>hfz s (hs s hs')) hu
   have hto2:To κ T1 ι w (T1.put q ⟨(st.o.get q).gen,.box ty xs⟩) ι w:=by
    refine To.turn (st:={ st with o:=T1 }) h1 q hl1 ⟨(st.o.get q).gen,.box ty xs⟩ rfl rfl rfl rfl (fun _ _=>rfl) (by show (T1.get q).gen≤_;rw[hk1];exact Nat.le_refl _)
     (fun p _ hp=>by have hp':(T1.get q).k.fzAt p.off:=hp;rw[hk1] at hp';exact hp'.elim) (fun _ _ _ _ e=>by cases e) (fun T' ι' H=>?_) (hsh:=.same rfl)
    exact⟨arr,fz,b1,b2,by rw[b3];exact(kR cs xs l hm).symm,fun i d u hd hu=>.pure ((hm2.2 i d u hd hu).mono fun p hp=>H.st p hp)⟩
   exact⟨ι,To.rel (st:={ st with o:=T1 }) h1 hto2⟩
  ·exact h
 ·exact h
theorem viewB_get {q t:Nat}:(Abs.viewB st q).get t=st.get t∧(Abs.viewB st q).n=st.n:=by
 unfold Abs.viewB
 split
 ·split
  ·grind
  ·split<;>exact⟨rfl,rfl⟩
 grind
def Jg (st:St) (e:Nat×SS):St:=match e.2 with
 | .val _=>Abs.viewR st e.1
 | _=>st
def kK:List (Nat×SS)→St→St
 | [],st=>st
 | e::r,st=>kK r (Jg st e)
def Jf (L:Lk) (st:St) (e:Nat×OS):St:=match e.2 with
 | .box _ c=>if c.rows.isEmpty then(match qC L e.1 with
  | some q=>Abs.viewB st q
  | none=>st) else st
 | _=>st
def xO (L:Lk):List (Nat×OS)→St→St
 | [],st=>st
 | e::r,st=>xO L r (Jf L st e)
def Vm (st:St) (p:Pat):St:=kK p.sl (xO (zd st p) p.ob st)
theorem Kf (st:St) (e:Nat×SS):(Rel κ st a w→Rel κ (Jg st e) a w)∧(Jg st e).n=st.n∧∀t,(st.get t).pure=true→(Jg st e).get t=st.get t:=by
 unfold Jg
 split
 ·(refine⟨fun h=>h.viewR,?_,fun t ht=>(jo ht).1⟩<;>grind[jo,Abs.viewR])
 grind
theorem Qj:∀(m:List (Nat×SS)) (st:St),(Rel κ st a w→Rel κ (kK m st) a w)∧(kK m st).n=st.n∧∀t,(st.get t).pure=true→(kK m st).get t=st.get t
 | [],st=>⟨id,rfl,fun _ _=>rfl⟩
 | e::r,st=>by
  obtain⟨h1,h2,h3⟩:=Qj r (Jg st e)
  obtain⟨a1,a2,a3⟩:=Kf (κ:=κ) (a:=a) (w:=w) st e
  simp only[kK]
  exact⟨fun h=>h1 (a1 h),h2.trans a2,fun t ht=>by rw[h3 t (by rw[a3 t ht];exact ht),a3 t ht]⟩
theorem Ke (L:Lk) (st:St) (e:Nat×OS):(Rel κ st a w→Rel κ (Jf L st e) a w)∧(Jf L st e).n=st.n∧∀t,(Jf L st e).get t=st.get t:=by
 unfold Jf
 split
 ·split
  ·split
   ·exact⟨fun h=>h.viewB,(viewB_get (t:=0)).2,fun t=>viewB_get.1⟩
   grind
  grind
 grind
theorem Qk {L:Lk}:∀(m:List (Nat×OS)) (st:St),(Rel κ st a w→Rel κ (xO L m st) a w)∧(xO L m st).n=st.n∧∀t,(xO L m st).get t=st.get t
 | [],st=>⟨id,rfl,fun _=>rfl⟩
 | e::r,st=>by
  obtain⟨h1,h2,h3⟩:=Qk (L:=L) r (Jf L st e)
  obtain⟨a1,a2,a3⟩:=Ke (κ:=κ) (a:=a) (w:=w) L st e
  simp only[xO]
  exact⟨fun h=>h1 (a1 h),h2.trans a2,fun t=>by rw[h3 t,a3 t]⟩
def decP (st:St) (p:Pat):Option p.I:=KT (Vm st p) p
theorem canon {base:St} {p:Pat} {x:p.I} (hgv:κ.gv=[]) (hn:base.n=st.n) (hb:∀t,base.get t=.undef∨(base.get t=st.get t∧(base.get t).still=true)) (hx:decP st p=some x) (hr:Rel κ st a w):Rel κ (patS base p x) a w:=by
 unfold decP KT at hx
 split at hx
 case isFalse=>cases hx
 rename_i hro
 unfold KU at hx
 split at hx
 case h_2=>cases hx
 rename_i l hl
 have hp:=jb _ _ _ hx
 unfold patS
 rw[hp]
 obtain⟨a1,a2,a3⟩:=Qk (κ:=κ) (a:=a) (w:=w) (L:=zd st p) p.ob st
 obtain⟨b1,b2,b3⟩:=Qj (κ:=κ) (a:=a) (w:=w) p.sl (xO (zd st p) p.ob st)
 grind[Vc,Vm,xO,zd,get,pure,V.still_pure,kK]
end
end Go.Abs
namespace Go.Abs
open Go.RowKit
set_option linter.unusedVariables false
set_option linter.unusedSimpArgs false
def selim {α β γ:Type} (f:α→γ) (g:β→γ) (r:α⊕β):γ:=match r with
 | .inl a=>f a
 | .inr b=>g b
def cnd {α:Type} (b:Bool) (x y:α):α:=bif b then x else y
def obind {α β:Type} (m:Option α) (f:α→Option β):Option β:=m.bind f
def omap {α β:Type} (f:α→β) (m:Option α):Option β:=m.map f
def loopN {σ ρ:Type}:Nat→(σ→Option (σ⊕ρ))→σ→Option ρ
 | 0,_,_=>none
 | n+1,f,x=>match f x with
  | some (.inl y)=>loopN n f y
  | some (.inr r)=>some r
  | none=>none
inductive Tr (α:Type):Type 1 where
 | ret (a:α)
 | fail
 | ite (b:Bool) (x y:Tr α)
 | ob {β:Type} (m:Option β) (f:β→Tr α)
 | sm {β γ:Type} (s:β⊕γ) (f:β→Tr α) (g:γ→Tr α)
def Tr.bind {α β:Type} (f:α→Tr β):Tr α→Tr β
 | .ret a=>f a
 | .fail=>.fail
 | .ite b x y=>.ite b (x.bind f) (y.bind f)
 | .ob m g=>.ob m fun b=>(g b).bind f
 | .sm s g h=>.sm s (fun b=>(g b).bind f) fun c=>(h c).bind f
def Tr.run {α:Type}:Tr α→Option α
 | .ret a=>some a
 | .fail=>none
 | .ite b x y=>bif b then x.run else y.run
 | .ob m g=>m.bind fun b=>(g b).run
 | .sm s g h=>match s with
  | .inl b=>(g b).run
  | .inr c=>(h c).run
def Tr.elim {α R:Type} (k:α→Option R):Tr α→Option R
 | .ret a=>k a
 | .fail=>none
 | .ite b x y=>cnd b (x.elim k) (y.elim k)
 | .ob m g=>obind m fun b=>(g b).elim k
 | .sm s g h=>selim (fun b=>(g b).elim k) (fun c=>(h c).elim k) s
def Tr.of {α:Type}:Option α→Tr α
 | some a=>.ret a
 | none=>.fail
def Tr.need {α:Type} (b:Bool) (x:Tr α):Tr α:=.ite b x .fail
def Tr.needs {α:Type}:List Bool→Tr α→Tr α
 | [],x=>x
 | b::r,x=>.need b (Tr.needs r x)
theorem Tr.run_bind {α β:Type} (f:α→Tr β):∀x:Tr α,(x.bind f).run=x.run.bind fun a=>(f a).run
 | .ret a=>rfl
 | .fail=>rfl
 | .ite b x y=>by cases b<;>simp[Tr.bind,Tr.run,run_bind f x,run_bind f y]
 | .ob m g=>by
  cases m with
  | none=>rfl
  | some b=>simp only[Tr.bind,Tr.run,Option.bind_some];exact run_bind f (g b)
 | .sm s g h=>by
  cases s with
  | inl b=>simp only[Tr.bind,Tr.run];exact run_bind f (g b)
  | inr c=>simp only[Tr.bind,Tr.run];exact run_bind f (h c)
theorem Tr.run_of {α:Type} (o:Option α):(Tr.of o).run=o:=by cases o<;>rfl
theorem Tr.run_need {α:Type} (b:Bool) (x:Tr α):(Tr.need b x).run=if b=true then x.run else none:=by cases b<;>rfl
theorem Tr.run_needs {α:Type} {r:α} {x:Tr α}:∀{l:List Bool},(Tr.needs l x).run=some r→l.all id=true∧x.run=some r
 | [],h=>⟨rfl,h⟩
 | b::l,h=>by
  simp only[Tr.needs,Tr.run_need] at h
  split at h
  ·rename_i hb
   obtain⟨h1,h2⟩:=run_needs h
   grind
  ·cases h
theorem Tr.elim_run {α R:Type} (k:α→Option R) {r:R}:∀x:Tr α,x.elim k=some r→∃a,x.run=some a∧k a=some r
 | .ret a,h=>⟨a,rfl,h⟩
 | .fail,h=>by cases h
 | .ite b x y,h=>by
  cases b
  ·simp only[Tr.elim,cnd,cond] at h;exact elim_run k y h
  ·simp only[Tr.elim,cnd,cond] at h;exact elim_run k x h
 | .ob m g,h=>by
  cases m with
  | none=>cases h
  | some b=>simp only[Tr.elim,obind,Option.bind_some] at h;simp only[Tr.run,Option.bind_some];exact elim_run k (g b) h
 | .sm s g f,h=>by
  cases s with
  | inl b=>simp only[Tr.elim,selim] at h;simp only[Tr.run];exact elim_run k (g b) h
  | inr c=>simp only[Tr.elim,selim] at h;simp only[Tr.run];exact elim_run k (f c) h
abbrev Wr:=Option (Nat×Ob)
def cutOk (l h:Option Int) (len:Nat):Bool:=
 match l,h with
 | none,none=>true
 | none,some h=>decide (0≤h)&&decide (h≤(len:Int))
 | some l,none=>decide (0≤l)&&decide (l≤(len:Int))
 | some l,some h=>decide (0≤l)&&decide (l≤h)&&decide (h≤(len:Int))
theorem cutOk_ok {l h:Option Int} {len:Nat} (hc:cutOk l h len=true):loOk l=true∧loOk h=true∧loOf 0 l≤loOf len h∧loOf len h≤len:=by
 (unfold cutOk at hc<;>grind[cutOk,loOk,loOf])
def eqFieldsB (P:Program):List Field→List V→List V→Option Bool
 | [],[],[]=>some true
 | [f],[x],[y]=>eqCell P f.type x y
 | f::fs,x::xs,y::ys=>match eqCell P f.type x y,eqFieldsB P fs xs ys with
  | some a,some b=>some (a&&b)
  | _,_=>none
 | _,_,_=>none
theorem eqFieldsB_ok {P:Program}:∀{l:List Field} {xs ys:List V} {r:Bool},eqFieldsB P l xs ys=some r→eqFields P l xs ys=some r
 | [],[],[],r,h=>h
 | [f],[x],[y],r,h=>by
  simp only[eqFieldsB] at h
  simp only[eqFields,h]
  cases r<;>rfl
 | f::g::fs,x::xs,y::ys,r,h=>by
  simp only[eqFieldsB] at h
  split at h
  ·rename_i a b h1 h2
   injection h with h;subst h
   rw[eqFields]
   simp only[h1,eqFieldsB_ok h2]
   cases a<;>rfl
  ·cases h
 | [f],x::x'::xs,y::ys,r,h=>by
  simp only[eqFieldsB] at h
  split at h
  ·rename_i a b h1 h2
   cases ys<;>cases h2
  ·cases h
 | [f],[x],y::y'::ys,r,h=>by
  simp only[eqFieldsB] at h
  split at h
  ·rename_i a b h1 h2
   cases h2
  ·cases h
 | [],_::_,_,r,h=>by cases h
 | [],[],_::_,r,h=>by cases h
 | _::_,[],_,r,h=>by simp[eqFieldsB] at h
 | _::_,_::_,[],r,h=>by simp[eqFieldsB] at h
def eqAgg (P:Program) (t:Nat) (a b:List V):Option Bool:=
 match P.underlying t with
 | some (.struct fs)=>if flatFields P fs.toList 0=true∧P.stoodInHeld t=false∧P.eqGuardType P.depth t=false then eqFieldsB P fs.toList a b else none
 | _=>none
theorem eqAgg_ok {P:Program} {t:Nat} {c:Bool} {a b:List V} {r:Bool} (h:eqAgg P t a b=some r):eqNil P t c (.agg a) (.agg b)=some r:=by
 unfold eqAgg at h
 split at h
 ·simp_all[eqNil,eqStruct,if_pos,eqFieldsB_ok]
 ·cases h
def jN:List V→Option (List Int)
 | []=>some []
 | .int .u8 n::r=>match jN r with
  | some l=>some (n::l)
  | none=>none
 | _=>none
def bytesI (l:List Int):List UInt8:=l.map fun n=>UInt8.ofNat n.toNat
theorem jt:∀(xs:List V) (l:List Int),jN xs=some l→l.all (fun n=>decide (0≤n)&&decide (n<256))=true→qI xs=some (bytesI l)
 | [],l,h,_=>by simp[jN] at h;subst h;rfl
 | x::r,l,h,ha=>by
  unfold jN at h
  split at h
  ·rename_i e;cases e
  ·rename_i n r' e
   injection e with e1 e2;subst e1 e2
   split at h
   ·rename_i l' hl'
    injection h with h;subst h
    simp only[List.all_cons,Bool.and_eq_true,decide_eq_true_eq] at ha
    rw[qI,if_pos ha.1,jt r l' hl' ha.2]
    rfl
   ·cases h
  ·cases h
def u8T (L:TL):Option (List Int):=match L with
 | ⟨.int .u8,l⟩=>some l
 | _=>none
theorem JZ {L:TL} {l:List Int} (h:u8T L=some l):L=⟨.int .u8,l⟩:=by
 (unfold u8T at h<;>grind[u8T])
theorem jM:∀l:List Int,jN ((⟨.int .u8,l⟩:TL).cells)=some l
 | []=>rfl
 | x::r=>by
  have e:(⟨.int .u8,x::r⟩:TL).cells=.int .u8 x::(⟨.int .u8,r⟩:TL).cells:=rfl
  rw[e]
  simp only[jN,jM r]
def KV (P:Program) (st:St) (src dst:Nat) (x:V):Option (List Int):=match x with
 | .own s g off n=>match P.underlying src with
  | some (.slice e)=>match P.underlying dst with
   | some .string=>if (P.underlying e).any (fun d=>d matches .int .u8)=true then(match qM st.o 1 (.own s g off n) with
    | some (_,xs)=>jN xs
    | none=>none) else none
   | _=>none
  | _=>none
 | .lst L=>match P.underlying src with
  | some (.slice e)=>match P.underlying dst with
   | some .string=>if (P.underlying e).any (fun d=>d matches .int .u8)=true then u8T L else none
   | _=>none
  | _=>none
 | .acc s g=>match P.underlying src with
  | some (.slice e)=>match P.underlying dst with
   | some .string=>if (P.underlying e).any (fun d=>d matches .int .u8)=true then(if (st.o.get s).gen=g then(match (st.o.get s).k with
     | .nrow _ _ _ L=>u8T L
     | _=>none) else none) else none
   | _=>none
  | _=>none
 | _=>none
def siT:(t:Ty)→t.I→Tr V
 | .alt t a r,x=>.sm x (fun y=>.ret (.ifc t (vOf a (cellsW a y)))) fun z=>siT r z
 | .alt1 t a,x=>.ret (.ifc t (vOf a (cellsW a x)))
 | .inil,_=>.ret .inil
 | _,_=>.ret .undef
theorem xZ:∀(t:Ty) (x:t.I),(siT t x).run=some (J7 t x)
 | .alt t a r,.inl y=>rfl
 | .alt t a r,.inr z=>xZ r z
 | .alt1 _ _,_ | .inil,_ | .int _,_ | .bool,_ | .str,_ | .list _,_ | .unit,_ | .pair _ _,_ | .agg _,_=>rfl
def aopT (P:Program) (st:St) (o:Oper):Tr (V×Wr):=
 match o.op with
 | .pick c a b=>match st.eval c with
  | .bs t=>.ite t (.ret (st.eval a,none)) (.ret (st.eval b,none))
  | _=>.of (aop P st o)
 | .binOp op t x y _=>match op,conB (st.eval x),conB (st.eval y) with
  | .quo,.int k m,.int k' n=>if k=k' then .need (!decide (n=0)) (.ret (.int k (wr k (m.tdiv n)),none)) else .fail
  | .rem,.int k m,.int k' n=>if k=k' then .need (!decide (n=0)) (.ret (.int k (m.tmod n),none)) else .fail
  | .shl,.int k m,.int k' n=>.need (!decide (n<0)) (.ret (.int k (wr k (m*2 ^ (min n.toNat k.bits))),none))
  | .shr,.int k m,.int k' n=>.need (!decide (n<0)) (.ret (.int k (m.fdiv (2 ^ (min n.toNat k.bits))),none))
  | .add,.str a,.str b=>.need (decide (a.length+b.length≤9223372036854775807)) (.ret (.str (a++b),none))
  | .eql,.agg a,.agg b=>match eqAgg P t a b with | some r=>.ret (.bs r,none) | none=>.fail
  | .neq,.agg a,.agg b=>match eqAgg P t a b with | some r=>.ret (.bs (!r),none) | none=>.fail
  | _,_,_=>.of (aop P st o)
 | .indexAddr t x ix=>match st.eval x,st.eval ix with
  | .lst L,.int _ i=>match P.underlying t with
   | some (.slice e)=>match P.info? e with
    | some inf=>if L.e.size=inf.size then .need (decide (0≤i)&&decide (i<L.l.length)) (.ret (.eref ⟨L.e,L.l.getD i.toNat L.e.dflt⟩ 0,none)) else .fail
    | none=>.fail
   | _=>.fail
  | .acc s g,.int _ i=>match P.underlying t with
   | some (.slice e)=>match P.info? e with
    | some inf=>if (st.o.get s).gen=g then(match (st.o.get s).k with
     | .nrow _ _ _ L=>if L.e.size=inf.size then .need (decide (0≤i)&&decide (i<L.l.length)) (.ret (.eptr s g inf.size i.toNat 0,none)) else .fail
     | _=>.fail) else .fail
    | none=>.fail
   | _=>.fail
  | .eptr s g sz 0 0,.int _ i=>match P.underlying t with
   | some (.array len e)=>match P.info? e with
    | some inf=>if Xr (.eptr s g sz 0 0) inf.size len=true then(if (st.o.get s).gen=g then(match (st.o.get s).k with
     | .nrow _ _ _ L=>if L.e.size=inf.size then .need (decide (0≤i)&&decide (i<L.l.length)&&decide (i<len)) (.ret (.eptr s g inf.size i.toNat 0,none)) else .fail
     | _=>.fail) else .fail) else .of (aop P st o)
    | none=>.of (aop P st o)
   | _=>.of (aop P st o)
  | _,_=>.of (aop P st o)
 | .index t x ix=>match st.eval x,st.eval ix with
  | .str s,.int k i=>match P.underlying t with
   | some .string=>.need (decide (0≤i)&&decide (i<s.length)) (.ret (.int .u8 (s.getD i.toNat 0).toNat,none))
   | _=>.fail
  | _,_=>.of (aop P st o)
 | .slice t x lo hi none=>match bndT (lo.map st.eval),bndT (hi.map st.eval) with
  | some l,some h=>match st.eval x with
   | .str s=>match P.underlying t with
    | some .string=>.need (cutOk l h s.length) (.ret (.str ((s.take (loOf s.length h)).drop (loOf 0 l)),none))
    | _=>.fail
   | .lst L=>match P.underlying t with
    | some (.slice e)=>match P.info? e with
     | some inf=>if L.e.size=inf.size then .need (cutOk l h L.l.length) (.ret (.lst ⟨L.e,(L.l.take (loOf L.l.length h)).drop (loOf 0 l)⟩,none)) else .fail
     | none=>.fail
    | _=>.fail
   | x=>match qO P st.o t x (lo.map st.eval) (hi.map st.eval) with
    | some r=>.needs r.1 (.ret (r.2,none))
    | none=>.of (aop P st o)
  | _,_=>.fail
 | .next it true=>match st.eval it with
  | .ptr s g 0=>if (st.o.get s).gen=g then(match (st.o.get s).k with
   | .iter l pos=>.ite (decide (pos<l.length))
     (.ret (.tup [.bool true,.int .i64 pos,.int .i32 (Utf8.decode ⟨⟨l⟩⟩ pos).1],some (s,⟨g,.iter l (pos+(Utf8.decode ⟨⟨l⟩⟩ pos).2)⟩)))
     (.ret (.tup [.bool false],none))
   | _=>.fail) else .fail
  | _=>.fail
 | .call ⟨.builtin .append,args,ats⟩=>match args.toList,ats.toList,o.dst with
  | [s,x],[t,tx],some d=>if isSym (st.eval s) (unNl (st.eval x))=true then(match P.underlying t,P.underlying tx with
   | some (.slice et),some dx=>match zeroC P et,P.info? et with
    | some _,some i=>if isSrcD dx=true∧0<i.size∧0<i.bytes then
      match st.eval s with
      | .acc q g=>if (st.o.get q).gen=g then(match (st.o.get q).k with
       | .nrow ty fz nl L=>if ty=et∧L.e.size=i.size then(match symSrc st.o L.e (unNl (st.eval x)) with
        | some l=>.need (decide ((L.l.length+l.length)*i.bytes≤140737488355328)) (.ret (.acc q (g+1),some (q,⟨g+1,.nrow ty fz nl ⟨L.e,L.l++l⟩⟩)))
        | none=>.fail) else .fail
       | _=>.fail) else .fail
      | .snil | .sz=>match xK st.o (unNl (st.eval x)) with
       | some L=>if L.e.size=i.size then .need (decide (L.l.length*i.bytes≤140737488355328)) (.ret (.acc d ((st.o.get d).gen+1),some (d,⟨(st.o.get d).gen+1,.nrow et false true L⟩))) else .fail
       | _=>.fail
      | _=>.fail
     else .fail
    | _,_=>.fail
   | _,_=>.fail) else if KR (st.eval s) (unNl (st.eval x))=true then(match Jh P st.o t tx (st.eval s) (unNl (st.eval x)) with
    | some r=>.need (decide (r.2.2.2.2.2.l.length*r.2.2.2.1≤140737488355328)) (.ret (.acc r.1 (r.2.1+2),some (r.1,⟨r.2.1+2,.nrow r.2.2.1 false false r.2.2.2.2.2⟩)))
    | none=>.fail) else if KS (st.eval s)=true then(match JC P st.o t tx (st.eval s) (unNl (st.eval x)) with
    | some r=>.need (decide (r.2.2.2.2.1≤r.2.2.2.2.2.1.l.length)) (.ret (.nwin r.1 (r.2.1+1) 0 r.2.2.2.2.1,some (r.1,⟨r.2.1+1,.nrow r.2.2.1.1 false r.2.2.1.2 r.2.2.2.2.2.2⟩)))
    | none=>.fail) else .of (aop P st o)
  | _,_,_=>.of (aop P st o)
 | .typeAssert x xt asserted ok=>match st.eval x with
  | .si X=>(siT X.e X.x).bind fun v=>.of ((zZ P asserted ok v).map fun v=>(v,none))
  | _=>.of (aop P st o)
 | .convert src dst x=>match o.dst with
  | some d=>match KV P st src dst (st.eval x) with
   | some l=>.need (l.all fun n=>decide (0≤n)&&decide (n<256)) (.ret (.str (bytesI l),none))
   | none=>.of (aop P st o)
  | none=>.of (aop P st o)
 | _=>.of (aop P st o)
theorem ite_some {α:Type} {b:Bool} {x:Tr α} {r:α} (h:(Tr.need b x).run=some r):b=true∧x.run=some r:=by
 grind[Tr.run_need]
theorem aopT_run {P:Program} {st:St} {o:Oper} {r:V×Wr} (h:(aopT P st o).run=some r):aop P st o=some r:=by
 obtain⟨dst,op,type,pos,after,guard⟩:=o
 unfold aopT at h
 simp only at h
 split at h
 ·-- pick
  rename_i c a b
  split at h
  ·rename_i t ht
   simp only[aop,ht]
   cases t<;>exact h
  ·rwa [Tr.run_of] at h
 ·-- binOp
  rename_i bo t x y yt
  split at h
  ·rename_i k m k' n hx hy
   split at h
   ·rename_i hk
    obtain⟨hb,h⟩:=ite_some h
    subst hk
    simp only[Bool.not_eq_true',decide_eq_false_iff_not] at hb
    simp only[aop,hx,hy,aBin,intBin,if_true,if_neg hb]
    exact h
   ·cases h
  ·rename_i k m k' n hx hy
   split at h
   ·rename_i hk
    obtain⟨hb,h⟩:=ite_some h
    subst hk
    simp only[Bool.not_eq_true',decide_eq_false_iff_not] at hb
    simp only[aop,hx,hy,aBin,intBin,if_true,if_neg hb]
    exact h
   ·cases h
  ·rename_i k m k' n hx hy
   obtain⟨hb,h⟩:=ite_some h
   simp only[Bool.not_eq_true',decide_eq_false_iff_not] at hb
   simp only[aop,hx,hy,aBin,if_neg hb]
   exact h
  ·rename_i k m k' n hx hy
   obtain⟨hb,h⟩:=ite_some h
   simp only[Bool.not_eq_true',decide_eq_false_iff_not] at hb
   simp only[aop,hx,hy,aBin,if_neg hb]
   exact h
  ·rename_i a b hx hy
   obtain⟨hb,h⟩:=ite_some h
   simp only[decide_eq_true_eq] at hb
   simp only[aop,hx,hy,aBin,strBin,if_pos hb]
   exact h
  ·rename_i a b hx hy
   split at h
   ·rename_i r hr
    simp only[aop,hx,hy,aBin,eqAgg_ok hr]
    exact h
   ·cases h
  ·rename_i a b hx hy
   split at h
   ·rename_i r hr
    simp only[aop,hx,hy,aBin,eqAgg_ok hr]
    exact h
   ·cases h
  ·rwa [Tr.run_of] at h
 ·-- indexAddr
  rename_i t x ix
  split at h
  ·rename_i L k i hx hi
   split at h
   ·rename_i e ht
    split at h
    ·rename_i inf hinf
     split at h
     ·rename_i hs
      obtain⟨hb,h⟩:=ite_some h
      simp only[Bool.and_eq_true,decide_eq_true_eq] at hb
      simp only[aop,hx,hi,aIndexAddr,ht,hinf,if_pos hs,if_pos hb]
      exact h
     ·cases h
    ·cases h
   ·cases h
  ·rename_i s g k i hx hi
   split at h
   ·rename_i e ht
    split at h
    ·rename_i inf hinf
     split at h
     ·rename_i hg
      split at h
      ·rename_i ty fz nl L hk
       split at h
       ·rename_i hs
        obtain⟨hb,h⟩:=ite_some h
        simp only[Bool.and_eq_true,decide_eq_true_eq] at hb
        simp only[aop,hx,hi,aIndexAddr,ht,hinf,if_pos hg,hk,if_pos hs,if_pos hb]
        exact h
       ·cases h
      ·cases h
     ·cases h
    ·cases h
   ·cases h
  ·rename_i s g sz k i hx hi
   split at h
   ·rename_i len e ht
    split at h
    ·rename_i inf hinf
     split at h
     ·rename_i hA
      split at h
      ·rename_i hg
       split at h
       ·rename_i ty fz nl L hk
        split at h
        ·rename_i hs
         obtain⟨hb,h⟩:=ite_some h
         simp only[Bool.and_eq_true,decide_eq_true_eq] at hb
         simp only[aop,hx,hi,aIndexAddr,ht,hinf,if_pos hA,yO,if_pos hg,hk,if_pos (⟨hs,hb.1.1,hb.1.2,hb.2⟩:L.e.size=inf.size∧0≤i∧i<L.l.length∧i<len)]
         exact h
        ·cases h
       ·cases h
      ·cases h
     ·rwa [Tr.run_of] at h
    ·rwa [Tr.run_of] at h
   ·rwa [Tr.run_of] at h
  ·rwa [Tr.run_of] at h
 ·-- index
  rename_i t x ix
  split at h
  ·rename_i s k i hx hi
   split at h
   ·rename_i ht
    obtain⟨hb,h⟩:=ite_some h
    simp only[Bool.and_eq_true,decide_eq_true_eq] at hb
    have hlt:i.toNat<s.length:=by omega
    simp only[aop,hx,hi,aIndex,ht,if_pos hb.1,List.getElem?_eq_getElem hlt]
    have e:s.getD i.toNat 0=s[i.toNat]:=by simp[hlt]
    rw[e] at h
    exact h
   ·cases h
  ·rwa [Tr.run_of] at h
 ·-- slice
  rename_i t x lo hi
  split at h
  ·rename_i l hh hl hhh
   split at h
   ·rename_i s hx
    split at h
    ·rename_i ht
     obtain⟨hb,h⟩:=ite_some h
     obtain⟨b1,b2,b3,b4⟩:=cutOk_ok hb
     have e0:(if (lo.isNone&&hi.isNone)=true then jl P st.o t (V.str s) else none)=none:=by
      grind[jl]
     simp only[aop,hx,e0,aSlice,ht,bndT_ok hl b1 (d:=0),bndT_ok hhh b2 (d:=s.length),if_pos (And.intro b3 b4)]
     exact h
    ·cases h
   ·rename_i L hx
    split at h
    ·rename_i e ht
     split at h
     ·rename_i inf hinf
      split at h
      ·rename_i hs
       obtain⟨hb,h⟩:=ite_some h
       obtain⟨b1,b2,b3,b4⟩:=cutOk_ok hb
       have e0:(if (lo.isNone&&hi.isNone)=true then jl P st.o t (V.lst L) else none)=none:=by
        grind[jl]
       simp only[aop,hx,e0,aSlice,ht,hinf,if_pos hs,bndT_ok hl b1 (d:=0),bndT_ok hhh b2 (d:=L.l.length),if_pos (And.intro b3 b4)]
       exact h
      ·cases h
     ·cases h
    ·cases h
   ·split at h
    ·rename_i r hw
     obtain⟨hb,h⟩:=Tr.run_needs h
     obtain⟨e,ht⟩:=JW hw
     have e0:(if (lo.isNone&&hi.isNone)=true then jl P st.o t (st.eval x) else none)=none:=by
      grind[jl]
     simp only[aop,e0,XJ hw hb]
     exact h
    ·rwa [Tr.run_of] at h
  ·cases h
 ·-- next
  rename_i it
  split at h
  ·rename_i s g hx
   split at h
   ·rename_i hg
    split at h
    ·rename_i l p hk
     simp only[aop,hx,aNext,if_pos hg,hk]
     by_cases hp:p<l.length
     ·simp_all[Tr.run,decide_true,cond,if_pos]
     simp_all[Tr.run,decide_false,cond,if_neg]
    ·cases h
   ·cases h
  ·cases h
 ·-- append
  rename_i args ats
  split at h
  ·rename_i s x t tx d ea et
   split at h
   ·rename_i hsym
    simp only[aop,ea,et,if_pos hsym,sAppend]
    split at h
    ·rename_i et' dx ht htx
     split at h
     ·rename_i zs i hz hi
      split at h
      ·rename_i hc
       simp only[ht,htx,hz,hi,if_pos hc]
       split at h
       ·rename_i q g hq
        simp only[hq]
        split at h
        ·rename_i hg
         split at h
         ·rename_i ty fz nl L hk
          split at h
          ·rename_i hs
           split at h
           ·rename_i l hl
            obtain⟨hb,h⟩:=ite_some h
            simp only[decide_eq_true_eq] at hb
            simp only[if_pos hg,hk,if_pos hs,hl,if_pos hb]
            exact h
           ·cases h
          ·cases h
         ·cases h
        ·cases h
       ·rename_i hq
        simp only[hq]
        split at h
        ·rename_i L hx
         split at h
         ·rename_i hs
          obtain⟨hb,h⟩:=ite_some h
          simp only[decide_eq_true_eq] at hb
          simp only[hx,if_pos hs,if_pos hb]
          exact h
         ·cases h
        ·cases h
       ·rename_i hq
        simp only[hq]
        split at h
        ·rename_i L hx
         split at h
         ·rename_i hs
          obtain⟨hb,h⟩:=ite_some h
          simp only[decide_eq_true_eq] at hb
          simp only[hx,if_pos hs,if_pos hb]
          exact h
         ·cases h
        ·cases h
       ·cases h
      ·cases h
     ·cases h
    ·cases h
   ·rename_i hsym
    split at h
    ·rename_i hown
     simp only[aop,ea,et,if_neg hsym,if_pos hown,zQ]
     split at h
     ·rename_i r hr
      obtain⟨hb,h⟩:=ite_some h
      simp only[decide_eq_true_eq] at hb
      rw[hr]
      simp only[if_pos hb]
      exact h
     ·cases h
    ·rename_i hown
     split at h
     ·rename_i hcut
      simp only[aop,ea,et,if_neg hsym,if_neg hown,if_pos hcut,zY]
      split at h
      ·rename_i r hr
       obtain⟨hb,h⟩:=ite_some h
       simp only[decide_eq_true_eq] at hb
       rw[hr]
       simp only[if_pos hb]
       exact h
      ·cases h
     ·rwa [Tr.run_of] at h
  ·rwa [Tr.run_of] at h
 ·-- an interface value of Lean's own
  grind[Tr.run_bind,xZ,Tr.of,zZ,J7,Tr.run_of,aop,unS]
 ·-- bytes to a string
  rename_i src dst' x
  split at h
  ·rename_i d
   split at h
   ·rename_i l hl
    obtain⟨hb,h⟩:=ite_some h
    have h:some (V.str (bytesI l),none)=some r:=h
    injection h with h
    subst h
    unfold KV at hl
    split at hl
    ·rename_i s g off n hx
     split at hl
     case h_2=>cases hl
     rename_i e hs
     split at hl
     case h_2=>cases hl
     rename_i hd
     split at hl
     case isFalse=>cases hl
     rename_i hu
     split at hl
     case h_2=>cases hl
     rename_i m xs hsrc
     have hby:=jt xs l hl hb
     simp only[aop,qA,hs,hd,hx,hsrc,hby,Option.map_some]
     exact if_pos ⟨hu,rfl⟩
    ·rename_i L hx
     split at hl
     case h_2=>cases hl
     rename_i e hs
     split at hl
     case h_2=>cases hl
     rename_i hd
     split at hl
     case isFalse=>cases hl
     rename_i hu
     have hL:=JZ hl
     subst hL
     have hsrc:qM st.o 1 (.lst ⟨.int .u8,l⟩)=some (l.length,(⟨.int .u8,l⟩:TL).cells):=by simp only[qM];exact if_pos rfl
     have hby:=jt _ l (jM l) hb
     simp only[aop,qA,hs,hd,hx,hsrc,hby,Option.map_some]
     exact if_pos ⟨hu,rfl⟩
    ·rename_i s g hx
     split at hl
     case h_2=>cases hl
     rename_i e hs
     split at hl
     case h_2=>cases hl
     rename_i hd
     split at hl
     case isFalse=>cases hl
     rename_i hu
     split at hl
     case isFalse=>cases hl
     rename_i hg
     split at hl
     case h_2=>cases hl
     rename_i z1 z2 z3 L hk
     have hL:=JZ hl
     subst hL
     have hsrc:qM st.o 1 (.acc s g)=some (l.length,(⟨.int .u8,l⟩:TL).cells):=by simp only[qM];rw[if_pos hg,hk];exact if_pos rfl
     have hby:=jt _ l (jM l) hb
     simp only[aop,qA,hs,hd,hx,hsrc,hby,Option.map_some]
     exact if_pos ⟨hu,rfl⟩
    ·cases hl
   ·rwa [Tr.run_of] at h
  ·rwa [Tr.run_of] at h
 ·rwa [Tr.run_of] at h
end Go.Abs
namespace Go.Abs
open Go.RowKit
set_option linter.unusedVariables false
set_option linter.unusedSimpArgs false
abbrev OrcT:=Nat→List V→List OK→Tr (V×List OK×List OK)
def OrcT.orc (Γ:OrcT):Orc:=fun f xs lb=>(Γ f xs lb).run
def aCallT (Γ:OrcT) (T:Tab) (f:Nat) (args:List V) (d:Nat):Tr (V×Tab):=
 match viewL (viewA depth T) [] args with
 | some (xs,l,bs)=>
  if bs.Nodup∧bs.length<1000000 then
   match boxesOf depth T bs with
   | some (lb,l2)=>(Γ f xs lb).bind fun r=>
     if r.2.2.length≤4 then
      match revive (T.freezes (zs r.1 bs r.2.2 (l++l2))) bs r.2.1 with
      | some T2=>match fresh bs d T2 0 r.2.2 with
       | some T3=>.of ((ren T3 bs d r.2.2.length r.1).map fun v=>(v,T3))
       | none=>.fail
      | none=>.fail
     else .fail
   | none=>.fail
  else .fail
 | none=>.fail
theorem aCallT_run {Γ:OrcT} {T:Tab} {f:Nat} {args:List V} {d:Nat} {r:V×Tab} (h:(aCallT Γ T f args d).run=some r):aCall Γ.orc T f args d=some r:=by
 unfold aCallT at h
 unfold aCall
 split at h
 ·rename_i xs l bs hv
  rw[hv]
  split at h
  ·rename_i hc
   simp only[if_pos hc]
   split at h
   ·rename_i lb l2 hb
    rw[hb]
    rw[Tr.run_bind] at h
    simp only[OrcT.orc]
    cases hr:(Γ f xs lb).run with
    | none=>grind
    | some q=>
     obtain⟨res,lb',lf⟩:=q
     rw[hr] at h
     simp only[Option.bind_some] at h ⊢
     split at h
     ·rename_i h4
      simp only[if_pos h4]
      split at h
      ·rename_i T2 h2
       rw[h2]
       simp only
       split at h
       ·grind[Tr.run_of]
       ·cases h
      ·cases h
     ·cases h
   ·cases h
  ·cases h
 ·cases h
def estepT (Γ:OrcT) (P:Program) (st:St) (o:Oper):Tr (V×Tab):=
 match o.op with
 | .call ⟨.value f,args,_⟩=>match st.eval f with
  | .fn k caps=>aCallT Γ st.o k (args.toList.map st.eval++caps) (o.dst.getD 99999)
  | _=>.fail
 | _=>(aopT P st o).bind fun r=>.ret (r.1,wrT st.o r.2)
theorem estepT_run {Γ:OrcT} {P:Program} {st:St} {o:Oper} {r:V×Tab} (h:(estepT Γ P st o).run=some r):estep Γ.orc P st o=some r:=by
 unfold estepT at h
 unfold estep
 split at h
 ·rename_i f args ts ho
  simp only[ho]
  split at h
  ·grind[aCallT_run]
  ·cases h
 ·rename_i hne
  rw[Tr.run_bind] at h
  cases hr:(aopT P st o).run with
  | none=>grind
  | some q=>
   rw[hr] at h
   split
   ·grind
   ·rw[aopT_run hr]
    exact h
def normT (opl:List Oper) (o:Oper) (v:V):Tr V:=
 if isG opl o=true then(match v with
  | .bs b=>.ite b (.ret (.bool true)) (.ret (.bool false))
  | v=>.ret v) else .ret v
theorem normT_run {opl:List Oper} {o:Oper} {v v':V} (h:(normT opl o v).run=some v'):norm opl o v=v':=by
 unfold normT at h
 unfold norm
 split at h
 ·rename_i hg
  rw[if_pos hg]
  split at h
  ·rename_i b
   cases b<;>simpa [Tr.run,conB] using h
  ·rename_i hne
   injection h with h;subst h
   unfold conB
   split
   ·rename_i b;exact absurd rfl (hne b)
   ·rfl
 ·rename_i hg
  rw[if_neg hg]
  injection h
def guardT (opl:List Oper) (st:St) (o:Oper):Option Bool:=
 match o.guard with
 | none=>some true
 | some (j,want)=>match (opl[j]?).bind (·.dst) with
  | none=>some false
  | some t=>match st.get t with
   | .bool b=>some (b==want)
   | .tup _=>some false
   | _=>none
theorem guardT_ok {opl:List Oper} {st:St} {o:Oper} {b:Bool} (h:guardT opl st o=some b):aguard opl st o=some b:=by
 grind[guardT,aguard,bind]
def stepT (Γ:OrcT) (P:Program) (opl:List Oper) (st:St) (o:Oper):Tr St:=
 match guardT opl st o with
 | some false=>.of (st.set o.dst (.tup []))
 | some true=>(estepT Γ P st o).bind fun r=>(normT opl o r.1).bind fun v=>.of (({ st with o:=r.2 }:St).set o.dst v)
 | none=>.fail
theorem stepT_run {Γ:OrcT} {P:Program} {opl:List Oper} {st st':St} {o:Oper} (h:(stepT Γ P opl st o).run=some st'):step Γ.orc P opl st o=some st':=by
 unfold stepT at h
 unfold step
 split at h
 ·grind[guardT_ok,Tr.run_of]
 ·rename_i hg
  rw[guardT_ok hg,Tr.run_bind] at *
  cases hr:(estepT Γ P st o).run with
  | none=>grind
  | some q=>
   rw[hr] at h
   simp only[Option.bind_some,Tr.run_bind] at h
   simp only[estepT_run hr]
   (cases hv:(normT opl o q.1).run<;>grind[normT,Tr.run_of,normT_run])
 ·cases h
def stepsT (Γ:OrcT) (P:Program) (opl:List Oper):List Oper→St→Tr St
 | [],st=>.ret st
 | o::r,st=>(stepT Γ P opl st o).bind (stepsT Γ P opl r)
theorem stepsT_run {Γ:OrcT} {P:Program} {opl:List Oper}:∀(l:List Oper) (st st':St),(stepsT Γ P opl l st).run=some st'→steps Γ.orc P opl l st=some st'
 | [],st,st',h=>by simpa [stepsT,Tr.run,steps] using h
 | o::r,st,st',h=>by
  simp only[stepsT,Tr.run_bind] at h
  cases hr:(stepT Γ P opl st o).run with
  | none=>rw[hr] at h;cases h
  | some s1=>
   rw[hr] at h
   simp only[steps,stepT_run hr]
   exact stepsT_run r s1 st' h
def estepW (Γ:OrcT) (P:Program) (st:St) (o:Oper):Tr ((V×Tab)×List Nat):=
 match o.op with
 | .call ⟨.value f,args,_⟩=>match st.eval f with
  | .fn k caps=>(aCallT Γ st.o k (args.toList.map st.eval++caps) (o.dst.getD 99999)).bind fun r=>.ret (r,wsites P st o)
  | _=>.fail
 | _=>(aopT P st o).bind fun r=>.ret ((r.1,wrT st.o r.2),match r.2 with | some (s,_)=>[s] | none=>[])
theorem estepW_run {Γ:OrcT} {P:Program} {st:St} {o:Oper} {r:V×Tab} {ws:List Nat} (h:(estepW Γ P st o).run=some (r,ws)):
  estep Γ.orc P st o=some r∧wsites P st o=ws:=by
 unfold estepW at h
 split at h
 ·rename_i f args ts ho
  split at h
  ·rename_i k caps hf
   rw[Tr.run_bind] at h
   cases hr:(aCallT Γ st.o k (args.toList.map st.eval++caps) (o.dst.getD 99999)).run with
   | none=>rw[hr] at h;cases h
   | some q=>
    rw[hr] at h
    simp[Tr.run] at h
    obtain⟨rfl,rfl⟩:=h
    refine⟨?_,rfl⟩
    unfold estep
    simp only[ho,hf]
    exact aCallT_run hr
  ·cases h
 ·rename_i hne
  rw[Tr.run_bind] at h
  cases hr:(aopT P st o).run with
  | none=>rw[hr] at h;cases h
  | some q=>
   rw[hr] at h
   simp[Tr.run] at h
   obtain⟨rfl,rfl⟩:=h
   refine⟨?_,?_⟩
   ·unfold estep
    split
    ·rename_i f args ts ho;exact(hne f args ts ho).elim
    ·rw[aopT_run hr]
   ·unfold wsites
    split
    ·rename_i f args ts ho;exact(hne f args ts ho).elim
    ·rw[aopT_run hr]
     obtain⟨v,wr⟩:=q
     cases wr<;>rfl
def drunT (Γ:OrcT) (P:Program) (opl:List Oper):List Oper→St→Tr (List Rec×St)
 | [],st=>.ret ([],st)
 | o::r,st=>match guardT opl st o with
  | some false=>match st.set o.dst (.tup []) with
   | some st'=>(drunT Γ P opl r st').bind fun q=>.ret (⟨.tup [],[],[]⟩::q.1,q.2)
   | none=>.fail
  | some true=>(estepW Γ P { st with o:=restrict (foot st o) st.o } o).bind fun q=>(normT opl o q.1.1).bind fun v=>
    if q.2.all ((foot st o).contains ·)=true then
     match ({ st with o:=overlay (q.2.map fun s=>(s,q.1.2.get s)) st.o }:St).set o.dst v with
     | some st'=>(drunT Γ P opl r st').bind fun p=>.ret (⟨v,foot st o,q.2.map fun s=>(s,q.1.2.get s)⟩::p.1,p.2)
     | none=>.fail
    else .fail
  | none=>.fail
theorem drunT_run {Γ:OrcT} {P:Program} {opl:List Oper}:∀(l:List Oper) (st:St) (q:List Rec×St),(drunT Γ P opl l st).run=some q→drun Γ.orc P opl l st=some q
 | [],st,q,h=>by simpa [drunT,Tr.run,drun] using h
 | o::r,st,q,h=>by
  simp only[drunT] at h
  simp only[drun]
  split at h
  ·rename_i hg
   rw[guardT_ok hg]
   split at h
   ·rename_i s1 hs
    rw[Tr.run_bind] at h
    cases hr:(drunT Γ P opl r s1).run with
    | none=>grind
    | some p=>
     rw[hr] at h
     simp only[hs,drunT_run r s1 p hr]
     exact h
   ·cases h
  ·rename_i hg
   rw[guardT_ok hg]
   rw[Tr.run_bind] at h
   cases he:(estepW Γ P { st with o:=restrict (foot st o) st.o } o).run with
   | none=>grind
   | some e=>
    rw[he] at h
    simp only[Option.bind_some,Tr.run_bind] at h
    obtain⟨he1,he2⟩:=estepW_run (r:=e.1) (ws:=e.2) he
    simp only[he1,he2]
    cases hv:(normT opl o e.1.1).run with
    | none=>grind
    | some v=>
     rw[hv] at h
     simp only[Option.bind_some] at h
     rw[normT_run hv]
     split at h
     ·rename_i hw
      rw[if_pos hw]
      split at h
      ·rename_i s1 hs
       rw[Tr.run_bind] at h
       cases hr:(drunT Γ P opl r s1).run with
       | none=>grind
       | some p=>
        rw[hr] at h
        simp only[hs,drunT_run r s1 p hr]
        exact h
      ·cases h
     ·cases h
  ·cases h
def hasCall (opl:List Oper):Bool:=opl.any fun o=>match o.op with
 | .call ⟨.value _,_,_⟩=>true
 | _=>false
def KL (l:List Operand):List Nat:=l.filterMap fun | .tmp t=>some t | _=>none
def JH (opl:List Oper):List Nat:=opl.foldr (fun o acc=>match o.op with
 | .call ⟨.value f,args,_⟩=>KL (f::args.toList)++acc
 | .indexAddr _ _ _=>acc
 | op=>match o.dst with
  | some d=>if acc.contains d=true then KL op.operands.toList++acc else acc
  | none=>acc) []
def zOf (opl:List Oper) (st:St):List Nat:=if hasCall opl=true then(JH opl).flatMap (fun t=>xN depth st.o (st.get t)) else []
def regionT (Γ:OrcT) (P:Program) (ops:Array Oper) (draw:Bool) (st:St):Tr St:=
 if draw=true then(drunT Γ P ops.toList ops.toList { st with o:=st.o.freezes (zOf ops.toList st) }).bind fun q=>if objsOk ops.toList q.1=true then .ret q.2 else .fail
 else stepsT Γ P ops.toList ops.toList st
theorem HT.regionT {κ:Cx} {Γ:OrcT} (hΓ:GammaOk κ.P Γ.orc) (hm:κ.P.follows .mixedOrders=true) {id:Nat} {ops:Array Oper} {draw:Bool} (htmp:(!draw||tmpsOk ops.toList)=true) {Q:Exit→St→Prop} {st st':St}
  (hx:(Abs.regionT Γ κ.P ops draw st).run=some st') (h:Q .normal st'):HT κ (.region id ops draw) Q st:=fun a w hr=>by
 unfold Abs.regionT at hx
 cases draw with
 | true=>
  simp only[if_true] at hx
  rw[Tr.run_bind] at hx
  cases hd:(drunT Γ κ.P ops.toList ops.toList { st with o:=st.o.freezes (zOf ops.toList st) }).run with
  | none=>grind
  | some q=>
   obtain⟨rs,sn⟩:=q
   rw[hd] at hx
   simp only[Option.bind_some] at hx
   split at hx
   ·rename_i hobj
    (injection hx with hx<;>grind[draw_okZ,drunT_run])
   ·cases hx
 | false=>
  simp only[Bool.false_eq_true,if_false] at hx
  exact wp_region_list (steps_ok hΓ ops.toList _ st' a w (stepsT_run _ _ _ hx) hr fun a' w' hr'=>⟨st',h,hr'⟩)
end Go.Abs
namespace Go.Abs
open Go.RowKit
set_option linter.unusedVariables false
set_option linter.unusedSimpArgs false
end Go.Abs
namespace Go.Abs
open Go.RowKit
set_option linter.unusedVariables false
set_option linter.unusedSimpArgs false
def KY:V→Tr V
 | .si X=>siT X.e X.x
 | v=>.ret v
theorem JY (v:V):(KY v).run=some (unS v):=by
 cases v<;>first | rfl | exact xZ _ _
def Q9 (P:Program):Nat→TypeId→Option Ty
 | 0,_=>none
 | n+1,t=>match P.underlying t with
  | some .bool=>some .bool
  | some (.int k)=>some (.int k)
  | some .string=>some .str
  | some (.slice u)=>(Q9 P n u).map .list
  | some (.struct fs)=>(flds (Q9 P n) (fs.toList.map (·.type))).map .agg
  | some (.array m u)=>(flds (Q9 P n) (List.replicate m u)).map .agg
  | _=>none
where flds (f:TypeId→Option Ty):List TypeId→Option Ty
 | []=>some .unit
 | [t]=>f t
 | t::u::r=>match f t,flds f (u::r) with
  | some a,some b=>some (.pair a b)
  | _,_=>none
section
variable {κ : Cx} {ι : Nat → Nat} {st : St} {a : Act} {w : World}
def XU (P:Program) (T:Tab) (t:Nat) (x:V):Option V:=
 match P.underlying t,x with
 | some (.slice _),.nwin s g off n=>(zB T (.nwin s g off n)).map fun _=>.int .i64 n
 | _,_=>none
theorem XT (h:RelI κ ι st a w) {t ty:Nat} {x v:V} {cx:Value} {ts:Array TypeId} (hts:ts[0]? = some t) (hr:Rv st.o ι (Stable κ.D st.o ι w) w x cx) (hx:XU κ.P st.o t x=some v):
  SemOk κ ι st.o w (Builtin.len_ ts ty #[cx]) v none:=by
 unfold XU at hx
 split at hx
 ·rename_i e s g off n ht
  cases hw:zB st.o (.nwin s g off n) with
  | none=>grind
  | some q=>
   obtain⟨s',g',off',n',ty',fz,nl,L⟩:=q
   rw[hw] at hx
   simp only[Option.map_some,Option.some.injEq] at hx
   subst hx
   have hn:n'=n:=by
    grind[zB]
   subst hn
   obtain⟨hT,_,hle,hor⟩:=jW hw hr
   have:∃p c,cx=.slice p n' c:=by
    rcases hor with⟨_,e0,p,rfl⟩ | ⟨_,ad,c,_,_,_,_,rfl,_⟩
    ·simp_all
    grind
   obtain⟨p,c,rfl⟩:=this
   refine SemOk.same h (cv:=.int .i64 n') ?_ (.pure (.int _ _))
   simp only[Builtin.len_,hts]
   simp[run_underlying ht,goInt]
 ·cases hx
def yi (P:Program) (T:Tab) (t:Nat) (x ix:V):Option (List Bool×V):=
 match P.underlying t,x,ix with
 | some (.slice e),.nwin s g off n,.int _ i=>match P.info? e,zB T (.nwin s g off n) with
  | some inf,some (_,_,_,_,_,_,_,L)=>if L.e.size=inf.size then some ([decide (0≤i),decide (i<(n:Int))],.eptr s g inf.size (off+i.toNat) 0) else none
  | _,_=>none
 | _,_,_=>none
theorem Z8 (h:RelI κ ι st a w) {t:Nat} {x ix v:V} {cx ci:Value} {bs:List Bool} (hr:Rv st.o ι (Stable κ.D st.o ι w) w x cx) (hi:Rv st.o ι (Stable κ.D st.o ι w) w ix ci)
  (hx:yi κ.P st.o t x ix=some (bs,v)) (hbs:bs.all id=true):SemOk κ ι st.o w (Instr.indexAt t cx ci) v none:=by
 unfold yi at hx
 split at hx
 case h_2=>cases hx
 rename_i e s g off n k i ht
 split at hx
 case h_2=>cases hx
 rename_i inf s' g' off' n' ty' fz nl L hinf hw
 split at hx
 case isFalse=>cases hx
 rename_i hsz
 injection hx with hx
 simp only[Prod.mk.injEq] at hx
 obtain⟨rfl,rfl⟩:=hx
 simp only[List.all_cons,List.all_nil,Bool.and_eq_true,id,decide_eq_true_eq,Bool.and_true] at hbs
 obtain⟨h0,h1⟩:=hbs
 have hq:s'=s∧g'=g∧off'=off∧n'=n:=by
  grind[zB]
 obtain⟨rfl,rfl,rfl,rfl⟩:=hq
 obtain⟨hT,_,hle,hor⟩:=jW hw hr
 have:=hi.int_;subst this
 obtain⟨hn,ad,c,cap,arr,ty1,fz1,rfl,hb,hmem,has,hnc,hcap,hpl⟩:=hor.resolve_left (fun⟨_,e0,_⟩=>by grind)
 have:=hpl (by omega);subst this
 refine SemOk.same h (cv:=.pointer (some ((⟨ι s',off'*L.e.size,none⟩:Addr).add (i.toNat*inf.size)))) ?_ ?_
 ·simp[Instr.indexAt,asIntOf,run_underlying ht,h0,h1,run_size hinf]
 ·refine .eptr ⟨_,rfl⟩ (by grind) fun ty2 fz2 nl2 L2 e2=>?_
  rw[hT] at e2
  simp at e2
  obtain⟨rfl,rfl,rfl,rfl⟩:=e2
  grind[Addr.add]
end
end Go.Abs
namespace Go.Abs
open Go.RowKit
set_option linter.unusedVariables false
set_option linter.unusedSimpArgs false
theorem vV (e:Ty) (x:e.I):∀n:Nat,(List.replicate n x).flatMap (cellsV e)=repl (cellsV e x) n
 | 0=>rfl
 | n+1=>by
  simp only[List.replicate_succ,List.flatMap_cons,vV e x n]
  simp[repl,List.replicate_succ]
theorem z8 (z:Array Value) (n:Nat):(Builtin.zeroCells z n).toList=(madeCells z (n*z.size)).toList:=by
 grind[hi,Builtin.zeroCells,madeCells]
section
variable {κ : Cx} {ι : Nat → Nat} {st : St} {a : Act} {w : World}
def ZJ (P:Program) (e:Ty) (t:Nat):Option e.I:=
 match zeroC P t with
 | some zs=>match impC e zs with
  | some (x,[])=>some x
  | _=>none
 | none=>none
theorem yR (w0:World) {P:Program} {e:Ty} {t:Nat} {x:e.I} (h:ZJ P e t=some x):∃z i,P.info? t=some i∧i.zero=some z∧z.cells.size=i.size∧i.size=e.size∧(∀w,(zeroValue t).run P w=.ok z w)∧
  ∀{S:Addr→Prop} {w:World} (n:Nat),LR (Rp S w) ((List.replicate n x).flatMap (cellsV e)) (madeCells z.cells (n*z.cells.size)).toList:=by
 unfold ZJ at h
 split at h
 case h_2=>cases h
 rename_i zs hz
 obtain⟨z,i,h1,h2,h3,h4,h5⟩:=qG hz
 split at h
 case h_2=>cases h
 rename_i y hy
 injection h with h;subst h
 have hlen:=Qy e zs [] y hy
 have hzl:zs.length=z.cells.size:=by have:=(h5 (S:=fun _=>False) (w:=w0)).1;grind
 refine⟨z,i,h1,h2,h3,by grind,h4,fun {S w} n=>?_⟩
 rw[vV]
 have:=impC_rv (T:=[]) (ι:=fun _=>0) (S:=S) (w:=w) e zs [] y _ hy ((h5 (S:=S) (w:=w)).mono fun d u hd=>.pure hd)
 rw[List.append_nil] at this
 exact LR.made (lr_pure (fun d hd=>pure_cellsV e y d hd) this) _ n rfl
def yj (P:Program) (T:Tab) (t:Nat) (x:V):Option (Option (Nat×Ob)):=
 match P.underlying t with
 | some (.slice e)=>match zB T x with
  | some (s,g,off,n,ty,false,nl,L)=>match ZJ P L.e e with
   | some z=>some (some (s,⟨g,.nrow ty false nl ⟨L.e,putL L.l (List.replicate n z) off⟩⟩))
   | none=>none
  | _=>none
 | _=>none
theorem Z9 (h:RelI κ ι st a w) {t ty:Nat} {x:V} {cx:Value} {wr:Option (Nat×Ob)} {ts:Array TypeId} (hts:ts[0]? = some t) (hr:Rv st.o ι (Stable κ.D st.o ι w) w x cx) (hx:yj κ.P st.o t x=some wr):
  SemOk κ ι st.o w (Builtin.clear_ ts ty #[cx]) (.tup []) wr:=by
 unfold yj at hx
 split at hx
 case h_2=>cases hx
 rename_i e ht
 split at hx
 case h_2=>cases hx
 rename_i s g off n ty' nl L hw
 split at hx
 case h_2=>cases hx
 rename_i z0 hz
 injection hx with hx;subst hx
 obtain⟨z,i,h1,h2,h3,h4,h5,h6⟩:=yR w hz
 obtain⟨hT,_,hle,hor⟩:=jW hw hr
 have htup:∀{T':Tab} {ι':Nat→Nat} {S':Addr→Prop} {w':World},Rv T' ι' S' w' (.tup []) (.tuple #[]):=.pure (.tup (vs:=[]) rfl (by simp))
 have none:n=0→(∃p c,cx=.slice p 0 c)→SemOk κ ι st.o w (Builtin.clear_ ts ty #[cx]) (.tup []) (some (s,⟨g,.nrow ty' false nl ⟨L.e,putL L.l (List.replicate n z0) off⟩⟩)):=by
  rintro rfl ⟨p,c,rfl⟩
  have e1:putL L.l (List.replicate 0 z0) off=L.l:=by simp[putL]
  rw[e1]
  have e2:st.o.get s=⟨g,.nrow ty' false nl ⟨L.e,L.l⟩⟩:=hT
  have hto:To κ st.o ι w (st.o.put s ⟨g,.nrow ty' false nl ⟨L.e,L.l⟩⟩) ι w:=by
   have hgs:∀t,(st.o.put s ⟨g,.nrow ty' false nl ⟨L.e,L.l⟩⟩).get t=st.o.get t:=fun t=>by
    rw[Tab.get_put]
    by_cases q:s=t
    ·rw[if_pos q,←q];exact e2.symm
    ·rw[if_neg q]
   have hlv:∀t,(st.o.put s ⟨g,.nrow ty' false nl ⟨L.e,L.l⟩⟩).live t↔st.o.live t:=fun t=>by simp only[Tab.live,hgs]
   have hS:∀p,Stable κ.D st.o ι w p→Stable κ.D (st.o.put s ⟨g,.nrow ty' false nl ⟨L.e,L.l⟩⟩) ι w p:=fun p hp=>⟨hp.1,hp.2.1,fun t ht he=>by rw[hgs];exact hp.2.2 t ((hlv t).1 ht) he⟩
   have H:Goes κ.D st.o ι w (st.o.put s ⟨g,.nrow ty' false nl ⟨L.e,L.l⟩⟩) ι w:=⟨fun p hp=>⟨hS p hp,rfl⟩,fun t=>by rw[hgs];exact Nat.le_refl _,fun t ht _=>⟨(hlv t).1 ht,rfl⟩,
    fun t g' ty sz fz' cs' hq _=>by rw[hgs] at hq;exact⟨⟨_,_,_,hq⟩,fun arr ty1 fz hh=>⟨arr,ty1,fz,hh,rfl⟩⟩,
    fun t g' ty fz nl L hq _=>by rw[hgs] at hq;exact⟨⟨_,_,_,_,hq,rfl,rfl,rfl⟩,fun _ arr ty1 fz hh=>⟨arr,ty1,fz,hh,rfl⟩⟩⟩
   exact⟨H,⟨fun t=>by rw[hgs];exact(h.tr.ob t).mono H rfl,fun t u ht hu he=>h.tr.inj t u ((hlv t).1 ht) ((hlv u).1 hu) he,fun t ht=>h.tr.lt t ((hlv t).1 ht)⟩,fun t ht=>h.my t ((hlv t).1 ht),h.kept⟩
  refine⟨.tuple #[],w,ι,?_,hto,htup⟩
  simp only[Builtin.clear_,hts]
  cases p<;>simp[run_underlying ht]
 rcases hor with⟨_,hnil,p,rfl⟩ | ⟨hn,ad,c,cap,arr,ty1,fz1,rfl,hb,hmem,has,hnc,hcap,hpl⟩
 ·exact none (by rw[hnil] at hle;simp at hle;omega) ⟨p,0,rfl⟩
 by_cases hn0:n=0
 ·exact none hn0 ⟨some ad,c,by rw[hn0]⟩
 have:=hpl (by omega);subst this
 have hob:=h.tr.ob s
 rw[hT] at hob
 obtain⟨arr2,fz2,cap2,b1,b2,b3,b4,b5,b6⟩:=hob.resolve_left hn
 rw[hmem] at b1
 injection b1 with b1;injection b1 with q1 q2 q3;subst q1 q2 q3
 have hcl:=L.cells_length
 have hzc:(Builtin.zeroCells z.cells n).toList=(madeCells z.cells (n*z.cells.size)).toList:=z8 _ _
 have hzl:(Builtin.zeroCells z.cells n).toList.length=n*L.e.size:=by simp[size_zeroCells,h3,h4]
 have hin:off*L.e.size+n*L.e.size≤L.l.length*L.e.size:=by rw[←Nat.add_mul];exact Nat.mul_le_mul_right _ hle
 have hone:∀u∈(Builtin.zeroCells z.cells n).toList,u.oneCell'=true:=by
  intro u hu
  rw[hzc] at hu
  have hl:=h6 (S:=fun _=>False) (w:=w) n
  obtain⟨j,hj⟩:=List.mem_iff_getElem?.1 hu
  have hjl:j<((List.replicate n z0).flatMap (cellsV L.e)).length:=by rw[hl.1];exact(List.getElem?_eq_some_iff.1 hj).1
  have hd:=List.getElem?_eq_getElem hjl
  obtain⟨x,_,hx⟩:=List.mem_flatMap.1 (List.getElem_mem hjl)
  exact(zH (ql _ _ _ hx) (hl.2 j _ u hd hj)).2
 have hst:=run_storeCells_fz κ.P (ι s) (off*L.e.size) _ _ (Builtin.zeroCells z.cells n).toList 0 arr w hmem (fun j hj=>b2 j (.inl hj)) (by omega) hone
 simp only[Nat.add_zero,List.append_assoc] at hst
 refine⟨.tuple #[],_,ι,?_,To.putRow h hT hn hmem (List.replicate n z0) off (by simpa using hle) (news:=(Builtin.zeroCells z.cells n).toList) ?_ (List.toList_toArray),htup⟩
 ·simp only[Builtin.clear_,hts]
  obtain⟨m,rfl⟩:∃m,n=m+1:=⟨n-1,by omega⟩
  simp[run_underlying ht,h5,hst]
  simp only[putL,Array.length_toList]
 ·rw[hzc];exact(h6 n).mono fun d u hd=>.pure hd
def ZT (P:Program) (T:Tab) (t:Nat) (l c:V) (d:Nat):Option (List Bool×V×Option (Nat×Ob)):=
 match l,c with
 | .int _ n,.int _ m=>match P.underlying t with
  | some (.slice e)=>match Q9 P 8 e,P.info? e with
   | some te,some i=>match ZJ P te e with
    | some z=>if 0<te.size then some ([decide (0≤n),decide (n≤m),decide ((i.bytes:Int)*m≤140737488355328),decide (m≤9223372036854775807)],.acc d ((T.get d).gen+1),
      some (d,⟨(T.get d).gen+1,.nrow e false false ⟨te,List.replicate n.toNat z⟩⟩)) else none
    | none=>none
   | _,_=>none
  | _=>none
 | _,_=>none
theorem Xh (h:RelI κ ι st a w) {t d:Nat} {l c v:V} {cl cc:Value} {wr:Option (Nat×Ob)} {bs:List Bool} (hl:Rv st.o ι (Stable κ.D st.o ι w) w l cl) (hc:Rv st.o ι (Stable κ.D st.o ι w) w c cc)
  (hx:ZT κ.P st.o t l c d=some (bs,v,wr)) (hbs:bs.all id=true):SemOk κ ι st.o w (Instr.makeSlice t cl cc) v wr:=by
 unfold ZT at hx
 split at hx
 case h_2=>cases hx
 rename_i kl n kc m
 have:=hl.int_;subst this
 have:=hc.int_;subst this
 split at hx
 case h_2=>cases hx
 rename_i e ht
 split at hx
 case h_2=>cases hx
 rename_i te i hte hi
 split at hx
 case h_2=>cases hx
 rename_i z0 hz
 split at hx
 case isFalse=>cases hx
 rename_i hp
 injection hx with hx
 simp only[Prod.mk.injEq] at hx
 obtain⟨rfl,rfl,rfl⟩:=hx
 simp only[List.all_cons,List.all_nil,Bool.and_eq_true,id,decide_eq_true_eq,Bool.and_true] at hbs
 obtain⟨h0,hnm,hb,h63⟩:=hbs
 obtain⟨z,i',h1,h2,h3,h4,h5,h6⟩:=yR w hz
 rw[hi] at h1;injection h1 with h1;subst h1
 have hrun:=run_make (P:=κ.P) w t e i z ht hi h2 kl kc n m h0 hnm (by omega) h63
 have harr:(madeCells z.cells (m.toNat*i.size)).size=m.toNat*te.size:=by rw[size_madeCells,h4]
 have hnm':n.toNat≤m.toNat:=by omega
 have hlr:=h6 (S:=Stable κ.D st.o ι w) (w:=w) m.toNat
 have hpre:∀(j:Nat) (dd:V),((List.replicate n.toNat z0).flatMap (cellsV te))[j]? = some dd→((List.replicate m.toNat z0).flatMap (cellsV te))[j]? = some dd:=fun j dd hd=>by
  have e1:List.replicate m.toNat z0=List.replicate n.toNat z0++List.replicate (m.toNat-n.toNat) z0:=by
   rw[List.replicate_append_replicate];congr 1;omega
  grind
 refine⟨_,_,_,hrun,To.new h rfl rfl rfl rfl d _ _ fun T' ι' w' H hnew=>.inr ⟨_,(0,0),m.toNat,hnew,fun i _=>by simp,harr,hp,?_,fun j dd u hd hu=>?_⟩,?_⟩
 ·simp_all[TL.cells_length,List.length_replicate,Nat.mul_le_mul_right]
 ·have hu':(madeCells z.cells (m.toNat*z.cells.size)).toList[j]? = some u:=by grind
  exact Rv.mono H (.pure (hlr.2 j dd u (hpre j dd hd) hu'))
 ·refine .acc ⟨_,_,_,rfl⟩ (by simp[wrT,Tab.get_put]) fun ty' fz' nl' L' e=>?_
  simp[wrT,Tab.get_put] at e
  obtain⟨rfl,rfl,rfl,rfl⟩:=e
  refine .inr ⟨by simp,⟨w.heap.size,0,none⟩,m.toNat,m.toNat,madeCells z.cells (m.toNat*i.size),e,(0,0),by simp,by simp,?_,harr,by simp;omega,by omega,fun _=>by simp⟩
  grind[heap_alloc_new,madeCells]
def yC (P:Program) (T:Tab) (e d:Nat):Option (V×Option (Nat×Ob)):=match P.underlying e with
 | some (.array n u)=>match zeroC P e,Q9 P 8 u with
  | some cs,some te=>if 9≤n∧te.size=1∧te.flatT=true then(match impN (impC te) n cs with
   | some (l,[])=>some (.eptr d ((T.get d).gen+1) 1 0 0,some (d,⟨(T.get d).gen+1,.nrow e false false ⟨te,l⟩⟩))
   | _=>none) else none
  | _,_=>none
 | _=>none
theorem Ji (h:RelI κ ι st a w) {e d:Nat} {v:V} {wr:Option (Nat×Ob)} (hx:yC κ.P st.o e d=some (v,wr)):SemOk κ ι st.o w (Instr.alloc e true (.tuple #[])) v wr:=by
 unfold yC at hx
 split at hx
 case h_2=>cases hx
 rename_i n u hu
 split at hx
 case h_2=>cases hx
 rename_i cs te hz hte
 split at hx
 case isFalse=>cases hx
 rename_i hc
 obtain⟨hn9,hs1,_⟩:=hc
 split at hx
 case h_2=>cases hx
 rename_i l himp
 injection hx with hx
 simp only[Prod.mk.injEq] at hx
 obtain⟨rfl,rfl⟩:=hx
 obtain⟨z,i,hi,hzz,hsz,hrun,hlr⟩:=qG hz
 obtain⟨hll,hlr2⟩:=impN_rv (T:=st.o) (ι:=ι) (S:=Stable κ.D st.o ι w) (w:=w) (impC_rv te) n cs [] l z.cells.toList himp (hlr.mono fun _ _=>.pure)
 rw[List.append_nil] at hlr2
 have hcl:(⟨te,l⟩:TL).cells.length=z.cells.size:=by rw[←Array.length_toList];exact hlr2.1
 refine⟨.pointer (some ⟨w.heap.size,0,none⟩),_,_,by simp[Instr.alloc,hrun,newVar,newRow],To.new h rfl rfl rfl rfl d _ _ fun T' ι' w' H hnew=>.inr ⟨z.cells,(0,0),z.cells.size,hnew,fun i _=>by simp,by grind,by grind,by grind,fun j dd u hd hu=>(hlr2.2 j dd u hd hu).mono H⟩,?_⟩
 refine .eptr ⟨_,rfl⟩ (by simp[wrT,Tab.get_put]) fun ty' fz' nl' L' e=>?_
 simp[wrT,Tab.get_put] at e
 grind
theorem zO:∀(l:List Int),l.all (fun n=>decide (0≤n)&&decide (n<256))=true→qI (l.flatMap (cellsV (.int .u8)))=some (l.map fun n=>UInt8.ofNat n.toNat)
 | [],_=>rfl
 | n::r,h=>by
  simp only[List.all_cons,Bool.and_eq_true,decide_eq_true_eq] at h
  have e:(n::r).flatMap (cellsV (.int .u8))=.int .u8 n::r.flatMap (cellsV (.int .u8)):=rfl
  simp_all[qI,if_pos,zO]
def u8L:TL→Option (List Int)
 | ⟨.int .u8,l⟩=>some l
 | _=>none
def Xg (P:Program) (T:Tab) (src dst:Nat) (x:V):Option (List Bool×V):=
 match P.underlying src,P.underlying dst with
 | some (.slice e),some .string=>if (P.underlying e).any (fun d=>d matches .int .u8)=true then
   (match x with
    | .lst L=>match u8L L with
     | some l=>some ([l.all (fun n=>decide (0≤n)&&decide (n<256))],.str (l.map fun n=>UInt8.ofNat n.toNat))
     | none=>none
    | .acc s g=>if (T.get s).gen=g then(match (T.get s).k with
     | .nrow _ _ _ L=>match u8L L with
      | some l=>some ([l.all (fun n=>decide (0≤n)&&decide (n<256))],.str (l.map fun n=>UInt8.ofNat n.toNat))
      | none=>none
     | _=>none) else none
    | _=>none) else none
 | _,_=>none
theorem J0 {L:TL} {l:List Int} (h:u8L L=some l):L=⟨.int .u8,l⟩:=by
 (unfold u8L at h<;>grind[u8L])
theorem Xf {src dst d:Nat} {x v:V} {bs:List Bool} (hx:Xg κ.P st.o src dst x=some (bs,v)) (hbs:bs.all id=true):qA κ.P st.o src dst x d=some (v,none):=by
 unfold Xg at hx
 split at hx
 case h_2=>cases hx
 rename_i e hs hd
 split at hx
 case isFalse=>cases hx
 rename_i he
 split at hx
 ·rename_i L
  split at hx
  ·rename_i l hl
   have:=J0 hl;subst this
   injection hx with hx
   simp only[Prod.mk.injEq] at hx
   obtain⟨rfl,rfl⟩:=hx
   simp only[List.all_cons,List.all_nil,Bool.and_true,id] at hbs
   have h2:qM st.o 1 (.lst ⟨.int .u8,l⟩)=some (l.length,l.flatMap (cellsV (.int .u8))):=rfl
   simp only[qA,hs,hd]
   rw[if_pos ⟨he,rfl⟩,h2]
   grind[zO]
  ·cases hx
 ·rename_i s g
  split at hx
  ·rename_i hg
   split at hx
   ·rename_i ty fz nl L hk
    split at hx
    ·rename_i l hl
     have:=J0 hl;subst this
     injection hx with hx
     simp only[Prod.mk.injEq] at hx
     obtain⟨rfl,rfl⟩:=hx
     simp only[List.all_cons,List.all_nil,Bool.and_true,id] at hbs
     have h2:qM st.o 1 (.acc s g)=some (l.length,l.flatMap (cellsV (.int .u8))):=by simp only[qM,if_pos hg,hk];rfl
     simp only[qA,hs,hd]
     rw[if_pos ⟨he,rfl⟩,h2]
     grind[zO]
    ·cases hx
   ·cases hx
  ·cases hx
 ·cases hx
end
end Go.Abs
namespace Go.Abs
open Go.RowKit
set_option linter.unusedVariables false
set_option linter.unusedSimpArgs false
def mget {α:Type} (d:α) (k:Int):List (Int×α)→α
 | []=>d
 | p::r=>bif p.1==k then p.2 else mget d k r
def mhas {α:Type} (k:Int):List (Int×α)→Bool
 | []=>false
 | p::r=>bif p.1==k then true else mhas k r
def mput {α:Type} (k:Int) (x:α):List (Int×α)→List (Int×α)
 | []=>[(k,x)]
 | p::r=>bif p.1==k then(k,x)::r else p::mput k x r
theorem jP {α:Type} (n:Int) {R:α→Value→Prop}:∀(l:List (Int×α)) (es:List MapEntry) (i:Nat),es.length=l.length→
  (∀(i:Nat) (p:Int×α) (x:MapEntry),l[i]? = some p→es[i]? = some x→x.key=.int .i64 p.1∧R p.2 x.val)→
  (Instr.findNow (.int .i64) (.int .i64 n) es i=some none∧mhas n l=false∧(∀z,mget z n l=z)∧∀x,mput n x l=l++[(n,x)])∨
  ∃j e p,Instr.findNow (.int .i64) (.int .i64 n) es i=some (some (i+j,e.val))∧es[j]? = some e∧l[j]? = some p∧p.1=n∧mhas n l=true∧(∀z,mget z n l=p.2)∧∀x,mput n x l=l.set j (n,x)
 | [],es,i,hl,_=>by
  have:es=[]:=List.eq_nil_of_length_eq_zero (by simpa using hl)
  subst this
  exact .inl ⟨rfl,rfl,fun _=>rfl,fun _=>rfl⟩
 | p::l,[],i,hl,_=>by simp at hl
 | p::l,x::es,i,hl,h=>by
  obtain⟨hk,hv⟩:=h 0 p x rfl rfl
  by_cases e:p.1=n
  ·refine .inr ⟨0,x,p,?_,rfl,rfl,e,?_,fun z=>?_,fun y=>?_⟩
   ·simp[Instr.findNow,Instr.sameNow,hk,e]
   ·simp[mhas,e]
   ·simp[mget,e]
   ·simp[mput,e]
  ·have ih:=jP n (R:=R) l es (i+1) (by simpa using hl) fun i p x hp hx=>h (i+1) p x (by simpa using hp) (by simpa using hx)
   have hf:Instr.findNow (.int .i64) (.int .i64 n) (x::es) i=Instr.findNow (.int .i64) (.int .i64 n) es (i+1):=by
    grind[Instr.findNow,Instr.sameNow]
   have hb:(p.1==n)=false:=by simp[e]
   rcases ih with⟨h1,h2,h3,h4⟩ | ⟨j,e1,p1,h1,h2,h3,h4,h5,h6,h7⟩
   ·grind[mhas,mget,mput]
   ·(refine .inr ⟨j+1,e1,p1,?_,by simpa using h2,by simpa using h3,h4,?_,fun z=>?_,fun y=>?_⟩<;>grind[mhas,mget,mput])
section
variable {κ : Cx} {ι : Nat → Nat} {st : St} {a : Act} {w : World}
def JV (P:Program) (te:Ty) (e:Nat):Option te.I:=match P.info? e with
 | some i=>match i.zero with
  | some zv=>match vM zv with
   | some d=>impV te d
   | none=>none
  | none=>none
 | none=>none
theorem JU {P:Program} {te:Ty} {e:Nat} {x:te.I} (h:JV P te e=some x):∃zv,(∀w,(zeroValue e).run P w=.ok zv w)∧∀(S:Addr→Prop) (w:World),Rp S w (valW te x) zv:=by
 unfold JV at h
 split at h
 case h_2=>cases h
 rename_i i hi
 split at h
 case h_2=>cases h
 rename_i zv hz
 split at h
 case h_2=>cases h
 rename_i d hd
 exact⟨zv,j8 hi hz,fun S w=>impV_rv (T:=[]) (ι:=fun _=>0) h (.pure (kO hd))⟩
def Ko (P:Program) (T:Tab) (t d:Nat):Option (V×Option (Nat×Ob)):=match P.underlying t with
 | some (.map k e)=>match P.underlying k with
  | some (.int .i64)=>match Q9 P 8 e with
   | some te=>some (.mp d ((T.get d).gen+1),some (d,⟨(T.get d).gen+1,.mp ⟨te,[]⟩⟩))
   | none=>none
  | _=>none
 | _=>none
theorem Kn (h:RelI κ ι st a w) {t d:Nat} {v:V} {wr:Option (Nat×Ob)} (hx:Ko κ.P st.o t d=some (v,wr)):SemOk κ ι st.o w (Instr.makeMap t none) v wr:=by
 unfold Ko at hx
 split at hx
 case h_2=>cases hx
 rename_i k e ht
 split at hx
 case h_2=>cases hx
 rename_i hk
 split at hx
 case h_2=>cases hx
 rename_i te hte
 simp only[Option.some.injEq,Prod.mk.injEq] at hx
 obtain⟨rfl,rfl⟩:=hx
 refine⟨.map (some w.heap.size),w.alloc (.map #[] 0),_,?_,To.new h (w1:=w) rfl rfl rfl rfl d (.map #[] 0) (.mp ⟨te,[]⟩) (fun T' ι' w' H hn=>⟨#[],0,hn,rfl,fun i p x hp _=>by simp at hp⟩),?_⟩
 ·simp[Instr.makeMap,Result.andThen]
 ·exact .mp ⟨_,rfl⟩ (by simp[wrT,Tab.get_put]) fun _ _=>by simp
def ZU (P:Program) (T:Tab) (t:Nat) (x k:V) (ok:Bool):Option V:=match P.underlying t,x,k with
 | some (.map kt e),.mp s g,.int .i64 n=>match P.underlying kt with
  | some (.int .i64)=>if (T.get s).gen=g then(match (T.get s).k with
   | .mp M=>if (isOneT M.e||isAggT M.e)=true then(match JV P M.e e with
    | some z=>some (bif ok then .tup [valW M.e (mget z n M.l),.bs (mhas n M.l)] else valW M.e (mget z n M.l))
    | none=>none) else none
   | _=>none) else none
  | _=>none
 | _,_,_=>none
theorem Xi (h:RelI κ ι st a w) {t:Nat} {x k v:V} {ok:Bool} {cx ck:Value} (hr:Rv st.o ι (Stable κ.D st.o ι w) w x cx) (hk:Rv st.o ι (Stable κ.D st.o ι w) w k ck)
  (hx:ZU κ.P st.o t x k ok=some v):SemOk κ ι st.o w (Instr.lookup t cx ck ok) v none:=by
 unfold ZU at hx
 split at hx
 case h_2=>cases hx
 rename_i kt e s g n ht
 split at hx
 case h_2=>cases hx
 rename_i hkt
 split at hx
 case isFalse=>cases hx
 rename_i hg
 split at hx
 case h_2=>cases hx
 rename_i M hM
 split at hx
 case isFalse=>cases hx
 rename_i hone
 split at hx
 case h_2=>cases hx
 rename_i z hz
 injection hx with hx;subst hx
 have hl:st.o.live s:=by simp[Tab.live,hM,OK.live]
 have:=hr.mp_ hg hl
 subst this
 have:=hk.int_
 subst this
 have hob:=h.tr.ob s
 rw[hM] at hob
 obtain⟨es,clock,hb,hsz,hes⟩:=hob
 obtain⟨zv,h5,h6⟩:=JU hz
 have hkey:MapKept.IsKey (.int .i64) (.int .i64 n):=by simp[MapKept.IsKey]
 have hone':isOneT M.e=true∨isAggT M.e=true:=by grind
 have hrun:∀(a:Option (Nat×Value)),Instr.findNow (.int .i64) (.int .i64 n) es.toList 0=some a→
   (Instr.lookup t (.map (some (ι s))) (.int .i64 n) ok).run κ.P w = .ok (match a with
    | some (_,v)=>if ok=true then .tuple #[v,.bool true] else v
    | none=>if ok=true then .tuple #[zv,.bool false] else zv) w:=fun a ha=>by
  simp only[Instr.lookup,Sem.run_bind,run_underlying ht,Result.andThen_ok,MapKept.run_getObj_map hb,MapKept.run_checkKey hkt hkey,MapKept.run_findKey hkt ha,Sem.run_pure]
  grind[Sem.run_bind,Result.andThen_ok,Sem.run_pure]
 have fin:∀(y:M.e.I) (u:Value) (b:Bool),Rp (Stable κ.D st.o ι w) w (valW M.e y) u→
   Rv st.o ι (Stable κ.D st.o ι w) w (bif ok then .tup [valW M.e y,.bs b] else valW M.e y) (if ok=true then .tuple #[u,.bool b] else u):=fun y u b h0=>by
  cases ok with
  | true=>exact .pure (.tup (vs:=[u,.bool b]) rfl (LR.cons h0 (.cons (.bs (.bool b)) .nil)).2)
  | false=>exact .pure h0
 rcases jP n (R:=fun y u=>Rp (Stable κ.D st.o ι w) w (vOf M.e (cellsV M.e y)) u) M.l es.toList 0 (by grind) hes with⟨a1,a2,a3,_⟩ | ⟨j,e1,p,a1,a2,a3,a4,a5,a6,_⟩
 ·refine SemOk.same h (hrun _ a1) ?_
  simp_all
 ·refine SemOk.same h (hrun _ a1) ?_
  (rw[a5,a6]<;>grind[yV])
def Km (P:Program) (T:Tab) (t:Nat) (x k v:V):Option (Option (Nat×Ob)):=match P.underlying t,x,k with
 | some (.map kt e),.mp s g,.int .i64 n=>match P.underlying kt with
  | some (.int .i64)=>if (T.get s).gen=g then(match (T.get s).k with
   | .mp M=>match impV M.e v with
    | some y=>some (some (s,⟨g,.mp ⟨M.e,mput n y M.l⟩⟩))
    | none=>none
   | _=>none) else none
  | _=>none
 | _,_,_=>none
theorem Kl (h:RelI κ ι st a w) {t:Nat} {x k v:V} {cx ck cv:Value} {wr:Option (Nat×Ob)} (hr:Rv st.o ι (Stable κ.D st.o ι w) w x cx) (hk:Rv st.o ι (Stable κ.D st.o ι w) w k ck)
  (hv:Rv st.o ι (Stable κ.D st.o ι w) w v cv) (hx:Km κ.P st.o t x k v=some wr):∃w' ι',(Instr.mapUpdate t cx ck cv).run κ.P w=.ok () w'∧To κ st.o ι w (wrT st.o wr) ι' w':=by
 unfold Km at hx
 split at hx
 case h_2=>cases hx
 rename_i kt e s g n ht
 split at hx
 case h_2=>cases hx
 rename_i hkt
 split at hx
 case isFalse=>cases hx
 rename_i hg
 split at hx
 case h_2=>cases hx
 rename_i M hM
 split at hx
 case h_2=>cases hx
 rename_i y hy
 injection hx with hx;subst hx
 have hl:st.o.live s:=by simp[Tab.live,hM,OK.live]
 have:=hr.mp_ hg hl
 subst this
 have:=hk.int_
 subst this
 have hob:=h.tr.ob s
 rw[hM] at hob
 obtain⟨es,clock,hb,hsz,hes⟩:=hob
 have hkey:MapKept.IsKey (.int .i64) (.int .i64 n):=by simp[MapKept.IsKey]
 have hyv:Rp (Stable κ.D st.o ι w) w (vOf M.e (cellsV M.e y)) cv:=(ju (impC_rv M.e) hy hv).pure_ (jY (ql M.e y))
 have turn:∀(es':Array MapEntry) (clock':Nat) (l':List (Int×M.e.I)),es'.size=l'.length→
   (∀(i:Nat) (p:Int×M.e.I) (x:MapEntry),l'[i]? = some p→es'.toList[i]? = some x→x.key=.int .i64 p.1∧Rp (Stable κ.D st.o ι w) w (vOf M.e (cellsV M.e p.2)) x.val)→
   To κ st.o ι w (st.o.put s ⟨g,.mp ⟨M.e,l'⟩⟩) ι { w with heap:=w.heap.setIfInBounds (ι s) (.map es' clock') }:=fun es' clock' l' h1 h2=>by
  refine To.turn (w':={ w with heap:=w.heap.setIfInBounds (ι s) (.map es' clock') }) h s hl ⟨g,_⟩ rfl rfl rfl (by simp) (fun j hj=>by grind) (by simp[hg]) (fun p _ hp=>by simp[hM,OK.fzAt] at hp) (fun _ _ _ _ e=>by simp at e) (fun T' ι' H=>?_) (hsh:=fun arr ty fz e=>by grind)
  refine⟨es',clock',by grind,h1,fun i p x hp hx=>⟨(h2 i p x hp hx).1,(h2 i p x hp hx).2.mono H.st⟩⟩
 rcases jP n (R:=fun y u=>Rp (Stable κ.D st.o ι w) w (vOf M.e (cellsV M.e y)) u) M.l es.toList 0 (by grind) hes with⟨a1,_,_,a4⟩ | ⟨j,e1,p,a1,a2,a3,a4,_,_,a7⟩
 ·refine⟨{ w with heap:=w.heap.setIfInBounds (ι s) (.map (es.push { key:=.int .i64 n,val:=cv,born:=clock }) (clock+1)) },ι,?_,?_⟩
  rotate_left
  ·rw[a4 y]
   refine turn (es.push { key:=.int .i64 n,val:=cv,born:=clock }) (clock+1) _ (by simp[hsz]) fun i p x hp hx=>?_
   grind
  ·simp only[Instr.mapUpdate,Sem.run_bind,run_underlying ht,Result.andThen_ok,MapKept.run_getObj_map hb,MapKept.run_checkKey hkt hkey,MapKept.run_findKey hkt a1]
   exact MapKept.run_setObj_map _ hb
 ·have hj:es[j]? = some e1:=by simpa using a2
  have hke:e1.key=.int .i64 n:=by grind
  refine⟨{ w with heap:=w.heap.setIfInBounds (ι s) (.map (es.modify j fun e=>{ e with key:=.int .i64 n,val:=cv }) clock) },ι,?_,?_⟩
  rotate_left
  ·rw[a7 y]
   refine turn (es.modify j fun e=>{ e with key:=.int .i64 n,val:=cv }) clock _ (by simp[hsz]) fun i p' x hp hx=>?_
   grind
  ·have h0:(0:Nat)+j=j:=Nat.zero_add j
   rw[h0] at a1
   simp only[Instr.mapUpdate,Sem.run_bind,run_underlying ht,Result.andThen_ok,MapKept.run_getObj_map hb,MapKept.run_checkKey hkt hkey,MapKept.run_findKey hkt a1,hj,Option.map_some,Option.getD_some,hke,MapKept.run_keyThatStays hkey]
   exact MapKept.run_setObj_map _ hb
def Ks (P:Program) (T:Tab) (t:Nat) (x:V):Option V:=match P.underlying t,x with
 | some (.map _ _),.mp s g=>if (T.get s).gen=g then(match (T.get s).k with
  | .mp M=>some (.int .i64 M.l.length)
  | _=>none) else none
 | _,_=>none
theorem Kr (h:RelI κ ι st a w) {t ty:Nat} {x v:V} {cx:Value} {ts:Array TypeId} (hts:ts[0]? = some t) (hr:Rv st.o ι (Stable κ.D st.o ι w) w x cx) (hx:Ks κ.P st.o t x=some v):
  SemOk κ ι st.o w (Builtin.len_ ts ty #[cx]) v none:=by
 unfold Ks at hx
 split at hx
 case h_2=>cases hx
 rename_i k e s g ht
 split at hx
 case isFalse=>cases hx
 rename_i hg
 split at hx
 case h_2=>cases hx
 rename_i M hM
 injection hx with hx;subst hx
 have hl:st.o.live s:=by simp[Tab.live,hM,OK.live]
 have:=hr.mp_ hg hl
 subst this
 have hob:=h.tr.ob s
 rw[hM] at hob
 obtain⟨es,clock,hb,hsz,hes⟩:=hob
 refine SemOk.same h (cv:=.int .i64 M.l.length) ?_ (.pure (.int _ _))
 simp[Builtin.len_,hts,run_underlying ht,MapKept.run_getObj_map hb,goInt,Result.andThen,hsz]
end
end Go.Abs
namespace Go.Abs
open Go.RowKit
set_option linter.unusedVariables false
set_option linter.unusedSimpArgs false
section
variable {κ : Cx} {ι : Nat → Nat} {st : St} {a : Act} {w : World}
def yH (P:Program) (T:Tab) (src dst:Nat) (x:V):Option (V×Wr):=
 if src=dst then(match P.underlying src with
  | some (.slice e)=>match P.underlying e with
   | some (.int .u8)=>match x with
    | .own s g off n=>if (T.get s).gen=g then(match (T.get s).k with
     | .row ty sz false cs=>if cs.all (fun d=>d.pure&&d.flat)=true∧(off+n)*sz≤cs.length∧sz=1 then some (.sl n ((cs.take ((off+n)*sz)).drop (off*sz)),some (s,⟨g+1,.dead⟩)) else none
     | _=>none) else none
    | _=>none
   | _=>none
  | _=>none) else none
theorem Jy (h:RelI κ ι st a w) {src dst:Nat} {x v:V} {cx:Value} {wr:Wr} (hr:Rv st.o ι (Stable κ.D st.o ι w) w x cx) (hx:yH κ.P st.o src dst x=some (v,wr)):SemOk κ ι st.o w (convert src dst cx) v wr:=by
 unfold yH at hx
 split at hx
 case isFalse=>cases hx
 rename_i hsd
 subst hsd
 split at hx
 case h_2=>cases hx
 rename_i e he
 split at hx
 case h_2=>cases hx
 rename_i hu
 split at hx
 case h_2=>cases hx
 rename_i s g off n
 split at hx
 case isFalse=>cases hx
 rename_i hg
 split at hx
 case h_2=>cases hx
 rename_i ty sz cs hk
 split at hx
 case isFalse=>cases hx
 rename_i hcc
 obtain⟨hall,hle,hsz1⟩:=hcc
 simp only[Option.some.injEq,Prod.mk.injEq] at hx
 obtain⟨rfl,rfl⟩:=hx
 have hT:st.o.get s=⟨g,.row ty sz false cs⟩:=by (cases hTs:st.o.get s<;>grind)
 have hl:st.o.live s:=by simp[Tab.live,hT,OK.live]
 obtain⟨ad,c,cap,arr,ty2,fz,rfl,hbk,hmem,has,hn,hcap,hpl⟩:=hr.own_ hT
 have hob:=h.tr.ob s
 rw[hT] at hob
 obtain⟨arr2,fz2,cap2,hh2,hf2,has2,h0,hle2,hc2⟩:=hob
 rw[hmem] at hh2
 injection hh2 with hh2;injection hh2 with e1 e2 e3;subst e1
 let fz':Nat×Nat:=if fz.1==fz.2 then(arr.size,arr.size+1) else(min fz.1 arr.size,max fz.2 (arr.size+1))
 let w':World:=w.freeze ⟨ι s,arr.size,none⟩ 1
 have hnew:w'.heap[ι s]? = some (.cells arr ty2 fz'):=by
  grind[World.freeze]
 have hoth:∀j,j≠ι s→w'.heap[j]? = w.heap[j]?:=by
  grind[World.freeze]
 have hsize:w'.heap.size=w.heap.size:=by grind[World.freeze]
 have hto:To κ st.o ι w (st.o.put s ⟨g+1,.dead⟩) ι w':=
  To.turn (w':=w') h s hl ⟨g+1,.dead⟩ rfl rfl rfl hsize hoth (by simp[hT]) (fun p hp hf=>by simp[hT,OK.fzAt] at hf) (fun ty' sz' fz1 cs' e _=>by simp at e) (fun _ _ _=>trivial) (hsh:=Shape.of hmem hnew rfl)
 refine⟨.slice (some ad) n c,w',ι,?_,hto,?_⟩
 ·have hsh:w.shape? (ι s)=some (ty2,arr.size):=by simp only[World.shape?,hmem]
  simp[convert,run_underlying he,run_underlying hu,markStringish,shape,freeze,Sem.run,hsh,hbk]
  rfl
 ·have hml:(off+n)*sz≤arr.size:=by grind
  have hmul:(off+n)*sz=off*sz+n*sz:=Nat.add_mul _ _ _
  refine .pure (.sl (vs:=(arr.toList.take ((off+n)*sz)).drop (off*sz)) (by omega) (fun i u hu=>?_) (by simp;omega) fun i d u hd hu=>?_)
  ·rw[List.getElem?_drop,List.getElem?_take] at hu
   split at hu
   ·rename_i hi
    have hk0:n≠0:=by grind
    have:=hpl (by omega);subst this
    have hadd:(⟨ι s,off*sz,none⟩:Addr).add i=⟨ι s,off*sz+i,none⟩:=by unfold Addr.add;split<;>simp_all
    rw[hadd]
    refine⟨⟨?_,by grind,fun t ht e=>?_⟩,?_⟩
    ·rcases h.my s hl with h1 | h1
     ·exact .inr (.inl h1)
     ·exact .inr (.inr h1)
    ·simp only[wrT,Tab.live,Tab.get_put] at ht
     by_cases hst:s=t
     ·grind[OK.live]
     ·rw[if_neg hst] at ht
      exact absurd (h.tr.inj t s ht hl e).symm hst
    grind[World.cell?]
   ·cases hu
  ·rw[List.getElem?_drop,List.getElem?_take] at hd hu
   split at hd
   ·rename_i hi
    rw[if_pos hi] at hu
    have hm:=List.all_eq_true.1 hall d (List.mem_of_getElem? hd)
    simp only[Bool.and_eq_true] at hm
    exact xf ((hc2 _ d u hd hu).pure_ hm.1) hm.2
   ·cases hd
end
def Vp:V→Bool
 | .si _=>true
 | _=>false
def Ve (P:Program) (st:St) (o:Oper):Option (Tr (V×Wr)):=
 match o.op with
 | .store t x y=>(jf P st.o t (st.eval x) (st.eval y)).map fun wr=>.ret (.tup [],wr)
 | .typeAssert x _ asserted ok=>match st.eval x with
  | .si X=>some ((siT X.e X.x).bind fun v=>.of ((zZ P asserted ok v).map fun v=>(v,none)))
  | _=>none
 | .binOp op t x y _=>if (Vp (st.eval x)||Vp (st.eval y))=true then
   some ((KY (st.eval x)).bind fun vx=>(KY (st.eval y)).bind fun vy=>.of (((aBin P op t x y (conB vx) (conB vy)).map symB).map fun v=>(v,none))) else none
 | .slice t x lo hi none=>(qO P st.o t (st.eval x) (lo.map st.eval) (hi.map st.eval)).map fun r=>.needs r.1 (.ret (r.2,none))
 | .indexAddr t x ix=>(yi P st.o t (st.eval x) (st.eval ix)).map fun r=>.needs r.1 (.ret (r.2,none))
 | .convert src dst x=>match Xg P st.o src dst (st.eval x) with
  | some r=>some (.needs r.1 (.ret (r.2,none)))
  | none=>(yH P st.o src dst (st.eval x)).map .ret
 | .makeSlice t l c=>match o.dst with
  | some d=>(ZT P st.o t (st.eval l) (st.eval c) d).map fun r=>.needs r.1 (.ret r.2)
  | none=>none
 | .alloc e=>match o.dst with
  | some d=>(yC P st.o e d).map .ret
  | none=>none
 | .call ⟨.builtin .len,args,ats⟩=>match args.toList,ats.toList with
  | [x],[t]=>match Ks P st.o t (st.eval x) with
   | some v=>some (.ret (v,none))
   | none=>(XU P st.o t (st.eval x)).map fun v=>.ret (v,none)
  | _,_=>none
 | .call ⟨.builtin .clear,args,ats⟩=>match args.toList,ats.toList with
  | [x],[t]=>(yj P st.o t (st.eval x)).map fun wr=>.ret (.tup [],wr)
  | _,_=>none
 | .buildSlice t n ps=>match o.dst with
  | some d=>(qw P st.o t n (st.parts ps.toList) d).map .ret
  | none=>none
 | .makeMap t none=>match o.dst with
  | some d=>(Ko P st.o t d).map .ret
  | none=>none
 | .lookup t x k ok=>(ZU P st.o t (st.eval x) (st.eval k) ok).map fun v=>.ret (v,none)
 | .mapUpdate t x k v=>(Km P st.o t (st.eval x) (st.eval k) (st.eval v)).map fun wr=>.ret (.tup [],wr)
 | _=>none
section
variable {κ : Cx} {ι : Nat → Nat} {st : St} {a : Act} {w : World}
theorem qY {α:Type} {x:Option α} {r:α} (h:(Tr.of x).run=some r):x=some r:=by rwa [Tr.run_of] at h
theorem qd {α:Type} {x r:α} (h:(Tr.ret x).run=some r):x=r:=by injection h
theorem qg {α β:Type} {x:Tr α} {f:α→Tr β} {r:β} (h:(x.bind f).run=some r):∃a,x.run=some a∧(f a).run=some r:=by
 rw[Tr.run_bind] at h
 (cases hx:x.run<;>grind)
theorem KE (h:RelI κ ι st a w) {o:Oper} {tr:Tr (V×Wr)} {v:V} {wr:Wr} (hx:Ve κ.P st o=some tr) (hr:tr.run=some (v,wr)):OpRes κ ι st.o a w o v (wrT st.o wr):=by
 obtain⟨dst,op,type,pos,after,guard⟩:=o
 unfold Ve at hx
 simp only at hx
 split at hx
 ·-- store
  rename_i t x y
  cases hs:jf κ.P st.o t (st.eval x) (st.eval y) with
  | none=>rw[hs] at hx;cases hx
  | some wr'=>
   rw[hs] at hx
   simp only[Option.map_some,Option.some.injEq] at hx
   subst hx
   have:=qd hr
   simp only[Prod.mk.injEq] at this
   obtain⟨rfl,rfl⟩:=this
   obtain⟨w',ι',hrun,ht⟩:=vQ h (h.eval x) (h.eval y) hs
   exact⟨undef,w',ι',.inr ⟨by simp[execOp,hrun],rfl⟩,ht,.pure (.tup (vs:=[]) rfl (by simp))⟩
 ·rename_i x xt asserted ok
  split at hx
  ·rename_i X hX
   injection hx with hx;subst hx
   obtain⟨v',h1,h2⟩:=qg hr
   rw[xZ] at h1
   injection h1 with h1;subst h1
   obtain⟨hq,rfl⟩:=one_eq (qY h2)
   have hxx:=h.eval x
   rw[hX] at hxx
   exact OpRes.of rfl (jU h (yo _ _ _ hxx.si_) hq)
  ·cases hx
 ·rename_i op' t x y yt
  split at hx
  ·injection hx with hx;subst hx
   obtain⟨vx,h1,h2⟩:=qg hr
   obtain⟨vy,h3,h4⟩:=qg h2
   rw[JY] at h1 h3
   injection h1 with h1;subst h1
   injection h3 with h3;subst h3
   obtain⟨hq,rfl⟩:=one_eq (qY h4)
   cases hb:aBin κ.P op' t x y (conB (unS (st.eval x))) (conB (unS (st.eval y))) with
   | none=>simp[hb] at hq
   | some u=>
    simp[hb] at hq;subst hq
    exact OpRes.of rfl (Z7 h (h.eval x).unS.conB (h.eval y).unS.conB hb).symB
  ·cases hx
 ·rename_i t x lo hi
  cases hs:qO κ.P st.o t (st.eval x) (lo.map st.eval) (hi.map st.eval) with
  | none=>rw[hs] at hx;cases hx
  | some r=>
   rw[hs] at hx
   simp only[Option.map_some,Option.some.injEq] at hx
   subst hx
   obtain⟨hb,hr⟩:=Tr.run_needs hr
   have:=qd hr
   simp only[Prod.mk.injEq] at this
   obtain⟨rfl,rfl⟩:=this
   have ro:∀o:Option Operand,RO st.o ι (Stable κ.D st.o ι w) w (o.map st.eval) (o.map a.eval):=fun o=>by
    cases o with
    | none=>trivial
    | some y=>exact h.eval y
   exact OpRes.of rfl (vw h (h.eval x) (ro lo) (ro hi) (bs:=r.1) hs hb)
 ·rename_i t x ix
  cases hs:yi κ.P st.o t (st.eval x) (st.eval ix) with
  | none=>rw[hs] at hx;cases hx
  | some r=>
   rw[hs] at hx
   simp only[Option.map_some,Option.some.injEq] at hx
   subst hx
   obtain⟨hb,hr⟩:=Tr.run_needs hr
   have:=qd hr
   simp only[Prod.mk.injEq] at this
   obtain⟨rfl,rfl⟩:=this
   exact OpRes.of rfl (Z8 h (h.eval x) (h.eval ix) (bs:=r.1) hs hb)
 ·rename_i src dst' x
  split at hx
  ·rename_i r hs
   injection hx with hx;subst hx
   obtain⟨hb,hr⟩:=Tr.run_needs hr
   have:=qd hr
   simp only[Prod.mk.injEq] at this
   obtain⟨rfl,rfl⟩:=this
   exact OpRes.of rfl (xT h (h.eval x) (Xf (κ:=κ) (d:=0) (bs:=r.1) hs hb))
  ·cases hc:yH κ.P st.o src dst' (st.eval x) with
   | none=>rw[hc] at hx;cases hx
   | some r=>
    rw[hc] at hx
    simp only[Option.map_some,Option.some.injEq] at hx
    subst hx
    have:=qd hr
    subst this
    exact OpRes.of rfl (Jy h (h.eval x) hc)
 ·rename_i t l c
  split at hx
  ·rename_i d
   cases hs:ZT κ.P st.o t (st.eval l) (st.eval c) d with
   | none=>rw[hs] at hx;cases hx
   | some r=>
    obtain⟨bs,v',wr'⟩:=r
    rw[hs] at hx
    simp only[Option.map_some,Option.some.injEq] at hx
    subst hx
    obtain⟨hb,hr⟩:=Tr.run_needs hr
    have:=qd hr
    simp only[Prod.mk.injEq] at this
    obtain⟨rfl,rfl⟩:=this
    exact OpRes.of rfl (Xh h (h.eval l) (h.eval c) hs hb)
  ·cases hx
 ·rename_i e
  split at hx
  ·rename_i d
   cases hs:yC κ.P st.o e d with
   | none=>rw[hs] at hx;cases hx
   | some r=>
    rw[hs] at hx
    simp only[Option.map_some,Option.some.injEq] at hx
    subst hx
    have:=qd hr
    subst this
    exact OpRes.of rfl (Ji h hs)
  ·cases hx
 ·rename_i args ats
  split at hx
  ·rename_i x t ea et
   obtain⟨l1⟩:=args;obtain⟨l2⟩:=ats
   simp at ea et;subst ea et
   cases hm:Ks κ.P st.o t (st.eval x) with
   | some v'=>
    rw[hm] at hx
    simp only[Option.some.injEq] at hx
    subst hx
    have:=qd hr
    simp only[Prod.mk.injEq] at this
    obtain⟨rfl,rfl⟩:=this
    refine OpRes.of (s:=Builtin.len_ #[t] type #[a.eval x]) ?_ (Kr h rfl (h.eval x) hm)
    simp[execOp,resolve,invoke,builtin]
   | none=>
   rw[hm] at hx
   simp only at hx
   cases hs:XU κ.P st.o t (st.eval x) with
   | none=>rw[hs] at hx;cases hx
   | some v'=>
    rw[hs] at hx
    simp only[Option.map_some,Option.some.injEq] at hx
    subst hx
    have:=qd hr
    simp only[Prod.mk.injEq] at this
    obtain⟨rfl,rfl⟩:=this
    refine OpRes.of (s:=Builtin.len_ #[t] type #[a.eval x]) ?_ (XT h rfl (h.eval x) hs)
    simp[execOp,resolve,invoke,builtin]
  ·cases hx
 ·rename_i args ats
  split at hx
  ·rename_i x t ea et
   obtain⟨l1⟩:=args;obtain⟨l2⟩:=ats
   simp at ea et;subst ea et
   cases hs:yj κ.P st.o t (st.eval x) with
   | none=>rw[hs] at hx;cases hx
   | some wr'=>
    rw[hs] at hx
    simp only[Option.map_some,Option.some.injEq] at hx
    subst hx
    have:=qd hr
    simp only[Prod.mk.injEq] at this
    obtain⟨rfl,rfl⟩:=this
    refine OpRes.of (s:=Builtin.clear_ #[t] type #[a.eval x]) ?_ (Z9 h rfl (h.eval x) hs)
    simp[execOp,resolve,invoke,builtin]
  ·cases hx
 ·rename_i t n ps
  split at hx
  ·rename_i d
   cases hs:qw κ.P st.o t n (st.parts ps.toList) d with
   | none=>rw[hs] at hx;cases hx
   | some r=>
    rw[hs] at hx
    simp only[Option.map_some,Option.some.injEq] at hx
    subst hx
    have:=qd hr
    subst this
    exact OpRes.of rfl (zo h hs)
  ·cases hx
 ·rename_i t
  split at hx
  ·rename_i d
   cases hs:Ko κ.P st.o t d with
   | none=>rw[hs] at hx;cases hx
   | some r=>
    rw[hs] at hx
    simp only[Option.map_some,Option.some.injEq] at hx
    subst hx
    have:=qd hr
    subst this
    exact OpRes.of rfl (Kn h hs)
  ·cases hx
 ·rename_i t x k ok
  cases hs:ZU κ.P st.o t (st.eval x) (st.eval k) ok with
  | none=>rw[hs] at hx;cases hx
  | some r=>
   rw[hs] at hx
   simp only[Option.map_some,Option.some.injEq] at hx
   subst hx
   have:=qd hr
   simp only[Prod.mk.injEq] at this
   obtain⟨rfl,rfl⟩:=this
   exact OpRes.of rfl (Xi h (h.eval x) (h.eval k) hs)
 ·rename_i t x k v
  cases hs:Km κ.P st.o t (st.eval x) (st.eval k) (st.eval v) with
  | none=>rw[hs] at hx;cases hx
  | some wr'=>
   rw[hs] at hx
   simp only[Option.map_some,Option.some.injEq] at hx
   subst hx
   have:=qd hr
   simp only[Prod.mk.injEq] at this
   obtain⟨rfl,rfl⟩:=this
   obtain⟨w',ι',hrun,ht⟩:=Kl h (h.eval x) (h.eval k) (h.eval v) hs
   exact⟨undef,w',ι',.inr ⟨by simp[execOp,hrun],rfl⟩,ht,.pure (.tup (vs:=[]) rfl (by simp))⟩
 ·cases hx
end
def aCallT2 (Γ:OrcT) (Λ:Lend) (T:Tab) (f:Nat) (args:List V) (d:Nat):Tr (V×Tab):=
 match qK depth T (Λ f) 0 [] args with
 | some (xs,l,bs)=>
  if bs.Nodup∧bs.length<1000000 then
   match xE depth T bs with
   | some (lb,l2)=>(Γ f xs lb).bind fun r=>.needs (kT T bs r.2.1) (.of (fin3 T (l++l2) bs d r.1 r.2.1 r.2.2))
   | none=>.fail
  else .fail
 | none=>.fail
where fin3 (T:Tab) (l bs:List Nat) (d:Nat) (res:V) (lb' lf:List OK):Option (V×Tab):=
 if lf.length≤4∧bs.all (fun s=>!l.contains s)=true then
  match zp (if qz res lb' lf=true then T else T.freezes l) bs lb' with
  | some T2=>match xz bs d T2 0 lf with
   | some T3=>(ren T3 bs d lf.length res).map fun v=>(v,T3)
   | none=>none
  | none=>none
 else none
theorem Q3 {Γ:OrcT} {Λ:Lend} {T:Tab} {f:Nat} {args:List V} {d:Nat} {r:V×Tab} (h:(aCallT2 Γ Λ T f args d).run=some r):vn Γ.orc Λ T f args d=some r:=by
 unfold aCallT2 at h
 unfold vn
 split at h
 ·rename_i xs l bs hv
  rw[hv]
  split at h
  ·rename_i hc
   simp only[if_pos hc]
   split at h
   ·rename_i lb l2 hb
    rw[hb]
    obtain⟨q,hq,h2⟩:=qg h
    obtain⟨h3,h4⟩:=Tr.run_needs h2
    have h5:=qY h4
    grind[OrcT.orc,aCallT2.fin3,fin2]
   ·cases h
  ·cases h
 ·cases h
def GammaOk2 (P:Program) (Γ:Orc):Prop:=∀f xs lb res lb' lf,Γ f xs lb=some (res,lb',lf)→
 Spec2 P f xs lb res lb' lf ∧ ∃ fn, P.funcs[f]? = some fn ∧ (fn.name == "runtime.NumGoroutine") = false ∧ fn.body.isNone = false
section
variable {κ : Cx} {ι : Nat → Nat} {st : St} {a : Act} {w : World}
def Zr (P:Program) (T:Tab) (t d:Nat):Option (V×Wr):=match P.underlying t with
 | some (.slice e)=>match P.info? e with
  | some i=>some (.sz,some (d,⟨(T.get d).gen+1,.dead⟩))
  | none=>none
 | _=>none
theorem JD (h:RelI κ ι st a w) {t d:Nat} {v:V} {wr:Wr} (hx:Zr κ.P st.o t d=some (v,wr)):SemOk κ ι st.o w (Instr.buildSlice t 0 #[]) v wr:=by
 unfold Zr at hx
 split at hx
 case h_2=>cases hx
 rename_i e ht
 split at hx
 case h_2=>cases hx
 rename_i i hi
 simp only[Option.some.injEq,Prod.mk.injEq] at hx
 obtain⟨rfl,rfl⟩:=hx
 refine⟨.slice (some ⟨w.heap.size,0,none⟩) 0 0,w.alloc (.cells #[] e),_,?_,To.new h (w1:=w) rfl rfl rfl rfl d (.cells #[] e) .dead (fun _ _ _ _ _=>trivial),.pure .sz⟩
 have hr0:(Array.range 0)=(#[]:Array Nat):=by simp
 simp[Instr.buildSlice,run_underlying ht,run_size hi,Instr.fill,newRow,hr0]
def Vf (P:Program) (st:St) (o:Oper):Option (V×Wr):=match o.op with
 | .buildSlice t n ps=>match n with
  | 0=>match ps.toList with
   | []=>match o.dst with
    | some d=>Zr P st.o t d
    | none=>none
   | _=>none
  | _=>none
 | _=>none
theorem KF (h:RelI κ ι st a w) {o:Oper} {v:V} {wr:Wr} (hx:Vf κ.P st o=some (v,wr)):OpRes κ ι st.o a w o v (wrT st.o wr):=by
 obtain⟨dst,op,type,pos,after,guard⟩:=o
 unfold Vf at hx
 split at hx
 ·rename_i t n ps ho
  simp only at ho;subst ho
  split at hx
  ·split at hx
   ·rename_i hps
    obtain⟨l⟩:=ps
    simp at hps;subst hps
    split at hx
    ·refine OpRes.of (s:=Instr.buildSlice t 0 #[]) ?_ (JD h hx)
     simp[execOp]
    ·cases hx
   ·cases hx
  ·cases hx
 ·cases hx
end
def Zn (Γ:OrcT) (Λ:Lend) (P:Program) (st:St) (o:Oper):Tr (V×Tab):=
 match o.op with
 | .call ⟨.value f,args,_⟩=>match st.eval f with
  | .fn k caps=>aCallT2 Γ Λ st.o k (args.toList.map st.eval++caps) (o.dst.getD 99999)
  | _=>.fail
 | _=>match Vf P st o with
  | some r=>.ret (r.1,wrT st.o r.2)
  | none=>match Ve P st o with
   | some tr=>tr.bind fun r=>.ret (r.1,wrT st.o r.2)
   | none=>(aopT P st o).bind fun r=>.ret (r.1,wrT st.o r.2)
section
variable {κ : Cx} {ι : Nat → Nat} {st : St} {a : Act} {w : World}
theorem Jp {Γ:OrcT} {Λ:Lend} (hΓ:GammaOk2 κ.P Γ.orc) (h:RelI κ ι st a w) {o:Oper} {v:V} {T':Tab} (hx:(Zn Γ Λ κ.P st o).run=some (v,T')) {K:Act→World→Prop} {Q:Exit→Act→World→Prop}
  (hK:∀cv w' ι',To κ st.o ι w T' ι' w'→Rv T' ι' (Stable κ.D T' ι' w') w' v cv→K (a.put o.dst cv) w'):o.wp κ.P a w K Q:=by
 unfold Zn at hx
 split at hx
 ·rename_i f args ts ho
  split at hx
  ·rename_i k caps hf
   have hfv:=h.eval f
   rw[hf] at hfv
   obtain⟨us,hfu,hl,hh⟩:=hfv.fn_
   have hx':=Q3 hx
   have hcall:=hx'
   unfold vn at hcall
   have hent : ∃ fn, κ.P.funcs[k]? = some fn ∧ (fn.name == "runtime.NumGoroutine") = false ∧ fn.body.isNone = false := by
    split at hcall
    ·split at hcall
     ·split at hcall
      ·split at hcall
       ·rename_i hg
        exact(hΓ _ _ _ _ _ _ hg).2
       ·cases hcall
      ·cases hcall
     ·cases hcall
    ·cases hcall
   obtain⟨fn,h1,h2,h3⟩:=hent
   unfold Oper.wp
   rw[jx ho hfu h1 h2 h3]
   have hargs:LR (Rv st.o ι (Stable κ.D st.o ι w) w) (args.toList.map st.eval++caps) (args.map a.eval++⟨us⟩).toList:=by
    have:=LR.map st.eval a.eval args.toList (R:=Rv st.o ι (Stable κ.D st.o ι w) w) fun x _=>h.eval x
    simpa using this.append ⟨hl,hh⟩
   refine(JO (fun f xs lb res lb' lf hg=>(hΓ f xs lb res lb' lf hg).1) h hx' hargs).mono fun e w'=>?_
   grind
  ·cases hx
 ·have fin:∀(wr:Wr),OpRes κ ι st.o a w o v (wrT st.o wr)→T'=wrT st.o wr→o.wp κ.P a w K Q:=fun wr hop e=>by
   subst e
   obtain⟨cv,w',ι',hrun,hto,hv⟩:=hop
   unfold Oper.wp
   rcases hrun with hrun | ⟨hrun,rfl⟩
   ·rw[hrun];exact hK cv w' ι' hto hv
   ·rw[hrun];exact hK undef w' ι' hto hv
  split at hx
  ·rename_i r hr
   obtain⟨v',wr⟩:=r
   have:=qd hx
   simp only[Prod.mk.injEq] at this
   obtain⟨rfl,e⟩:=this
   grind[wr,KF]
  split at hx
  ·rename_i tr htr
   obtain⟨⟨v',wr⟩,h1,h2⟩:=qg hx
   have:=qd h2
   simp only[Prod.mk.injEq] at this
   obtain⟨rfl,e⟩:=this
   grind[wr,KE]
  ·obtain⟨⟨v',wr⟩,h1,h2⟩:=qg hx
   have:=qd h2
   simp only[Prod.mk.injEq] at this
   obtain⟨rfl,e⟩:=this
   grind[wr,XF,aopT_run]
end
def Vo (opl:List Oper) (a:Nat):Bool:=
 (opl.any fun o=>o.dst==some a&&(match o.op with | .buildSlice _ _ _=>true | _=>false)) &&
 (opl.filter fun o=>(o.op.operands.toList.any fun | .tmp t=>t==a | _=>false)).length==1
def K2 (P:Program) (T:Tab) (t:Nat) (x ix:V):Option (List Bool×V×Wr):=
 match P.underlying t,x,ix with
 | some (.slice e),.own s g 0 n,.int _ i=>match P.info? e,Q9 P 8 e with
  | some inf,some te=>if (T.get s).gen=g∧te.size=inf.size∧te.flatT=true then(match (T.get s).k with
   | .row ty sz false cs=>if sz=te.size∧0<te.size then(match impN (impC te) n cs with
    | some (l,[])=>some ([decide (0≤i),decide (i<(n:Int))],.eptr s (g+1) te.size i.toNat 0,some (s,⟨g+1,.nrow ty false false ⟨te,l⟩⟩))
    | _=>none) else none
   | _=>none) else none
  | _,_=>none
 | _,_,_=>none
def Vr (P:Program) (opl:List Oper) (st:St) (o:Oper):Option (List Bool×V×Wr):=match o.op with
 | .indexAddr t (.tmp a) ix=>if Vo opl a=true then K2 P st.o t (st.get a) (st.eval ix) else none
 | _=>none
section
variable {κ : Cx} {ι : Nat → Nat} {st : St} {a : Act} {w : World}
theorem Kp (h:RelI κ ι st a w) {t:Nat} {x ix v:V} {cx ci:Value} {bs:List Bool} {wr:Wr} (hr:Rv st.o ι (Stable κ.D st.o ι w) w x cx) (hi:Rv st.o ι (Stable κ.D st.o ι w) w ix ci)
  (hx:K2 κ.P st.o t x ix=some (bs,v,wr)) (hbs:bs.all id=true):SemOk κ ι st.o w (Instr.indexAt t cx ci) v wr:=by
 unfold K2 at hx
 split at hx
 case h_2=>cases hx
 rename_i e s g n k i ht
 split at hx
 case h_2=>cases hx
 rename_i inf te hinf hte
 split at hx
 case isFalse=>cases hx
 rename_i hc
 obtain⟨hg,hsz,hfl⟩:=hc
 split at hx
 case h_2=>cases hx
 rename_i ty sz cs hk
 split at hx
 case isFalse=>cases hx
 rename_i hc2
 obtain⟨rfl,h0⟩:=hc2
 split at hx
 case h_2=>cases hx
 rename_i l himp
 injection hx with hx
 simp only[Prod.mk.injEq] at hx
 obtain⟨rfl,rfl,rfl⟩:=hx
 simp only[List.all_cons,List.all_nil,Bool.and_eq_true,id,decide_eq_true_eq,Bool.and_true] at hbs
 obtain⟨hi0,hi1⟩:=hbs
 have:=hi.int_;subst this
 have hT:st.o.get s=⟨g,.row ty te.size false cs⟩:=by cases hTs:st.o.get s;rw[hTs] at hk hg;simp at hk hg;subst hk hg;rfl
 have hl:st.o.live s:=by simp[Tab.live,hk,OK.live]
 obtain⟨ad,c,cap,arr,tb,fz,rfl,hbk,hmem,has,hn,hcap,hpl⟩:=hr.own_ hT
 have hob:=h.tr.ob s
 rw[hk] at hob
 obtain⟨arr2,fz2,cap2,b1,b2,b3,b4,b5,b6⟩:=hob
 rw[hmem] at b1
 injection b1 with b1;injection b1 with q1 q2 q3;subst q1 q2 q3
 have:=hpl (by omega);subst this
 have hal:arr.toList.length=arr.size:=Array.length_toList
 have hlr:LR (Rv st.o ι (Stable κ.D st.o ι w) w) cs (arr.toList.take cs.length):=by
  refine⟨by rw[List.length_take,hal];omega,fun j d u hd hu=>?_⟩
  rw[List.getElem?_take] at hu
  split at hu
  ·exact b6 j d u hd hu
  ·cases hu
 obtain⟨hll,hlr2⟩:=impN_rv (impC_rv te) n cs [] l _ himp hlr
 rw[List.append_nil] at hlr2
 have hcl:(⟨te,l⟩:TL).cells.length=l.length*te.size:=TL.cells_length _
 have hcl2:(⟨te,l⟩:TL).cells.length=min cs.length arr.size:=by rw[←hal,←List.length_take];exact hlr2.1
 have hto:To κ st.o ι w (st.o.put s ⟨g+1,.nrow tb false false ⟨te,l⟩⟩) ι w:=by
  refine To.turn h s hl ⟨g+1,.nrow tb false false ⟨te,l⟩⟩ rfl rfl rfl rfl (fun _ _=>rfl) (by rw[hg];exact Nat.le_succ _) (fun p _ hp=>by simp[hk,OK.fzAt] at hp) (fun ty' sz' fz' cs' e=>by cases e) (fun T' ι' H=>?_) (fun ty' fz' nl' L' e hge=>by simp only at hge;omega) (hsh:=.same rfl)
  refine .inr ⟨arr,fz,cap2,hmem,fun j hj=>b2 j hj,b3,h0,by rw[hcl2];exact Nat.min_le_right _ _,fun j d u hd hu=>?_⟩
  have hj:j<cs.length:=by have:=(List.getElem?_eq_some_iff.1 hd).1;omega
  exact(hlr2.2 j d u hd (by rw[List.getElem?_take,if_pos hj];exact hu)).mono H
 refine⟨.pointer (some ((⟨ι s,0*te.size,none⟩:Addr).add (i.toNat*inf.size))),w,ι,?_,hto,?_⟩
 ·simp[Instr.indexAt,asIntOf,run_underlying ht,hi0,hi1,run_size hinf]
 ·refine .eptr ⟨_,rfl⟩ (by simp[wrT,Tab.get_put]) fun ty2 fz2 nl2 L2 e2=>?_
  simp[wrT,Tab.get_put] at e2
  obtain⟨rfl,rfl,rfl,rfl⟩:=e2
  refine⟨rfl,by simp only;omega,?_⟩
  congr 2
  unfold Addr.add
  split
  ·rename_i e0;rw[hsz,e0];simp
  ·simp only[Addr.mk.injEq,true_and];rw[hsz];simp
end
def Zm (Γ:OrcT) (Λ:Lend) (P:Program) (opl:List Oper) (st:St) (o:Oper):Tr (V×Tab):=match Vr P opl st o with
 | some r=>Tr.needs r.1 (.ret (r.2.1,wrT st.o r.2.2))
 | none=>Zn Γ Λ P st o
def j7 (Γ:OrcT) (Λ:Lend) (P:Program) (opl:List Oper) (st:St) (o:Oper):Tr St:=
 match guardT opl st o with
 | some false=>.of (st.set o.dst (.tup []))
 | some true=>(Zm Γ Λ P opl st o).bind fun r=>(normT opl o r.1).bind fun v=>.of (({ st with o:=r.2 }:St).set o.dst v)
 | none=>.fail
def jd (Γ:OrcT) (Λ:Lend) (P:Program) (opl:List Oper):List Oper→St→Tr St
 | [],st=>.ret st
 | o::r,st=>(j7 Γ Λ P opl st o).bind (jd Γ Λ P opl r)
section
variable {κ : Cx} {st : St} {a : Act} {w : World}
theorem yZ {Γ:OrcT} {Λ:Lend} (hΓ:GammaOk2 κ.P Γ.orc) (hrel:Rel κ st a w) {ops:Array Oper} {o:Oper} {st':St} (hx:(j7 Γ Λ κ.P ops.toList st o).run=some st') {K:Act→World→Prop} {Q:Exit→Act→World→Prop}
  (hK:∀a' w',Rel κ st' a' w'→K a' w'):if Region.wanted o (yielded ops a.tmps) then o.wp κ.P a w K Q else K (a.put o.dst undef) w:=by
 obtain⟨ι,h⟩:=hrel
 unfold j7 at hx
 split at hx
 ·rename_i hg
  rw[zk h (guardT_ok hg)]
  simp only[Bool.false_eq_true,if_false]
  exact hK _ _ ⟨ι,h.set (To.refl h) (by simpa using qY hx) (.pure (.tup (vs:=[]) rfl (by simp)))⟩
 ·rename_i hg
  rw[zk h (guardT_ok hg)]
  simp only[if_true]
  obtain⟨⟨v,T'⟩,h1,h2⟩:=qg hx
  obtain⟨v',h3,h4⟩:=qg h2
  have hn:=normT_run h3
  try simp only at hn
  unfold Zm at h1
  split at h1
  ·rename_i r hl
   obtain⟨hb,h1⟩:=Tr.run_needs h1
   have:=qd h1
   injection this with e1 e2
   subst e1 e2
   obtain⟨dst,op,type,pos,after,guard⟩:=o
   unfold Vr at hl
   simp only at hl
   split at hl
   case h_2=>cases hl
   rename_i t sa ix
   split at hl
   case isFalse=>cases hl
   obtain⟨bs,v1,wr1⟩:=r
   obtain⟨cv,w',ι',hrun,hto,hv⟩:OpRes κ ι st.o a w ⟨dst,.indexAddr t (.tmp sa) ix,type,pos,after,guard⟩ v1 (wrT st.o wr1):=OpRes.of rfl (Kp h (h.eval (.tmp sa)) (h.eval ix) hl hb)
   have fin:∀cv w' ι',To κ st.o ι w (wrT st.o wr1) ι' w'→Rv (wrT st.o wr1) ι' (Stable κ.D (wrT st.o wr1) ι' w') w' v1 cv→K (a.put dst cv) w':=fun cv w' ι' hto hv=>hK _ _ ⟨ι',h.set hto (qY h4) (hn▸hv.norm)⟩
   unfold Oper.wp
   rcases hrun with hrun | ⟨hrun,rfl⟩
   ·rw[hrun];exact fin cv w' ι' hto hv
   ·rw[hrun];exact fin undef w' ι' hto hv
  ·exact Jp hΓ h h1 fun cv w' ι' hto hv=>hK _ _ ⟨ι',h.set hto (qY h4) (hn▸hv.norm)⟩
 ·cases hx
theorem xo {Γ:OrcT} {Λ:Lend} (hΓ:GammaOk2 κ.P Γ.orc) {ops:Array Oper} {Q:Exit→Act→World→Prop}:∀(l:List Oper) (st st':St) (a:Act) (w:World),(jd Γ Λ κ.P ops.toList l st).run=some st'→Rel κ st a w→
  (∀a' w',Rel κ st' a' w'→Q .normal a' w')→wpList κ.P ops Q l a w
 | [],st,st',a,w,hx,hr,hQ=>by
  have:=qd hx
  subst this
  exact wpList_nil (hQ a w hr)
 | o::r,st,st',a,w,hx,hr,hQ=>by
  obtain⟨s1,h1,h2⟩:=qg hx
  exact wpList_step fun K hK=>yZ hΓ hr h1 fun a' w' hr'=>hK _ _ (xo hΓ r s1 st' a' w' h2 hr' hQ)
end
def Ql:OK→Bool
 | .box _ _=>true
 | _=>false
def listed (r:V×List OK×List OK):V×List OK×List OK:=match r with
 | (.acc s g,lb',[.nrow ty false true L])=>if s=2000000∧g=0∧lb'.length≤1000 then(.lst L,lb',[]) else(.acc s g,lb',[.nrow ty false true L])
 | r=>r
theorem yn {P:Program} {f:FuncId} {args:List V} {lb lb':List OK} {ty:Nat} {fz nl:Bool} {L:TL} (h:Spec2 P f args lb (.acc 2000000 0) lb' [.nrow ty fz nl L]) (hl:lb'.length≤1000):Spec2 P f args lb (.lst L) lb' []:=by
 intro w cargs β S htr hargs
 refine(h w cargs β S htr hargs).mono fun e w'=>?_
 rintro⟨v,β',rfl,hk,htr',hv,hl2,hb1,hb2⟩
 have hg:∀t,t≠2000000→(tabU lb' []).get t=(tabU lb' [.nrow ty fz nl L]).get t:=fun t ht=>by
  rw[get_tabU,get_tabU]
  grind
 have hn:lb'[2000000-1000000]? = none:=List.getElem?_eq_none (by omega)
 have hg1:(tabU lb' [.nrow ty fz nl L]).get 2000000=⟨0,.nrow ty fz nl L⟩:=by simp_all[get_tabU,if_pos]
 have hg2:(tabU lb' []).get 2000000=⟨0,.dead⟩:=by simp_all[get_tabU,if_pos]
 have hne:∀t,(tabU lb' []).live t→t≠2000000:=fun t ht e=>by grind[Tab.live,OK.live]
 have hlv:∀t,(tabU lb' []).live t→(tabU lb' [.nrow ty fz nl L]).live t:=fun t ht=>by
  grind[Tab.live]
 generalize hT1:tabU lb' [.nrow ty fz nl L]=T1 at *
 generalize hT2:tabU lb' []=T2 at *
 generalize hD:Dn S w.heap.size β lb lb'=D at *
 have hgen:∀t,(T1.get t).gen=(T2.get t).gen:=fun t=>by
  grind
 have hnd:∀t g k,T2.get t=⟨g,k⟩→k≠.dead→t≠2000000:=fun t g k hq hk e=>by
  grind
 have H:Goes D T1 β' w' T2 β' w':=⟨fun p hp=>⟨⟨hp.1,hp.2.1,fun t ht he=>by rw[hg t (hne t ht)];exact hp.2.2 t (hlv t ht) he⟩,rfl⟩,fun t=>by grind,fun t ht _=>⟨hlv t ht,rfl⟩,
  fun t g' ty sz fz' cs' hq _=>by grind,
  fun t g' ty fz nl L hq _=>by grind⟩
 refine⟨v,β',rfl,hk,⟨fun t=>?_,fun t u ht hu he=>htr'.inj t u (hlv t ht) (hlv u hu) he,fun t ht=>htr'.lt t (hlv t ht)⟩,.pure (.lst ?_),hl2,fun j hj hlj=>hb1 j hj (hlv _ hlj),fun j hj=>by simp at hj⟩
 ·by_cases ht:t=2000000
  ·subst ht;rw[hg2];trivial
  ·rw[hg t ht];exact(htr'.ob t).mono H rfl
 ·cases hv with
  | pure h=>cases h
  | acc hv hgg hh=>
   obtain⟨e,l⟩:=L
   rcases hh ty fz nl _ hg1 with⟨hnl,hnil,p,rfl⟩ | ⟨hnn,ad,c,cap,arr,tb,fz1,rfl,hbk,hmem,has,hn1,hcap,hpl⟩
   ·simp only at hnil
    subst hnil
    cases p with
    | none=>exact .slz
    | some a=>exact .sl (vs:=[]) (Nat.le_refl _) (fun i u hi=>by simp at hi) rfl (fun i d u hd=>by grind)
   ·have hlive:T1.live 2000000:=by simp only[Tab.live,hg1];exact hnn
    have hob:=htr'.ob 2000000
    rw[hg1] at hob
    obtain⟨arr',fz',cap',b1,b2,b3,b4,b5,b6⟩:=hob.resolve_left hnn
    rw[hmem] at b1
    injection b1 with b1;injection b1 with q1 q2 q3;subst q1 q2 q3
    have hcl:=TL.cells_length ⟨e,l⟩
    have hsl:arr.toList.length=arr.size:=Array.length_toList
    simp only at hcl hn1 has b4
    have hle:l.length*e.size≤arr.size:=by grind
    refine .sl (vs:=arr.toList.take (l.length*e.size)) (by grind) (fun i u hi=>?_) (by grind) (fun i d u hd hu=>?_)
    ·rw[List.getElem?_take] at hi
     split at hi
     case isFalse=>cases hi
     rename_i hi1
     have hl0:0<l.length:=Nat.pos_of_ne_zero fun h=>by grind
     have:=hpl (by omega);subst this
     have hadd:(⟨β' 2000000,0*e.size,none⟩:Addr).add i=⟨β' 2000000,i,none⟩:=by unfold Addr.add;split<;>simp_all
     rw[hadd]
     refine⟨⟨?_,htr'.lt _ hlive,fun t ht he=>absurd (htr'.inj t 2000000 (hlv t ht) hlive he) (hne t ht)⟩,?_⟩
     ·rw[←hD]
      rcases hb2 0 (by simp) hlive with q | ⟨j,a1,a2,a3⟩
      ·exact .inr (.inl q)
      ·exact .inr (.inr ⟨j,a1,a2,a3⟩)
     grind[World.cell?,hi]
    ·rw[List.getElem?_take] at hu
     split at hu
     case isFalse=>cases hu
     have hm:=List.mem_of_getElem? hd
     obtain⟨x,_,hx⟩:=List.mem_flatMap.1 hm
     exact((b6 i d u hd hu).pure_ (pure_cellsV _ _ _ hx)).mono H.st
def Kk (Γ:OrcT):OrcT:=fun f xs lb=>
 if lb.all Ql=true then(Γ f xs lb).bind fun r=>if ((listed r).2.1.all Ql&&(listed r).2.2.all okFresh)=true then .ret (listed r) else .fail else .fail
theorem Jj {P:Program} {f:FuncId} {args:List V} {lb:List OK} {r:V×List OK×List OK} (h:Spec2 P f args lb r.1 r.2.1 r.2.2):Spec2 P f args lb (listed r).1 (listed r).2.1 (listed r).2.2:=by
 unfold listed
 split
 ·split
  ·rename_i hc
   obtain⟨rfl,rfl,hc⟩:=hc
   exact yn h hc
  ·exact h
 ·exact h
theorem y9 {P:Program} {f:FuncId} {args:List V} {lb lb' lf:List OK} {res:V} (h:Spec2 P f args lb res lb' lf) (h1:lb'.all Ql=true) (h2:lf.all okFresh=true):Spec P f args lb res lb' lf:=by
 intro w cargs β S htr hargs
 refine(h w cargs β S htr hargs).mono fun e w'=>?_
 rintro⟨v,β',rfl,hk,htr',hv,hl,hb1,hb2⟩
 have hbox:∀(j:Nat) (k:OK),lb'[j]? = some k→Ql k=true:=fun j k hj=>List.all_eq_true.1 h1 k (List.mem_of_getElem? hj)
 have hnd:∀(j:Nat),lb'[j]?≠some .dead:=fun j hj=>by have:=hbox j _ hj;cases this
 have eD:Dn S w.heap.size β lb lb'=fun p=>S p∨w.heap.size≤p.block:=by
  funext p
  apply propext
  constructor
  ·(rintro(q | q | ⟨j,q,_⟩)<;>grind[absurd])
  ·rintro(q | q)
   ·exact .inl q
   ·exact .inr (.inl q)
 rw[eD] at htr' hv
 have lb_live:∀j,j<lb.length→(tabU lb' lf).live (1000000+j):=fun j hj=>by
  have hj':j<lb'.length:=by omega
  have hkj:=List.getElem?_eq_getElem hj'
  simp only[Tab.live,get_tabU,show 1000000≤1000000+j from by omega,show 1000000+j-1000000=j from by omega,if_true,hkj]
  have:=hbox j _ hkj
  revert this
  cases lb'[j]<;>simp[Ql,OK.live]
 generalize hT:tabU lb' lf=T at *
 generalize hD:(fun p:Addr=>S p∨w.heap.size≤p.block)=D at *
 open Classical in
 obtain⟨β2,hβ,hβ2⟩:∃β2:Nat→Nat,(∀t,T.live t→β2 t=β' t)∧∀t,¬T.live t→β2 t=w.heap.size:=⟨fun t=>if T.live t then β' t else w.heap.size,fun t h=>if_pos h,fun t h=>if_neg h⟩
 have H:Goes D T β' w' T β2 w':=⟨fun p hp=>⟨⟨hp.1,hp.2.1,fun t ht he=>hp.2.2 t ht (by grind)⟩,rfl⟩,fun t=>Nat.le_refl _,fun t ht _=>⟨ht,hβ t ht⟩,
  fun t g' ty sz fz' cs' hq _=>⟨⟨_,_,_,hq⟩,fun arr ty1 fz hh=>⟨arr,ty1,fz,by grind,rfl⟩⟩,
  fun t g' ty fz nl L hq _=>⟨⟨_,_,_,_,hq,rfl,rfl,rfl⟩,fun hn arr ty1 fz hh=>⟨arr,ty1,fz,by grind,rfl⟩⟩⟩
 refine⟨v,β2,rfl,hk,⟨fun t=>?_,fun t u ht hu he=>htr'.inj t u ht hu (by grind),fun t ht=>by rw[hβ t ht];exact htr'.lt t ht⟩,hv.mono H,hl,fun j hj=>by grind,fun j hj=>?_⟩
 ·by_cases hlv:T.live t
  ·rw[hβ t hlv];exact(htr'.ob t).mono H rfl
  ·cases hkk:(T.get t).k with
   | dead=>trivial
   | nrow ty fz nl L=>
    (left<;>grind[absurd,Tab.live,OK.live])
   | _=>grind[absurd,Tab.live,OK.live]
 ·by_cases hlive:T.live (2000000+j)
  ·rw[hβ _ hlive]
   (rcases hb2 j hj hlive with q | ⟨i,q,_⟩<;>grind[absurd])
  grind
theorem Kj {P:Program} {Γ:OrcT} (hΓ:GammaOk2 P Γ.orc):GammaOk P (Kk Γ).orc:=by
 intro f xs lb res lb' lf h
 simp only[OrcT.orc,Kk] at h
 split at h
 ·obtain⟨q,h1,h2⟩:=qg h
  split at h2
  ·rename_i hc
   have:=qd h2
   simp only[Bool.and_eq_true] at hc
   (obtain⟨a1,a2⟩:=hΓ f xs lb _ _ _ h1<;>grind[Jj,y9])
  ·cases h2
 ·cases h
mutual
theorem V.sw_still (x y:Nat):∀v:V,v.still=true→v.sw x y=v
 | .agg cs,h=>by simp only[V.still] at h;simp only[V.sw,jp x y cs h]
 | .tup cs,h=>by simp only[V.still] at h;simp only[V.sw,jp x y cs h]
 | .ifc _ v,h=>by simp only[V.still] at h;simp only[V.sw,V.sw_still x y v h]
 | .fn _ cs,h=>by simp only[V.still] at h;simp only[V.sw,jp x y cs h]
 | .undef,_ | .own _ _ _ _,h | .ptr _ _ _,h | .acc _ _,h | .eptr _ _ _ _ _,h | .nwin _ _ _ _,h | .mp _ _,h=>by first | rfl | simp[V.still] at h
 | .bool _,_ | .int _ _,_ | .str _,_ | .snil,_ | .sl _ _,_ | .cref _,_ | .pnil,_ | .inil,_ | .fnil,_ | .lst _,_ | .eref _ _,_ | .bs _,_ | .sz,_ | .nl _,_ | .si _,_=>rfl
theorem jp (x y:Nat):∀l:List V,stillL l=true→swL x y l=l
 | [],_=>rfl
 | v::r,h=>by
  simp_all[stillL,Bool.and_eq_true,swL,V.sw_still,jp]
end
theorem kx {st:St} {d t:Nat} (h:(st.get t).still=true):(spill1 st d).get t=st.get t:=by
 grind[spill1,St.get_sw,V.sw_still]
theorem J5 {st:St} {d:Nat}:(spill1 st d).n=st.n∧(st.g=[]→(spill1 st d).g=[]):=by
 unfold spill1
 split
 ·exact⟨rfl,fun h=>by simp[St.sw,h,swL]⟩
 ·exact⟨rfl,id⟩
theorem kv:∀(l:List Nat) (st:St),(l.foldl spill1 st).n=st.n∧(st.g=[]→(l.foldl spill1 st).g=[])∧∀t,(st.get t).still=true→(l.foldl spill1 st).get t=st.get t
 | [],st=>⟨rfl,id,fun _ _=>rfl⟩
 | d::r,st=>by
  obtain⟨h1,h2,h3⟩:=kv r (spill1 st d)
  have h0:=J5 (st:=st) (d:=d)
  simp only[List.foldl_cons]
  exact⟨h1.trans h0.1,fun h=>h2 (h0.2 h),fun t ht=>by rw[h3 t (by rw[kx ht];exact ht),kx ht]⟩
theorem jq:∀(ops:List Oper) (st:St),(spill st ops).n=st.n∧(st.g=[]→(spill st ops).g=[])∧∀t,(st.get t).still=true→(spill st ops).get t=st.get t
 | [],st=>⟨rfl,id,fun _ _=>rfl⟩
 | o::r,st=>by
  have e:spill st (o::r)=spill ((Qp o).foldl spill1 st) r:=rfl
  obtain⟨a1,a2,a3⟩:=kv (Qp o) st
  obtain⟨h1,h2,h3⟩:=jq r ((Qp o).foldl spill1 st)
  rw[e]
  exact⟨h1.trans a1,fun h=>h2 (a2 h),fun t ht=>by rw[h3 t (by rw[a3 t ht];exact ht),a3 t ht]⟩
def regionT2 (Γ:OrcT) (Λ:Lend) (P:Program) (ops:Array Oper) (draw:Bool) (st:St):Tr St:=
 if draw=true then regionT (Kk Γ) P ops draw st else jd Γ Λ P ops.toList ops.toList (spill st ops.toList)
theorem HT.regionT2 {κ:Cx} {Γ:OrcT} {Λ:Lend} (hΓ:GammaOk2 κ.P Γ.orc) (hm:κ.P.follows .mixedOrders=true) {id:Nat} {ops:Array Oper} {draw:Bool} (htmp:(!draw||tmpsOk ops.toList)=true) {Q:Exit→St→Prop} {st st':St}
  (hx:(Abs.regionT2 Γ Λ κ.P ops draw st).run=some st') (h:Q .normal st'):HT κ (.region id ops draw) Q st:=by
 unfold Abs.regionT2 at hx
 cases draw with
 | true=>
  simp only[if_true] at hx
  exact HT.regionT (Kj hΓ) hm htmp hx h
 | false=>
  simp only[Bool.false_eq_true,if_false] at hx
  exact fun a w hr=>wp_region_list (xo hΓ ops.toList _ st' a w hx (hr.spill ops.toList) fun a' w' hr'=>⟨st',h,hr'⟩)
end Go.Abs
