/- The form of a state: which slots, which objects; a state brought to a form. -/
import Derived.Test.YtpohfnebmmjpdaaExtC
import Derived.Laws.MakeOwn
namespace Go.Abs
open Go.RowKit
set_option linter.unusedVariables false
set_option linter.unusedSimpArgs false
def impV (t:Ty) (v:V):Option t.I:=impOne t (impC t) v
theorem valW_vOf {S:Addr→Prop} {w:World} {t:Ty} {x:t.I} {u:Value} (h:Rp S w (vOf t (cellsV t x)) u) (ho:isOneT t=true∨isAggT t=true):Rp S w (valW t x) u:=by
 cases t with
 | int k=>exact h
 | bool=>exact .bs h
 | str=>exact h
 | list e=>exact .lst h
 | unit=>simp[isOneT,isAggT] at ho
 | pair a b=>simp[isOneT,isAggT] at ho
 | agg t=>
  cases h with
  | agg h1 h2=>
   have:=cellsW_rp t x _ ⟨h1,h2⟩
   exact .agg this.1 this.2
 | alt t a r=>
  refine .si ?_
  have e:vOf (.alt t a r) (cellsV (.alt t a r) x)=(cellsV (.alt t a r) x).headD .pnil:=rfl
  rw[e] at h
  exact h
 | alt1 t a=>
  cases h with
  | ifc h=>exact .ifc (vOf_rp (by rw[cellsV_length,cellsW_length]) (cellsW_pt a x) h)
 | inil=>exact h
theorem impOne_one {α:Type} {a:Ty} {f:List V→Option (α×List V)} {v:V} {y:α} (h:impOne a f v=some y):isOneT a=true∨isAggT a=true:=by
 unfold impOne at h
 split at h
 ·rename_i hc
  simp only[Bool.or_eq_true,Bool.and_eq_true] at hc
  rcases hc with hc | hc
  ·exact .inr hc.1
  ·exact .inl hc.1
 ·cases h
theorem impV_rv {T:Tab} {ι:Nat→Nat} {S:Addr→Prop} {w:World} {t:Ty} {x:t.I} {v:V} {u:Value} (hx:impV t v=some x) (hv:Rv T ι S w v u):Rp S w (valW t x) u:=
 valW_vOf ((impOne_rv (impC_rv t) hx hv).pure_ (vOf_pure (leaf_cellsV t x))) (impOne_one hx)
def tsI:List Ty→Type
 | []=>Unit
 | [t]=>t.I
 | t::u::r=>t.I×tsI (u::r)
def packTs:(ts:List Ty)→List TX→Option (tsI ts)
 | [],l=>match l with
  | []=>some ()
  | _=>none
 | [t],l=>match l with
  | [X]=>if h:X.e=t then some (castX h X.x) else none
  | _=>none
 | t::u::r,l=>match l with
  | X::l'=>if h:X.e=t then(match packTs (u::r) l' with
   | some y=>some (castX h X.x,y)
   | none=>none) else none
  | []=>none
def unpackTs:(ts:List Ty)→tsI ts→List TX
 | [],_=>[]
 | [t],x=>[⟨t,x⟩]
 | t::u::r,x=>⟨t,x.1⟩::unpackTs (u::r) x.2
theorem unpack_pack:∀(ts:List Ty) (l:List TX) (x:tsI ts),packTs ts l=some x→unpackTs ts x=l
 | [],l,x,h=>by
  cases l with
  | nil=>rfl
  | cons _ _=>cases h
 | [t],l,x,h=>by
  cases l with
  | nil=>cases h
  | cons X l=>
   cases l with
   | nil=>
    simp only[packTs] at h
    split at h
    ·rename_i he
     obtain⟨e,y⟩:=X
     simp only at he;subst he
     injection h with h;subst h;rfl
    ·cases h
   | cons _ _=>cases h
 | t::u::r,l,x,h=>by
  cases l with
  | nil=>cases h
  | cons X l=>
   simp only[packTs] at h
   split at h
   ·rename_i he
    split at h
    ·rename_i y hy
     obtain⟨e,z⟩:=X
     simp only at he;subst he
     injection h with h;subst h
     show _::unpackTs (u::r) y=_
     rw[unpack_pack (u::r) l y hy];rfl
    ·cases h
   ·cases h
inductive SS where
 | val (t:Ty)
 | ptr (s off:Nat)
 | acc (s:Nat)
 | arr (s sz:Nat)
 | fn (f:Nat) (ss:List Nat)
 | mp (s:Nat)
inductive CS where
 | val (t:Ty)
 | acc (s:Nat)
 | pair (a b:CS)
inductive OS where
 | box (ty:Nat) (c:CS)
 | nrow (ty:Nat) (e:Ty) (fz nl:Bool)
 | iter
 | mp (e:Ty)
structure Pat where
 sl:List (Nat×SS)
 ob:List (Nat×OS):=[]
def gen0 (s:Nat):Nat:=if 1000000≤s then 0 else 1
abbrev Lk:=List (Nat×Nat)
def lookN:Lk→Nat→Option Nat
 | [],_=>none
 | (k,v)::r,s=>if k=s then some v else lookN r s
def accLink (s:Nat):V→Lk
 | .acc q _=>[(s,q)]
 | .own q _ _ _=>[(s,q)]
 | _=>[]
def ptrLink (s:Nat):V→Lk
 | .ptr q _ _=>[(s,q)]
 | _=>[]
def arrLink (s:Nat):V→Lk
 | .eptr q _ _ _ _=>[(s,q)]
 | _=>[]
def mpLink (s:Nat):V→Lk
 | .mp q _=>[(s,q)]
 | _=>[]
def zipLink:List Nat→List V→Lk
 | s::ss,v::vs=>ptrLink s v++zipLink ss vs
 | _,_=>[]
def SS.link (v:V):SS→Lk
 | .ptr s _=>ptrLink s v
 | .acc s=>accLink s v
 | .arr s _=>arrLink s v
 | .mp s=>mpLink s v
 | .fn _ ss=>match v with
  | .fn _ caps=>zipLink ss caps
  | _=>[]
 | _=>[]
def CS.link:CS→List V→Lk×List V
 | .val t,cs=>([],cs.drop t.size)
 | .acc s,cs=>match cs with
  | v::r=>(accLink s v,r)
  | []=>([],[])
 | .pair a b,cs=>((a.link cs).1++(b.link (a.link cs).2).1,(b.link (a.link cs).2).2)
def slotLinks (st:St):List (Nat×SS)→Lk
 | []=>[]
 | e::r=>e.2.link (st.get e.1)++slotLinks st r
def boxLinks (T:Tab):List (Nat×OS)→Lk→Lk
 | [],L=>L
 | (s,.box _ c)::r,L=>match lookN L s with
  | some q=>match (T.get q).k with
   | .box _ cs=>boxLinks T r (L++(c.link cs).1)
   | _=>boxLinks T r L
  | none=>boxLinks T r L
 | _::r,L=>boxLinks T r L
def linksOf (st:St) (p:Pat):Lk:=boxLinks st.o p.ob (slotLinks st p.sl)
def lkOk (T:Tab) (L:Lk):Bool:=
 L.all (fun a=>L.all (fun b=>(a.1==b.1)==(a.2==b.2)))&&L.all (fun a=>if 1000000≤a.1∨1000000≤a.2 then a.1==a.2&&(T.get a.2).gen==0 else true)
def accOk (L:Lk) (T:Tab) (s:Nat) (v:V):Bool:=
 match v with
 | .acc q g=>lookN L s==some q&&(T.get q).gen==g&&(match (T.get q).k with | .nrow _ _ _ _=>true | _=>false)
 | .own q g off n=>lookN L s==some q&&(T.get q).gen==g&&off==0&&(match (T.get q).k with | .row _ sz _ cs=>n*sz==cs.length&&decide (0<n)&&decide (0<sz) | _=>false)
 | .snil | .sz=>(lookN L s).isNone
 | _=>false
def ptrOk (L:Lk) (T:Tab) (s off:Nat) (v:V):Bool:=
 match v with
 | .ptr q g off'=>lookN L s==some q&&(T.get q).gen==g&&off==off'&&(match (T.get q).k with | .box _ _ | .iter _ _=>true | _=>false)
 | _=>false
def arrOk (L:Lk) (T:Tab) (s sz:Nat) (v:V):Bool:=
 match v with
 | .eptr q g sz' 0 0=>lookN L s==some q&&(T.get q).gen==g&&sz==sz'&&(match (T.get q).k with | .nrow _ _ _ _=>true | _=>false)
 | _=>false
def mpOk (L:Lk) (T:Tab) (s:Nat) (v:V):Bool:=
 match v with
 | .mp q g=>lookN L s==some q&&(T.get q).gen==g&&(match (T.get q).k with | .mp _=>true | _=>false)
 | _=>false
def capsOk (L:Lk) (T:Tab):List Nat→List V→Bool
 | [],[]=>true
 | s::ss,v::vs=>ptrOk L T s 0 v&&capsOk L T ss vs
 | _,_=>false
def decS (L:Lk) (T:Tab) (v:V):SS→Option (List TX)
 | .val t=>match impV t v with
  | some x=>some [⟨t,x⟩]
  | none=>none
 | .ptr s off=>if ptrOk L T s off v=true then some [] else none
 | .acc s=>if accOk L T s v=true then some [] else none
 | .arr s sz=>if arrOk L T s sz v=true then some [] else none
 | .mp s=>if mpOk L T s v=true then some [] else none
 | .fn f ss=>match v with
  | .fn f' caps=>if f=f'∧capsOk L T ss caps=true then some [] else none
  | _=>none
def decC (L:Lk) (T:Tab):CS→List V→Option (List TX×List V)
 | .val t,cs=>match impC t cs with
  | some (x,r)=>some ([⟨t,x⟩],r)
  | none=>none
 | .acc s,cs=>match cs with
  | v::r=>if accOk L T s v=true then some ([],r) else none
  | []=>none
 | .pair a b,cs=>match decC L T a cs with
  | some (l1,r1)=>match decC L T b r1 with
   | some (l2,r2)=>some (l1++l2,r2)
   | none=>none
  | none=>none
def castM {e e':Ty} (h:e=e') (l:List (Int×e.I)):(Ty.list (.pair (.int .i64) e')).I:=h▸l
def decO (L:Lk) (T:Tab) (s:Nat):OS→Option (List TX)
 | .box ty c=>match lookN L s with
  | some q=>match (T.get q).k with
   | .box ty' cs=>if ty=ty' then(match decC L T c cs with
    | some (l,[])=>some l
    | _=>none) else none
   | _=>none
  | none=>none
 | .nrow ty e fz nl=>match lookN L s with
  | some q=>match (T.get q).k with
   | .nrow ty' fz' nl' M=>if ty=ty'∧nl=nl'∧(!fz'||fz)=true then(if h:M.e=e then some [⟨.list e,castL h M.l⟩] else none) else none
   | .row ty' sz fz' cs=>if ty=ty'∧sz=e.size∧(!fz'||fz)=true∧cs.length≠0 then(match impN (impC e) (cs.length / sz) cs with
    | some (l,[])=>some [⟨.list e,l⟩]
    | _=>none) else none
   | _=>none
  | none=>if nl=true then some [⟨.list e,[]⟩] else none
 | .iter=>match lookN L s with
  | some q=>match (T.get q).k with
   | .iter l pos=>some [⟨.str,l⟩,⟨.int .i64,(pos:Int)⟩]
   | _=>none
  | none=>none
 | .mp e=>match lookN L s with
  | some q=>match (T.get q).k with
   | .mp M=>if h:M.e=e then some [⟨.list (.pair (.int .i64) e),castM h M.l⟩] else none
   | _=>none
  | none=>none
def decSL (L:Lk) (st:St):List (Nat×SS)→Option (List TX)
 | []=>some []
 | e::r=>match decS L st.o (st.get e.1) e.2,decSL L st r with
  | some l,some l'=>some (l++l')
  | _,_=>none
def decOL (L:Lk) (T:Tab):List (Nat×OS)→Option (List TX)
 | []=>some []
 | e::r=>match decO L T e.1 e.2,decOL L T r with
  | some l,some l'=>some (l++l')
  | _,_=>none
def patOk (st:St) (p:Pat):Bool:=decide (p.ob.map (·.1)).Nodup&&st.g.isEmpty&&lkOk st.o (linksOf st p)&&(linksOf st p).all (fun a=>(p.ob.map (·.1)).contains a.1)
def dec1 (st:St) (p:Pat):Option (List TX):=
 if patOk st p=true then
  match decSL (linksOf st p) st p.sl,decOL (linksOf st p) st.o p.ob with
  | some l,some l'=>some (l++l')
  | _,_=>none
 else none
def encS:SS→List TX→V×List TX
 | .val _,l=>match l with
  | X::r=>(valW X.e X.x,r)
  | []=>(.undef,[])
 | .ptr s off,l=>(.ptr s (gen0 s) off,l)
 | .acc s,l=>(.acc s (gen0 s),l)
 | .arr s sz,l=>(.eptr s (gen0 s) sz 0 0,l)
 | .mp s,l=>(.mp s (gen0 s),l)
 | .fn f ss,l=>(.fn f (ss.map fun s=>.ptr s (gen0 s) 0),l)
def encC:CS→List TX→List V×List TX
 | .val _,l=>match l with
  | X::r=>(cellsW X.e X.x,r)
  | []=>([],[])
 | .acc s,l=>([.acc s (gen0 s)],l)
 | .pair a b,l=>((encC a l).1++(encC b (encC a l).2).1,(encC b (encC a l).2).2)
def tlOf (e:Ty) (X:TX):TL:=match X with
 | ⟨.list e',l⟩=>⟨e',l⟩
 | _=>⟨e,[]⟩
def tmOf (e:Ty) (X:TX):TM:=match X with
 | ⟨.list (.pair (.int _) e'),l⟩=>⟨e',l⟩
 | _=>⟨e,[]⟩
def posOf (X:TX):Nat:=match X with
 | ⟨.int _,n⟩=>Int.toNat n
 | _=>0
def strOf (X:TX):List UInt8:=match X with
 | ⟨.str,l⟩=>l
 | _=>[]
def encO:OS→List TX→OK×List TX
 | .box ty c,l=>(.box ty (encC c l).1,(encC c l).2)
 | .nrow ty e fz nl,l=>match l with
  | X::r=>(.nrow ty fz nl (tlOf e X),r)
  | []=>(.dead,[])
 | .iter,l=>match l with
  | X::Y::r=>(.iter (strOf X) (posOf Y),r)
  | _=>(.dead,[])
 | .mp e,l=>match l with
  | X::r=>(.mp (tmOf e X),r)
  | []=>(.dead,[])
def encSL:List (Nat×SS)→List TX→List (Nat×V)×List TX
 | [],l=>([],l)
 | e::r,l=>((e.1,(encS e.2 l).1)::(encSL r (encS e.2 l).2).1,(encSL r (encS e.2 l).2).2)
def encOL:List (Nat×OS)→List TX→Tab
 | [],_=>[]
 | e::r,l=>(e.1,⟨gen0 e.1,(encO e.2 l).1⟩)::encOL r (encO e.2 l).2
def patS1 (base:St) (p:Pat) (l:List TX):St:=⟨base.n,(encSL p.sl l).1++base.t,encOL p.ob (encSL p.sl l).2,[]⟩
def SS.tys:SS→List Ty
 | .val t=>[t]
 | _=>[]
def CS.tys:CS→List Ty
 | .val t=>[t]
 | .acc _=>[]
 | .pair a b=>a.tys++b.tys
def OS.tys:OS→List Ty
 | .box _ c=>c.tys
 | .nrow _ e _ _=>[.list e]
 | .iter=>[.str,.int .i64]
 | .mp e=>[.list (.pair (.int .i64) e)]
def Pat.ts (p:Pat):List Ty:=p.sl.flatMap (fun e=>e.2.tys)++p.ob.flatMap (fun e=>e.2.tys)
abbrev Pat.I (p:Pat):Type:=tsI p.ts
def decP0 (st:St) (p:Pat):Option p.I:=match dec1 st p with
 | some l=>packTs p.ts l
 | none=>none
def patS (base:St) (p:Pat) (x:p.I):St:=patS1 base p (unpackTs p.ts x)
mutual
def V.still:V→Bool
 | .undef | .own _ _ _ _ | .ptr _ _ _ | .acc _ _ | .eptr _ _ _ _ _ | .nwin _ _ _ _ | .mp _ _=>false
 | .agg cs=>stillL cs
 | .tup cs=>stillL cs
 | .ifc _ v=>v.still
 | .fn _ cs=>stillL cs
 | _=>true
def stillL:List V→Bool
 | []=>true
 | v::r=>v.still&&stillL r
end
mutual
theorem V.still_pure:∀v:V,v.still=true→v.pure=true
 | .agg cs,h=>by simp only[V.still] at h;simp only[V.pure];exact stillL_pure cs h
 | .tup cs,h=>by simp only[V.still] at h;simp only[V.pure];exact stillL_pure cs h
 | .ifc _ v,h=>by simp only[V.still] at h;simp only[V.pure];exact V.still_pure v h
 | .fn _ cs,h=>by simp only[V.still] at h;simp only[V.pure];exact stillL_pure cs h
 | .undef,h | .own _ _ _ _,h | .ptr _ _ _,h | .acc _ _,h | .eptr _ _ _ _ _,h | .nwin _ _ _ _,h | .mp _ _,h=>by simp[V.still] at h
 | .bool _,_ | .int _ _,_ | .str _,_ | .snil,_ | .sl _ _,_ | .cref _,_ | .pnil,_ | .inil,_ | .fnil,_ | .lst _,_ | .eref _ _,_ | .bs _,_ | .sz,_ | .nl _,_ | .si _,_=>rfl
theorem stillL_pure:∀l:List V,stillL l=true→pureL l=true
 | [],_=>rfl
 | v::r,h=>by
  simp only[stillL,Bool.and_eq_true] at h
  simp only[pureL,Bool.and_eq_true]
  exact⟨V.still_pure v h.1,stillL_pure r h.2⟩
end
theorem lookN_mem:∀{L:Lk} {s q:Nat},lookN L s=some q→(s,q)∈L
 | [],s,q,h=>by cases h
 | (k,v)::r,s,q,h=>by
  simp only[lookN] at h
  split at h
  ·rename_i e;injection h with h;subst e h;simp
  ·exact List.mem_cons_of_mem _ (lookN_mem h)
theorem lkOk_fun {T:Tab} {L:Lk} (h:lkOk T L=true) {s q s' q':Nat} (h1:(s,q)∈L) (h2:(s',q')∈L):s=s'↔q=q':=by
 simp only[lkOk,Bool.and_eq_true] at h
 have:=List.all_eq_true.1 (List.all_eq_true.1 h.1 _ h1) _ h2
 simp only[beq_iff_eq] at this
 by_cases e1:s=s'<;>by_cases e2:q=q'<;>simp_all
theorem lkOk_pin {T:Tab} {L:Lk} (h:lkOk T L=true) {s q:Nat} (h1:(s,q)∈L) (h2:1000000≤s∨1000000≤q):s=q∧(T.get q).gen=0:=by
 simp only[lkOk,Bool.and_eq_true] at h
 have:=List.all_eq_true.1 h.2 _ h1
 simp only[h2,if_true,Bool.and_eq_true,beq_iff_eq] at this
 exact this
structure Fm (κ:Cx) (ι:Nat→Nat) (T:Tab) (w:World) (L:Lk) (T':Tab) (ι':Nat→Nat) (S':Addr→Prop):Prop where
 st:∀p,Stable κ.D T ι w p→S' p
 io:∀s q,lookN L s=some q→ι' s=ι q
 ge:∀s q,lookN L s=some q→(T'.get s).gen=gen0 s
section
variable {κ : Cx} {ι : Nat → Nat} {st : St} {a : Act} {w : World}
def RowAt (T T':Tab) (L:Lk) (s:Nat):Prop:=
 match lookN L s with
 | some q=>(∀ty fz nl M,(T.get q).k=.nrow ty fz nl M→∃ty' fz',(T'.get s).k=.nrow ty' fz' nl M)∧
   (∀ty sz fz cs,(T.get q).k=.row ty sz fz cs→∃ty' fz' nl M,(T'.get s).k=.nrow ty' fz' nl M∧M.e.size=sz∧M.l.length=cs.length / sz)
 | none=>∃ty' fz' M,(T'.get s)=⟨gen0 s,.nrow ty' fz' true M⟩∧M.l=[]
theorem accOk_rv {L:Lk} {T':Tab} {ι':Nat→Nat} {S':Addr→Prop} (F:Fm κ ι st.o w L T' ι' S') {s:Nat} {v:V} {u:Value} (h:accOk L st.o s v=true) (hrow:RowAt st.o T' L s)
  (hv:Rv st.o ι (Stable κ.D st.o ι w) w v u):Rv T' ι' S' w (.acc s (gen0 s)) u:=by
 unfold accOk at h
 split at h
 ·rename_i q g
  simp only[Bool.and_eq_true,beq_iff_eq] at h
  obtain⟨⟨h1,h2⟩,h3⟩:=h
  unfold RowAt at hrow
  rw[h1] at hrow
  split at h3
  ·rename_i ty fz nl M hk
   obtain⟨ty',fz',e⟩:=hrow.1 _ _ _ _ hk
   have hT:st.o.get q=⟨g,.nrow ty fz nl M⟩:=by cases hq:st.o.get q;rw[hq] at hk h2;simp at hk h2;subst hk h2;rfl
   have hT':T'.get s=⟨gen0 s,.nrow ty' fz' nl M⟩:=by have:=F.ge s q h1;cases hq:T'.get s;rw[hq] at e this;simp at e this;subst e this;rfl
   refine .acc hv.acc_form (by rw[hT'];exact Nat.le_refl _) fun ty2 fz2 nl2 L2 e2=>?_
   rw[hT'] at e2
   simp at e2
   obtain⟨rfl,rfl,rfl,rfl⟩:=e2
   rw[F.io s q h1]
   exact hv.acc_ hT
  ·cases h3
 ·rename_i q g off n
  simp only[Bool.and_eq_true,beq_iff_eq] at h
  obtain⟨⟨⟨h1,h2⟩,h0⟩,h3⟩:=h
  subst h0
  unfold RowAt at hrow
  rw[h1] at hrow
  split at h3
  ·rename_i ty sz fz cs hk
   simp only[Bool.and_eq_true,beq_iff_eq,decide_eq_true_eq] at h3
   obtain⟨⟨h4,h5⟩,h6⟩:=h3
   obtain⟨ty',fz',nl,M,e,e1,e2⟩:=hrow.2 _ _ _ _ hk
   have hT:st.o.get q=⟨g,.row ty sz fz cs⟩:=by cases hq:st.o.get q;rw[hq] at hk h2;simp at hk h2;subst hk h2;rfl
   have hT':T'.get s=⟨gen0 s,.nrow ty' fz' nl M⟩:=by have:=F.ge s q h1;cases hq:T'.get s;rw[hq] at e this;simp at e this;subst e this;rfl
   have hlen:M.l.length=n:=by rw[e2,←h4,Nat.mul_div_cancel _ h6]
   obtain⟨ad,c,cap',arr',ty1,fz2,rfl,o1,o2,o3,o4,o5,o6⟩:=hv.own_ hT
   refine .acc ⟨_,_,_,rfl⟩ (by rw[hT'];exact Nat.le_refl _) fun ty2 fz3 nl2 L2 e3=>?_
   rw[hT'] at e3
   simp at e3
   obtain⟨rfl,rfl,rfl,rfl⟩:=e3
   refine .inr ⟨fun e=>by rw[e.2] at hlen;simp at hlen;omega,ad,c,cap',arr',ty1,fz2,by rw[hlen],?_,?_,by rw[e1];exact o3,by rw[hlen];exact o4,o5,by rw[F.io s q h1,e1];exact o6⟩
   ·rw[F.io s q h1];exact o1
   ·rw[F.io s q h1];exact o2
  ·cases h3
 ·have hn:lookN L s=none:=by simpa using h
  unfold RowAt at hrow
  rw[hn] at hrow
  obtain⟨ty',fz',M,e,e1⟩:=hrow
  have:=hv.snil_;subst this
  refine .acc ⟨_,_,_,rfl⟩ (by rw[e];exact Nat.le_refl _) fun ty2 fz2 nl2 L2 e2=>?_
  rw[e] at e2
  simp at e2
  obtain⟨rfl,rfl,rfl,rfl⟩:=e2
  exact .inl ⟨rfl,e1,none,rfl⟩
 ·have hn:lookN L s=none:=by simpa using h
  unfold RowAt at hrow
  rw[hn] at hrow
  obtain⟨ty',fz',M,e,e1⟩:=hrow
  obtain⟨p,rfl⟩:=hv.sz_
  refine .acc ⟨_,_,_,rfl⟩ (by rw[e];exact Nat.le_refl _) fun ty2 fz2 nl2 L2 e2=>?_
  rw[e] at e2
  simp at e2
  obtain⟨rfl,rfl,rfl,rfl⟩:=e2
  exact .inl ⟨rfl,e1,p,rfl⟩
 ·cases h
theorem ptrOk_rv {L:Lk} {T':Tab} {ι':Nat→Nat} {S':Addr→Prop} (F:Fm κ ι st.o w L T' ι' S') {s off:Nat} {v:V} {u:Value} (h:ptrOk L st.o s off v=true)
  (hv:Rv st.o ι (Stable κ.D st.o ι w) w v u):Rv T' ι' S' w (.ptr s (gen0 s) off) u:=by
 unfold ptrOk at h
 split at h
 ·rename_i q g off'
  simp only[Bool.and_eq_true,beq_iff_eq] at h
  obtain⟨⟨⟨h1,h2⟩,h0⟩,h3⟩:=h
  subst h0
  have hl:st.o.live q:=by
   split at h3
   ·rename_i hk;simp[Tab.live,hk,OK.live]
   ·rename_i hk;simp[Tab.live,hk,OK.live]
   ·cases h3
  have:=hv.ptr_ h2 hl
  subst this
  refine .ptr ⟨_,rfl⟩ (by rw[F.ge s q h1];exact Nat.le_refl _) fun _ _=>by rw[F.io s q h1]
 ·cases h
theorem arrOk_rv {L:Lk} {T':Tab} {ι':Nat→Nat} {S':Addr→Prop} (F:Fm κ ι st.o w L T' ι' S') {s sz:Nat} {v:V} {u:Value} (h:arrOk L st.o s sz v=true) (hrow:RowAt st.o T' L s)
  (hv:Rv st.o ι (Stable κ.D st.o ι w) w v u):Rv T' ι' S' w (.eptr s (gen0 s) sz 0 0) u:=by
 unfold arrOk at h
 split at h
 ·rename_i q g sz'
  simp only[Bool.and_eq_true,beq_iff_eq] at h
  obtain⟨⟨⟨h1,h2⟩,h0⟩,h3⟩:=h
  subst h0
  split at h3
  ·rename_i ty fz nl M hk
   have hT:st.o.get q=⟨g,.nrow ty fz nl M⟩:=by cases hTs:st.o.get q;rw[hTs] at hk h2;simp at hk h2;subst hk h2;rfl
   obtain⟨e1,e2,e3⟩:=hv.eptr_ hT
   unfold RowAt at hrow
   rw[h1] at hrow
   obtain⟨ty',fz',e4⟩:=hrow.1 ty fz nl M hk
   refine .eptr ⟨_,e3⟩ (by rw[F.ge s q h1];exact Nat.le_refl _) fun ty2 fz2 nl2 L2 e5=>?_
   rw[e5] at e4
   simp at e4
   obtain⟨_,_,_,rfl⟩:=e4
   exact⟨e1,e2,by rw[e3,F.io s q h1]⟩
  ·cases h3
 ·cases h
theorem mpOk_rv {L:Lk} {T':Tab} {ι':Nat→Nat} {S':Addr→Prop} (F:Fm κ ι st.o w L T' ι' S') {s:Nat} {v:V} {u:Value} (h:mpOk L st.o s v=true)
  (hv:Rv st.o ι (Stable κ.D st.o ι w) w v u):Rv T' ι' S' w (.mp s (gen0 s)) u:=by
 unfold mpOk at h
 split at h
 ·rename_i q g
  simp only[Bool.and_eq_true,beq_iff_eq] at h
  obtain⟨⟨h1,h2⟩,h3⟩:=h
  have hl:st.o.live q:=by
   split at h3
   ·rename_i hk;simp[Tab.live,hk,OK.live]
   ·cases h3
  have:=hv.mp_ h2 hl
  subst this
  refine .mp ⟨_,rfl⟩ (by rw[F.ge s q h1];exact Nat.le_refl _) fun _ _=>by rw[F.io s q h1]
 ·cases h
theorem capsOk_rv {L:Lk} {T':Tab} {ι':Nat→Nat} {S':Addr→Prop} (F:Fm κ ι st.o w L T' ι' S'):∀(ss:List Nat) (vs:List V) (us:List Value),capsOk L st.o ss vs=true→
  LR (Rv st.o ι (Stable κ.D st.o ι w) w) vs us→LR (Rv T' ι' S' w) (ss.map fun s=>.ptr s (gen0 s) 0) us
 | [],[],us,_,h=>by
  have:us=[]:=List.eq_nil_of_length_eq_zero (by simpa using h.1.symm)
  subst this;exact .nil
 | s::ss,v::vs,us,hc,h=>by
  simp only[capsOk,Bool.and_eq_true] at hc
  obtain⟨u,us',rfl,hu,hr⟩:=h.head
  exact .cons (ptrOk_rv F hc.1 hu) (capsOk_rv F ss vs us' hc.2 hr)
 | [],_::_,us,hc,_=>by cases hc
 | _::_,[],us,hc,_=>by cases hc
def SS.rows:SS→List Nat
 | .acc s=>[s]
 | .arr s _=>[s]
 | _=>[]
def CS.rows:CS→List Nat
 | .val _=>[]
 | .acc s=>[s]
 | .pair a b=>a.rows++b.rows
theorem decS_rv {L:Lk} {T':Tab} {ι':Nat→Nat} {S':Addr→Prop} (F:Fm κ ι st.o w L T' ι' S') {v:V} {u:Value} (hv:Rv st.o ι (Stable κ.D st.o ι w) w v u):
  ∀(k:SS) (l r:List TX),decS L st.o v k=some l→(∀s∈k.rows,RowAt st.o T' L s)→Rv T' ι' S' w (encS k (l++r)).1 u∧(encS k (l++r)).2=r
 | .val t,l,r,h,_=>by
  simp only[decS] at h
  split at h
  ·rename_i x hx
   injection h with h;subst h
   exact⟨.pure ((impV_rv hx hv).mono fun p hp=>⟨F.st p hp,rfl⟩),rfl⟩
  ·cases h
 | .ptr s off,l,r,h,_=>by
  simp only[decS] at h
  split at h
  ·rename_i hc
   injection h with h;subst h
   exact⟨ptrOk_rv F hc hv,rfl⟩
  ·cases h
 | .acc s,l,r,h,hrow=>by
  simp only[decS] at h
  split at h
  ·rename_i hc
   injection h with h;subst h
   exact⟨accOk_rv F hc (hrow s (by simp[SS.rows])) hv,rfl⟩
  ·cases h
 | .arr s sz,l,r,h,hrow=>by
  simp only[decS] at h
  split at h
  ·rename_i hc
   injection h with h;subst h
   exact⟨arrOk_rv F hc (hrow s (by simp[SS.rows])) hv,rfl⟩
  ·cases h
 | .mp s,l,r,h,_=>by
  simp only[decS] at h
  split at h
  ·rename_i hc
   injection h with h;subst h
   exact⟨mpOk_rv F hc hv,rfl⟩
  ·cases h
 | .fn f ss,l,r,h,_=>by
  simp only[decS] at h
  split at h
  ·rename_i f' caps
   split at h
   ·rename_i hc
    obtain⟨rfl,hc⟩:=hc
    injection h with h;subst h
    obtain⟨us,rfl,hl,hh⟩:=hv.fn_
    have:=capsOk_rv F ss caps us hc ⟨hl,hh⟩
    exact⟨.fn this.1 this.2,rfl⟩
   ·cases h
  ·cases h
theorem decC_rv {L:Lk} {T':Tab} {ι':Nat→Nat} {S':Addr→Prop} (F:Fm κ ι st.o w L T' ι' S'):
  ∀(k:CS) (cs cr:List V) (l r:List TX) (us:List Value),decC L st.o k cs=some (l,cr)→(∀s∈k.rows,RowAt st.o T' L s)→LR (Rv st.o ι (Stable κ.D st.o ι w) w) cs us→
   LR (Rv T' ι' S' w) (encC k (l++r)).1 (us.take (encC k (l++r)).1.length)∧LR (Rv st.o ι (Stable κ.D st.o ι w) w) cr (us.drop (encC k (l++r)).1.length)∧(encC k (l++r)).2=r
 | .val t,cs,cr,l,r,us,h,_,hr=>by
  simp only[decC] at h
  split at h
  ·rename_i x r1 hx
   injection h with h;injection h with h1 h2;subst h1 h2
   have:=impC_rv t cs r1 x us hx hr
   have e1:(encC (.val t) ([⟨t,x⟩]++r)).1=cellsW t x:=rfl
   rw[e1]
   have hl:(cellsW t x).length=(cellsV t x).length:=by rw[cellsW_length,cellsV_length]
   have ha:=this.take (cellsV t x).length
   have hb:=this.drop (cellsV t x).length
   rw[List.take_left] at ha
   rw[List.drop_left] at hb
   rw[hl]
   have hp:LR (Rp (Stable κ.D st.o ι w) w) (cellsV t x) (us.take (cellsV t x).length):=lr_pure (fun d hd=>pure_cellsV t x d hd) ha
   exact⟨(cellsW_rp t x _ hp).mono fun d u hd=>.pure (hd.mono fun p hp=>⟨F.st p hp,rfl⟩),hb,rfl⟩
  ·cases h
 | .acc s,cs,cr,l,r,us,h,hrow,hr=>by
  simp only[decC] at h
  split at h
  ·rename_i v r1
   split at h
   ·rename_i hc
    injection h with h;injection h with h1 h2;subst h1 h2
    obtain⟨u,us',rfl,hu,hr'⟩:=hr.head
    exact⟨.cons (accOk_rv F hc (hrow s (by simp[CS.rows])) hu) .nil,hr',rfl⟩
   ·cases h
  ·cases h
 | .pair a b,cs,cr,l,r,us,h,hrow,hr=>by
  simp only[decC] at h
  split at h
  ·rename_i l1 r1 h1
   split at h
   ·rename_i l2 r2 h2
    injection h with h;injection h with e1 e2;subst e1 e2
    obtain⟨a1,a2,a3⟩:=decC_rv F a cs r1 l1 (l2++r) us h1 (fun s hs=>hrow s (by simp[CS.rows,hs])) hr
    obtain⟨b1,b2,b3⟩:=decC_rv F b r1 r2 l2 r _ h2 (fun s hs=>hrow s (by simp[CS.rows,hs])) a2
    have e:(encC (.pair a b) (l1++l2++r))=((encC a (l1++(l2++r))).1++(encC b (l2++r)).1,(encC b (l2++r)).2):=by
     simp only[encC,List.append_assoc]
     rw[a3]
    rw[e]
    simp only[List.length_append]
    refine⟨?_,?_,b3⟩
    ·rw[List.take_add]
     exact a1.append b1
    ·rw[←List.drop_drop];exact b2
   ·cases h
  ·cases h
end
end Go.Abs
namespace Go.Abs
open Go.RowKit
set_option linter.unusedVariables false
set_option linter.unusedSimpArgs false
theorem impN_len {e:Ty} (ih:∀(cs r:List V) (x:e.I),impC e cs=some (x,r)→cs.length=e.size+r.length):∀(n:Nat) (cs r:List V) (m:List e.I),impN (impC e) n cs=some (m,r)→cs.length=m.length*e.size+r.length
 | 0,cs,r,m,h=>by simp[impN] at h;obtain⟨rfl,rfl⟩:=h;simp
 | n+1,cs,r,m,h=>by
  simp only[impN] at h
  split at h
  ·rename_i x r1 h1
   split at h
   ·rename_i l r2 h2
    simp at h
    obtain⟨rfl,rfl⟩:=h
    have:=ih _ _ _ h1
    have:=impN_len ih n _ _ _ h2
    simp only[List.length_cons,Nat.succ_mul]
    omega
   ·cases h
  ·cases h
theorem impC_len:∀(t:Ty) (cs r:List V) (x:t.I),impC t cs=some (x,r)→cs.length=t.size+r.length:=by
 intro t
 induction t with
 | int k=>intro cs r x h;simp only[impC] at h;(repeat' split at h)<;>first | (simp at h;obtain⟨rfl,rfl⟩:=h;simp[Ty.size];omega) | cases h
 | bool=>intro cs r x h;simp only[impC] at h;(repeat' split at h)<;>first | (simp at h;obtain⟨rfl,rfl⟩:=h;simp[Ty.size];omega) | cases h
 | str=>intro cs r x h;simp only[impC] at h;(repeat' split at h)<;>first | (simp at h;obtain⟨rfl,rfl⟩:=h;simp[Ty.size];omega) | cases h
 | list e ih=>intro cs r x h;simp only[impC] at h;(repeat' split at h)<;>first | (simp at h;obtain⟨_,rfl⟩:=h;simp[Ty.size];omega) | cases h
 | unit=>intro cs r x h;simp only[impC] at h;simp at h;subst h;simp[Ty.size]
 | pair a b iha ihb=>
  intro cs r x h
  simp only[impC] at h
  split at h
  ·rename_i y r1 hy
   split at h
   ·rename_i z r2 hz
    simp at h
    obtain⟨rfl,rfl⟩:=h
    have:=iha _ _ _ hy
    have:=ihb _ _ _ hz
    simp only[Ty.size];omega
   ·cases h
  ·cases h
 | agg t ih=>intro cs r x h;simp only[impC] at h;exact ih _ _ _ h
 | alt t a q iha ihq=>intro cs r x h;simp only[impC] at h;(repeat' split at h)<;>first | (simp at h;obtain⟨_,rfl⟩:=h;simp[Ty.size];omega) | cases h
 | alt1 t a iha=>intro cs r x h;simp only[impC] at h;(repeat' split at h)<;>first | (simp at h;obtain⟨_,rfl⟩:=h;simp[Ty.size];omega) | cases h
 | inil=>intro cs r x h;simp only[impC] at h;(repeat' split at h)<;>first | (simp at h;subst h;simp[Ty.size];omega) | cases h
theorem encS_rest {L:Lk} {T:Tab} {v:V}:∀(k:SS) (l r:List TX),decS L T v k=some l→(encS k (l++r)).2=r
 | .val t,l,r,h=>by
  simp only[decS] at h
  split at h
  ·injection h with h;subst h;rfl
  ·cases h
 | .ptr s off,l,r,h=>by
  simp only[decS] at h
  split at h
  ·injection h with h;subst h;rfl
  ·cases h
 | .acc s,l,r,h=>by
  simp only[decS] at h
  split at h
  ·injection h with h;subst h;rfl
  ·cases h
 | .arr s sz,l,r,h=>by
  simp only[decS] at h
  split at h
  ·injection h with h;subst h;rfl
  ·cases h
 | .mp s,l,r,h=>by
  simp only[decS] at h
  split at h
  ·injection h with h;subst h;rfl
  ·cases h
 | .fn f ss,l,r,h=>by
  simp only[decS] at h
  split at h
  ·split at h
   ·injection h with h;subst h;rfl
   ·cases h
  ·cases h
theorem encC_rest {L:Lk} {T:Tab}:∀(k:CS) (cs cr:List V) (l r:List TX),decC L T k cs=some (l,cr)→(encC k (l++r)).2=r
 | .val t,cs,cr,l,r,h=>by
  simp only[decC] at h
  split at h
  ·injection h with h;injection h with h1 h2;subst h1 h2;rfl
  ·cases h
 | .acc s,cs,cr,l,r,h=>by
  simp only[decC] at h
  split at h
  ·split at h
   ·injection h with h;injection h with h1 h2;subst h1 h2;rfl
   ·cases h
  ·cases h
 | .pair a b,cs,cr,l,r,h=>by
  simp only[decC] at h
  split at h
  ·rename_i l1 r1 h1
   split at h
   ·rename_i l2 r2 h2
    injection h with h;injection h with e1 e2;subst e1 e2
    simp only[encC,List.append_assoc]
    rw[encC_rest a cs r1 l1 (l2++r) h1]
    exact encC_rest b r1 r2 l2 r h2
   ·cases h
  ·cases h
theorem encO_rest {L:Lk} {T:Tab} {s:Nat}:∀(k:OS) (l r:List TX),decO L T s k=some l→(encO k (l++r)).2=r
 | .box ty c,l,r,h=>by
  simp only[decO] at h
  split at h
  ·split at h
   ·split at h
    ·split at h
     ·rename_i hd
      injection h with h;subst h
      exact encC_rest c _ _ _ r hd
     ·cases h
    ·cases h
   ·cases h
  ·cases h
 | .nrow ty e fz nl,l,r,h=>by
  simp only[decO] at h
  split at h
  ·split at h
   ·split at h
    ·split at h
     ·injection h with h;subst h;rfl
     ·cases h
    ·cases h
   ·split at h
    ·split at h
     ·injection h with h;subst h;rfl
     ·cases h
    ·cases h
   ·cases h
  ·split at h
   ·injection h with h;subst h;rfl
   ·cases h
 | .iter,l,r,h=>by
  simp only[decO] at h
  split at h
  ·split at h
   ·injection h with h;subst h;rfl
   ·cases h
  ·cases h
 | .mp e,l,r,h=>by
  simp only[decO] at h
  split at h
  ·split at h
   ·split at h
    ·injection h with h;subst h;rfl
    ·cases h
   ·cases h
  ·cases h
theorem encSL_ok {L:Lk} {st:St}:∀(m:List (Nat×SS)) (l r:List TX),decSL L st m=some l→(encSL m (l++r)).2=r∧
  ∀t v,(t,v)∈(encSL m (l++r)).1→∃k l1 r1,(t,k)∈m∧decS L st.o (st.get t) k=some l1∧v=(encS k (l1++r1)).1
 | [],l,r,h=>by simp only[decSL] at h;injection h with h;subst h;exact⟨rfl,fun t v hv=>by simp[encSL] at hv⟩
 | e::m,l,r,h=>by
  simp only[decSL] at h
  split at h
  ·rename_i l1 l2 h1 h2
   injection h with h;subst h
   obtain⟨a1,a2⟩:=encSL_ok m l2 r h2
   have e1:(encS e.2 (l1++l2++r)).2=l2++r:=by rw[List.append_assoc];exact encS_rest e.2 l1 (l2++r) h1
   simp only[encSL,e1]
   refine⟨a1,fun t v hv=>?_⟩
   rcases List.mem_cons.1 hv with hv | hv
   ·injection hv with q1 q2
    subst q1 q2
    exact⟨e.2,l1,l2++r,by simp,h1,by rw[List.append_assoc]⟩
   ·obtain⟨k,l3,r3,b1,b2,b3⟩:=a2 t v hv
    exact⟨k,l3,r3,by simp[b1],b2,b3⟩
  ·cases h
theorem encOL_ok {L:Lk} {T:Tab}:∀(m:List (Nat×OS)) (l r:List TX),decOL L T m=some l→(encOL m (l++r)).map (·.1)=m.map (·.1)∧
  (∀s ob,(s,ob)∈encOL m (l++r)→∃k l1 r1,(s,k)∈m∧decO L T s k=some l1∧ob=⟨gen0 s,(encO k (l1++r1)).1⟩)∧
  ∀s k,(s,k)∈m→∃l1 r1,decO L T s k=some l1∧(s,⟨gen0 s,(encO k (l1++r1)).1⟩)∈encOL m (l++r)
 | [],l,r,h=>by simp only[decOL] at h;injection h with h;subst h;exact⟨rfl,fun s ob hv=>by simp[encOL] at hv,fun s k hv=>by simp at hv⟩
 | e::m,l,r,h=>by
  simp only[decOL] at h
  split at h
  ·rename_i l1 l2 h1 h2
   injection h with h;subst h
   obtain⟨a1,a2,a3⟩:=encOL_ok m l2 r h2
   have e1:(encO e.2 (l1++l2++r)).2=l2++r:=by rw[List.append_assoc];exact encO_rest e.2 l1 (l2++r) h1
   simp only[encOL,e1]
   refine⟨by simp[a1],fun s ob hv=>?_,fun s k hv=>?_⟩
   ·rcases List.mem_cons.1 hv with hv | hv
    ·injection hv with q1 q2
     subst q1 q2
     exact⟨e.2,l1,l2++r,by simp,h1,by rw[List.append_assoc]⟩
    ·obtain⟨k,l3,r3,b1,b2,b3⟩:=a2 s ob hv
     exact⟨k,l3,r3,by simp[b1],b2,b3⟩
   ·rcases List.mem_cons.1 hv with hv | hv
    ·subst hv
     exact⟨l1,l2++r,h1,by rw[List.append_assoc];simp⟩
    ·obtain⟨l3,r3,b1,b2⟩:=a3 s k hv
     exact⟨l3,r3,b1,by simp[b2]⟩
  ·cases h
theorem aget_mem {α:Type} {d v:α}:∀{l:List (Nat×α)} {q:Nat},(l.map (·.1)).Nodup→(q,v)∈l→aget d l q=v
 | [],q,_,h=>by simp at h
 | (k,x)::r,q,hn,h=>by
  simp only[List.map_cons,List.nodup_cons] at hn
  simp only[aget]
  rcases List.mem_cons.1 h with h | h
  ·injection h with e1 e2;subst e1 e2;simp
  ·rw[if_neg,aget_mem hn.2 h]
   rintro rfl
   exact hn.1 (List.mem_map.2 ⟨_,h,rfl⟩)
theorem aget_cases {α:Type} {d:α}:∀(l:List (Nat×α)) (q:Nat),aget d l q=d∨∃v,(q,v)∈l∧aget d l q=v
 | [],q=>.inl rfl
 | (k,x)::r,q=>by
  simp only[aget]
  by_cases h:k=q
  ·subst h;simp
  ·rw[if_neg h]
   rcases aget_cases r q with h1 | ⟨v,h1,h2⟩
   ·exact .inl h1
   ·exact .inr ⟨v,by simp[h1],h2⟩
def OS.rows:OS→List Nat
 | .box _ c=>c.rows
 | _=>[]
def isNrow:OS→Bool
 | .nrow _ _ _ _=>true
 | _=>false
def rowsOk (p:Pat):Bool:=(p.sl.flatMap (fun e=>e.2.rows)++p.ob.flatMap (fun e=>e.2.rows)).all fun s=>p.ob.any fun e=>e.1==s&&isNrow e.2
def decP1 (st:St) (p:Pat):Option p.I:=if rowsOk p=true then decP0 st p else none
section
variable {κ : Cx} {ι : Nat → Nat} {st : St} {a : Act} {w : World}
theorem decO_rv {L:Lk} {T':Tab} {ι':Nat→Nat} {S':Addr→Prop} (h:RelI κ ι st a w) (F:Fm κ ι st.o w L T' ι' S') {s:Nat}:
  ∀(k:OS) (l r:List TX),decO L st.o s k=some l→(∀s'∈k.rows,RowAt st.o T' L s')→
   ObRel T' ι' S' w (ι' s) (encO k (l++r)).1
 | .box ty c,l,r,hd,hrow=>by
  simp only[decO] at hd
  split at hd
  ·rename_i q hq
   split at hd
   ·rename_i ty' cs hk
    split at hd
    ·rename_i hty
     subst hty
     split at hd
     ·rename_i l' hdc
      injection hd with hd;subst hd
      have hob:=h.tr.ob q
      rw[hk] at hob
      obtain⟨arr,fz,b1,b2,b3,b4⟩:=hob
      obtain⟨c1,c2,c3⟩:=decC_rv F c cs [] l' r arr.toList hdc hrow ⟨by simpa using b3.symm,b4⟩
      have hlen:(encC c (l'++r)).1.length=arr.size:=by
       have q1:=c1.1
       have q2:=c2.1
       simp only[List.length_take,List.length_drop,Array.length_toList,List.length_nil] at q1 q2
       omega
      rw[hlen] at c1
      rw[List.take_of_length_le (by simp)] at c1
      rw[F.io s q hq]
      exact⟨arr,fz,b1,b2,hlen.symm,c1.2⟩
     ·cases hd
    ·cases hd
   ·cases hd
  ·cases hd
 | .nrow ty e fz nl,l,r,hd,_=>by
  simp only[decO] at hd
  split at hd
  ·rename_i q hq
   split at hd
   ·rename_i ty' fz' nl' M hk
    split at hd
    ·rename_i hc
     obtain⟨rfl,rfl,hc⟩:=hc
     split at hd
     ·rename_i he
      obtain⟨e',m⟩:=M
      simp only at he;subst he
      injection hd with hd;subst hd
      have hob:=h.tr.ob q
      rw[hk] at hob
      rw[F.io s q hq]
      show ObRel T' ι' S' w (ι q) (.nrow ty fz nl ⟨e',m⟩)
      rcases hob with hb | ⟨arr,fz1,cap,b1,b2,b3,b4,b5,b6⟩
      ·exact .inl hb
      ·exact .inr ⟨arr,fz1,cap,b1,b2,b3,b4,b5,fun i d u hd hu=>.pure (((b6 i d u hd hu).pure_ (TL.pure_cells hd)).mono fun p hp=>⟨F.st p hp,rfl⟩)⟩
     ·cases hd
    ·cases hd
   ·rename_i ty' sz fz' cs hk
    split at hd
    ·rename_i hc
     obtain⟨rfl,rfl,hc,hne⟩:=hc
     split at hd
     ·rename_i m hm
      injection hd with hd;subst hd
      have hob:=h.tr.ob q
      rw[hk] at hob
      obtain⟨arr,fz1,cap,b1,b2,b3,b4,b5,b6⟩:=hob
      rw[F.io s q hq]
      show ObRel T' ι' S' w (ι q) (.nrow ty fz nl ⟨e,m⟩)
      have hlr:LR (Rv st.o ι (Stable κ.D st.o ι w) w) cs (arr.toList.take cs.length):=⟨by simp;omega,fun i d u hd hu=>by
       rw[List.getElem?_take] at hu
       split at hu
       ·exact b6 i d u hd hu
       ·cases hu⟩
      obtain⟨h5,h6⟩:=impN_rv (impC_rv e) _ cs [] m _ hm hlr
      rw[List.append_nil] at h6
      have hlen:cs.length=(⟨e,m⟩:TL).cells.length:=by
       have:=h6.1
       rw[←hlr.1] at this
       exact this.symm
      refine .inr ⟨arr,fz1,cap,b1,fun j hj=>b2 j hj,b3,b4,by rw[←hlen];exact b5,fun i d u hd hu=>?_⟩
      have hi:i<cs.length:=by rw[hlen];exact(List.getElem?_eq_some_iff.1 hd).1
      have:=h6.2 i d u hd (by rw[List.getElem?_take,if_pos hi];exact hu)
      exact .pure ((this.pure_ (TL.pure_cells hd)).mono fun p hp=>⟨F.st p hp,rfl⟩)
     ·cases hd
    ·cases hd
   ·cases hd
  ·split at hd
   ·rename_i hnl
    injection hd with hd;subst hd
    exact .inl ⟨hnl,rfl⟩
   ·cases hd
 | .iter,l,r,hd,_=>by
  simp only[decO] at hd
  split at hd
  ·rename_i q hq
   split at hd
   ·rename_i m pos hk
    injection hd with hd;subst hd
    have hob:=h.tr.ob q
    rw[hk] at hob
    rw[F.io s q hq]
    show ObRel T' ι' S' w (ι q) (.iter m (Int.toNat (pos:Int)))
    rw[Int.toNat_natCast]
    exact hob
   ·cases hd
  ·cases hd
 | .mp e,l,r,hd,_=>by
  simp only[decO] at hd
  split at hd
  ·rename_i q hq
   split at hd
   ·rename_i M hk
    split at hd
    ·rename_i he
     obtain⟨e',m⟩:=M
     simp only at he;subst he
     injection hd with hd;subst hd
     have hob:=h.tr.ob q
     rw[hk] at hob
     rw[F.io s q hq]
     show ObRel T' ι' S' w (ι q) (.mp ⟨e',m⟩)
     obtain⟨es,c,h1,h2,h3⟩:=hob
     exact⟨es,c,h1,h2,fun i p x hp hx=>⟨(h3 i p x hp hx).1,(h3 i p x hp hx).2.mono fun p hp=>⟨F.st p hp,rfl⟩⟩⟩
    ·cases hd
   ·cases hd
  ·cases hd
theorem decO_live {L:Lk} {s:Nat}:∀(k:OS) (l r:List TX),decO L st.o s k=some l→(encO k (l++r)).1.live→
   ∃q,lookN L s=some q∧st.o.live q∧∀o,(st.o.get q).k.fzAt o→(encO k (l++r)).1.fzAt o
 | .box ty c,l,r,hd,hl=>by
  simp only[decO] at hd
  split at hd
  ·rename_i q hq
   split at hd
   ·rename_i ty' cs hk
    exact⟨q,hq,by simp[Tab.live,hk,OK.live],fun o ho=>by rw[hk] at ho;exact ho.elim⟩
   ·cases hd
  ·cases hd
 | .nrow ty e fz nl,l,r,hd,hl=>by
  simp only[decO] at hd
  split at hd
  ·rename_i q hq
   split at hd
   ·rename_i ty' fz' nl' M hk
    split at hd
    ·rename_i hc
     obtain⟨rfl,rfl,hc⟩:=hc
     split at hd
     ·rename_i he
      obtain⟨e',m⟩:=M
      simp only at he;subst he
      injection hd with hd;subst hd
      refine⟨q,hq,by simp only[Tab.live,hk];exact hl,fun o ho=>?_⟩
      rw[hk] at ho
      cases fz' with
      | false=>exact ho.elim
      | true=>
       simp at hc
       subst hc
       exact ho
     ·cases hd
    ·cases hd
   ·rename_i ty' sz fz' cs hk
    split at hd
    ·rename_i hc
     obtain⟨rfl,rfl,hc,hne⟩:=hc
     split at hd
     ·rename_i m hm
      injection hd with hd;subst hd
      refine⟨q,hq,by simp[Tab.live,hk,OK.live],fun o ho=>?_⟩
      rw[hk] at ho
      cases fz' with
      | false=>exact ho.elim
      | true=>
       simp at hc
       subst hc
       have ho':o<cs.length:=ho
       show o<m.length*e.size
       have:=impN_len (impC_len e) _ _ _ _ hm
       simp only[List.length_nil] at this
       omega
     ·cases hd
    ·cases hd
   ·cases hd
  ·split at hd
   ·rename_i hnl
    injection hd with hd;subst hd
    exact absurd ⟨hnl,rfl⟩ hl
   ·cases hd
 | .iter,l,r,hd,hl=>by
  simp only[decO] at hd
  split at hd
  ·rename_i q hq
   split at hd
   ·rename_i m pos hk
    exact⟨q,hq,by simp[Tab.live,hk,OK.live],fun o ho=>by rw[hk] at ho;exact ho.elim⟩
   ·cases hd
  ·cases hd
 | .mp e,l,r,hd,hl=>by
  simp only[decO] at hd
  split at hd
  ·rename_i q hq
   split at hd
   ·rename_i M hk
    exact⟨q,hq,by simp[Tab.live,hk,OK.live],fun o ho=>by rw[hk] at ho;exact ho.elim⟩
   ·cases hd
  ·cases hd
end
end Go.Abs
namespace Go.Abs
open Go.RowKit
set_option linter.unusedVariables false
set_option linter.unusedSimpArgs false
section
variable {κ : Cx} {ι : Nat → Nat} {st : St} {a : Act} {w : World}
theorem canon1 {base:St} {p:Pat} {l:List TX} (hgv:κ.gv=[]) (hn:base.n=st.n) (hb:∀t,base.get t=.undef∨(base.get t=st.get t∧(base.get t).still=true)) (hro:rowsOk p=true) (hx:dec1 st p=some l) (hr:Rel κ st a w):Rel κ (patS1 base p l) a w:=by
 obtain⟨ι,h⟩:=hr
 unfold dec1 at hx
 split at hx
 case isFalse=>cases hx
 rename_i hok
 simp only[patOk,Bool.and_eq_true,decide_eq_true_eq] at hok
 obtain⟨⟨⟨hns,hg0⟩,hlk⟩,hcov⟩:=hok
 split at hx
 case h_2=>cases hx
 rename_i l1 l2 hsl hol
 injection hx with hx;subst hx
 generalize hL:linksOf st p=L at *
 obtain⟨hs1,hs2⟩:=encSL_ok p.sl l1 l2 hsl
 have hol':=encOL_ok p.ob l2 [] hol
 rw[List.append_nil] at hol'
 obtain⟨ho1,ho2,ho3⟩:=hol'
 have hT':(patS1 base p (l1++l2)).o=encOL p.ob l2:=by simp only[patS1,hs1]
 have hnd:((encOL p.ob l2).map (·.1)).Nodup:=by rw[ho1];exact hns
 let ι':Nat→Nat:=fun s=>match lookN L s with | some q=>ι q | none=>0
 have hι':∀s q,lookN L s=some q→ι' s=ι q:=fun s q hq=>by simp only[ι',hq]
 have hget:∀s k,(s,k)∈p.ob→∃l1 r1,decO L st.o s k=some l1∧Tab.get (encOL p.ob l2) s=⟨gen0 s,(encO k (l1++r1)).1⟩:=fun s k hk=>by
  obtain⟨l3,r3,b1,b2⟩:=ho3 s k hk
  exact⟨l3,r3,b1,aget_mem hnd b2⟩
 have hcase:∀s,Tab.get (encOL p.ob l2) s=⟨0,.dead⟩∨∃k l3 r3,(s,k)∈p.ob∧decO L st.o s k=some l3∧Tab.get (encOL p.ob l2) s=⟨gen0 s,(encO k (l3++r3)).1⟩:=fun s=>by
  rcases aget_cases (d:=(⟨0,.dead⟩:Ob)) (encOL p.ob l2) s with e | ⟨v,e1,e2⟩
  ·exact .inl e
  ·obtain⟨k,l3,r3,b1,b2,b3⟩:=ho2 s v e1
   exact .inr ⟨k,l3,r3,b1,b2,by show aget _ _ _=_;rw[e2,b3]⟩
 generalize hTT:encOL p.ob l2=T' at *
 have hlive:∀s,T'.live s→∃q,lookN L s=some q∧st.o.live q∧∀o,(st.o.get q).k.fzAt o→(T'.get s).k.fzAt o:=fun s hs=>by
  rcases hcase s with e | ⟨k,l3,r3,b1,b2,b3⟩
  ·simp[Tab.live,e,OK.live] at hs
  ·rw[b3]
   exact decO_live k l3 r3 b2 (by simpa [Tab.live,b3] using hs)
 have hS:∀q,Stable κ.D st.o ι w q→Stable κ.D T' ι' w q:=fun q hq=>by
  refine⟨hq.1,hq.2.1,fun s hs e=>?_⟩
  obtain⟨q',h1,h2,h3⟩:=hlive s hs
  exact h3 _ (hq.2.2 q' h2 (by rw[←hι' s q' h1];exact e))
 have F:Fm κ ι st.o w L T' ι' (Stable κ.D T' ι' w):=⟨hS,hι',fun s q hq=>by
  have hm:=lookN_mem hq
  have hc:=List.all_eq_true.1 hcov _ hm
  simp only[List.contains_eq_mem,List.mem_map,decide_eq_true_eq] at hc
  obtain⟨e,he,hes⟩:=hc
  obtain⟨s',k⟩:=e
  simp only at hes;subst hes
  obtain⟨_,_,_,b⟩:=hget _ k he
  rw[b]⟩
 have hrowAt:∀s,(∃k,(s,k)∈p.ob∧isNrow k=true)→RowAt st.o T' L s:=fun s ⟨k,hk,hnr⟩=>by
  cases k with
  | nrow ty e fz nl=>
   obtain⟨l3,r3,b1,b2⟩:=hget s _ hk
   unfold RowAt
   simp only[decO] at b1
   split at b1
   ·rename_i q hq
    split at b1
    ·rename_i ty' fz' nl' M hk'
     split at b1
     ·rename_i hc
      obtain⟨rfl,rfl,hc⟩:=hc
      split at b1
      ·rename_i he
       obtain⟨e',m⟩:=M
       simp only at he;subst he
       injection b1 with b1;subst b1
       refine⟨fun ty2 fz2 nl2 M2 e2=>?_,fun ty2 sz2 fz2 cs2 e2=>by rw[hk'] at e2;cases e2⟩
       rw[hk'] at e2
       injection e2 with q1 q2 q3 q4
       subst q1 q2 q3 q4
       exact⟨ty,fz,by rw[b2];rfl⟩
      ·cases b1
     ·cases b1
    ·rename_i ty' sz fz' cs hk'
     split at b1
     ·rename_i hc
      obtain⟨rfl,rfl,hc,hne⟩:=hc
      split at b1
      ·rename_i m hm
       injection b1 with b1;subst b1
       refine⟨fun ty2 fz2 nl2 M2 e2=>(by rw[hk'] at e2;cases e2),fun ty2 sz2 fz2 cs2 e2=>?_⟩
       rw[hk'] at e2
       injection e2 with q1 q2 q3 q4
       subst q1 q2 q3 q4
       have hob:=h.tr.ob q
       rw[hk'] at hob
       obtain⟨arr,fz1,cap,c1,c2,c3,c4,c5,c6⟩:=hob
       have hlr:LR (Rv st.o ι (Stable κ.D st.o ι w) w) cs (arr.toList.take cs.length):=⟨by simp;omega,fun i d u hd hu=>by
        rw[List.getElem?_take] at hu
        split at hu
        ·exact c6 i d u hd hu
        ·cases hu⟩
       obtain⟨h5,_⟩:=impN_rv (impC_rv e) _ cs [] m _ hm hlr
       exact⟨ty,fz,nl,⟨e,m⟩,by rw[b2];rfl,rfl,h5⟩
      ·cases b1
     ·cases b1
    ·cases b1
   ·rename_i hq
    split at b1
    ·rename_i hnl
     injection b1 with b1;subst b1
     subst hnl
     exact⟨ty,fz,⟨e,[]⟩,b2,rfl⟩
    ·cases b1
  | box _ _=>cases hnr
  | iter=>cases hnr
  | mp _=>cases hnr
 have hro':∀s,s∈p.sl.flatMap (fun e=>e.2.rows)∨s∈p.ob.flatMap (fun e=>e.2.rows)→RowAt st.o T' L s:=fun s hs=>by
  have:=List.all_eq_true.1 hro s (List.mem_append.2 hs)
  obtain⟨e,he1,he2⟩:=List.any_eq_true.1 this
  simp only[Bool.and_eq_true,beq_iff_eq] at he2
  obtain⟨s',k⟩:=e
  simp only at he2
  exact hrowAt s ⟨k,he2.1▸he1,he2.2⟩
 refine⟨ι',h.dfr,h.sz.trans hn.symm,fun t=>?_,⟨fun s=>?_,fun s s' hs hs' e=>?_,fun s hs=>?_⟩,fun s hs=>?_,h.kept,fun s b hp hg hs=>?_,?_⟩
 ·-- slots
  rw[hT']
  show Rv T' ι' _ w (aget .undef ((encSL p.sl (l1++l2)).1++base.t) t) _
  have key:∀(m:List (Nat×V)),(∀t v,(t,v)∈m→Rv T' ι' (Stable κ.D T' ι' w) w v (a.tmps.getD t undef))→
    Rv T' ι' (Stable κ.D T' ι' w) w (aget .undef (m++base.t) t) (a.tmps.getD t undef):=by
   intro m
   induction m with
   | nil=>
    intro _
    have e0:aget V.undef ([]++base.t) t=base.get t:=rfl
    rw[e0]
    rcases hb t with e | ⟨e,hs⟩
    ·rw[e];exact .undef _
    ·have:=h.tm t
     rw[←e] at this
     exact .pure ((this.pure_ (V.still_pure _ hs)).mono fun p hp=>⟨hS p hp,rfl⟩)
   | cons q r ih=>
    intro hm
    obtain⟨k,v⟩:=q
    simp only[List.cons_append,aget]
    split
    ·rename_i e;subst e;exact hm k v (by simp)
    ·exact ih fun t v hv=>hm t v (by simp[hv])
  refine key _ fun t v hv=>?_
  obtain⟨k,l3,r3,b1,b2,rfl⟩:=hs2 t v hv
  exact(decS_rv F (h.tm t) k l3 r3 b2 fun s hs=>hro' s (.inl (List.mem_flatMap.2 ⟨(t,k),b1,hs⟩))).1
 ·rw[hT']
  rcases hcase s with e | ⟨k,l3,r3,b1,b2,b3⟩
  ·rw[e];trivial
  ·rw[b3]
   exact decO_rv h F k l3 r3 b2 fun s' hs'=>hro' s' (.inr (List.mem_flatMap.2 ⟨(s,k),b1,hs'⟩))
 ·rw[hT'] at hs hs'
  obtain⟨q,h1,h2,_⟩:=hlive s hs
  obtain⟨q',h1',h2',_⟩:=hlive s' hs'
  rw[hι' s q h1,hι' s' q' h1'] at e
  have:=h.tr.inj q q' h2 h2' e
  subst this
  exact(lkOk_fun hlk (lookN_mem h1) (lookN_mem h1')).2 rfl
 ·rw[hT'] at hs
  obtain⟨q,h1,h2,_⟩:=hlive s hs
  rw[hι' s q h1];exact h.tr.lt q h2
 ·rw[hT'] at hs
  obtain⟨q,h1,h2,_⟩:=hlive s hs
  rw[hι' s q h1];exact h.my q h2
 ·rw[hT'] at hs
  obtain⟨q,h1,h2,_⟩:=hlive s hs
  have h3:=κ.hpin s b hp
  obtain⟨e1,e2⟩:=lkOk_pin hlk (lookN_mem h1) (.inl h3)
  subst e1
  rw[hι' s s h1]
  exact h.pin s b hp e2 h2
 ·rw[hgv];exact .nil
def viewR (st:St) (r:Nat):St:=
 if (st.get r).pure=true then st else
 match view depth st.o (st.get r) with
 | some (x,l)=>{ st with t:=(r,x)::st.t,o:=st.o.freezes l }
 | none=>st
theorem Rel.viewR {r:Nat} (h:Rel κ st a w):Rel κ (Abs.viewR st r) a w:=by
 unfold Abs.viewR
 split
 ·exact h
 split
 ·rename_i x l hv
  obtain⟨ι,h⟩:=h
  have hto:=To.freezes h l
  have h1:=To.rel h hto
  refine⟨ι,h1.dfr,h1.sz,fun t=>?_,h1.tr,h1.my,h1.kept,h1.pin,h1.gh⟩
  show Rv _ ι _ w (aget .undef ((r,x)::st.t) t) _
  simp only[aget]
  split
  ·rename_i e;subst e
   refine .pure (view_ok h1 (T:=st.o) depth _ x l _ hv (fun s hs=>?_) (h1.tm r))
   have:(st.o.freezes l).get s=⟨(st.o.get s).gen,(st.o.get s).k.freeze⟩:=by rw[Tab.get_freezes,if_pos hs]
   exact⟨by rw[this],by rw[this]⟩
  ·exact h1.tm t
 ·exact h
theorem viewR_get {r t:Nat} (h:(st.get t).pure=true):(Abs.viewR st r).get t=st.get t∧(Abs.viewR st r).n=st.n:=by
 unfold Abs.viewR
 split
 ·exact⟨rfl,rfl⟩
 ·rename_i hp
  split
  ·refine⟨?_,rfl⟩
   show aget .undef ((r,_)::st.t) t=_
   simp only[aget]
   rw[if_neg]
   ·rfl
   ·rintro rfl;exact hp h
  ·exact⟨rfl,rfl⟩
def viewB (st:St) (q:Nat):St:=
 match (st.o.get q).k with
 | .box ty cs=>if pureL cs=true then st else
  match mapV (view depth st.o) cs with
  | some (xs,l)=>{ st with o:=(st.o.freezes l).put q ⟨(st.o.get q).gen,.box ty xs⟩ }
  | none=>st
 | _=>st
theorem Rel.viewB {q:Nat} (h:Rel κ st a w):Rel κ (Abs.viewB st q) a w:=by
 unfold Abs.viewB
 split
 ·rename_i ty cs hk
  split
  ·exact h
  split
  ·rename_i xs l hm
   obtain⟨ι,h⟩:=h
   have hto:=To.freezes h l
   have h1:=To.rel h hto
   have hfz:∀s∈l,((st.o.freezes l).get s).k=(st.o.get s).k.freeze∧((st.o.freezes l).get s).gen=(st.o.get s).gen:=fun s hs=>by
    rw[Tab.get_freezes,if_pos hs];exact⟨rfl,rfl⟩
   have hk1:(st.o.freezes l).get q=⟨(st.o.get q).gen,.box ty cs⟩:=by
    rw[Tab.get_freezes]
    split
    ·rw[hk];rfl
    ·cases hq:st.o.get q;rw[hq] at hk;simp at hk;subst hk;rfl
   generalize hT1:st.o.freezes l=T1 at *
   have hl1:T1.live q:=by simp[Tab.live,hk1,OK.live]
   have hob:=h1.tr.ob q
   have hob':ObRel T1 ι (Stable κ.D T1 ι w) w (ι q) (.box ty cs):=by
    have e:(({ st with o:=T1 }:St).o.get q).k=.box ty cs:=by show (T1.get q).k=_;rw[hk1]
    rw[e] at hob;exact hob
   obtain⟨arr,fz,b1,b2,b3,b4⟩:=hob'
   have hm2:=mapV_ok (R':=Rp (Stable κ.D T1 ι w) w) cs xs l arr.toList hm ⟨by simpa using b3.symm,b4⟩ fun v x l'' u hmv hv hs hu=>
    view_ok (st:={ st with o:=T1 }) h1 depth v x l'' u hv (fun s hs'=>hfz s (hs s hs')) hu
   have hto2:To κ T1 ι w (T1.put q ⟨(st.o.get q).gen,.box ty xs⟩) ι w:=by
    refine To.turn (st:={ st with o:=T1 }) h1 q hl1 ⟨(st.o.get q).gen,.box ty xs⟩ rfl rfl rfl rfl (fun _ _=>rfl) (by show (T1.get q).gen≤_;rw[hk1];exact Nat.le_refl _)
     (fun p _ hp=>by have hp':(T1.get q).k.fzAt p.off:=hp;rw[hk1] at hp';exact hp'.elim) (fun _ _ _ _ e=>by cases e) (fun T' ι' H=>?_) (hsh:=.same rfl)
    exact⟨arr,fz,b1,b2,by rw[b3];exact(mapV_len cs xs l hm).symm,fun i d u hd hu=>.pure ((hm2.2 i d u hd hu).mono fun p hp=>H.st p hp)⟩
   exact⟨ι,To.rel (st:={ st with o:=T1 }) h1 hto2⟩
  ·exact h
 ·exact h
theorem viewB_get {q t:Nat}:(Abs.viewB st q).get t=st.get t∧(Abs.viewB st q).n=st.n:=by
 unfold Abs.viewB
 split
 ·split
  ·exact⟨rfl,rfl⟩
  ·split<;>exact⟨rfl,rfl⟩
 ·exact⟨rfl,rfl⟩
def pre1 (st:St) (e:Nat×SS):St:=match e.2 with
 | .val _=>Abs.viewR st e.1
 | _=>st
def preSl:List (Nat×SS)→St→St
 | [],st=>st
 | e::r,st=>preSl r (pre1 st e)
def pre2 (L:Lk) (st:St) (e:Nat×OS):St:=match e.2 with
 | .box _ c=>if c.rows.isEmpty then(match lookN L e.1 with
  | some q=>Abs.viewB st q
  | none=>st) else st
 | _=>st
def preOb (L:Lk):List (Nat×OS)→St→St
 | [],st=>st
 | e::r,st=>preOb L r (pre2 L st e)
def preV (st:St) (p:Pat):St:=preSl p.sl (preOb (linksOf st p) p.ob st)
theorem pre1_ok (st:St) (e:Nat×SS):(Rel κ st a w→Rel κ (pre1 st e) a w)∧(pre1 st e).n=st.n∧∀t,(st.get t).pure=true→(pre1 st e).get t=st.get t:=by
 unfold pre1
 split
 ·refine⟨fun h=>h.viewR,?_,fun t ht=>(viewR_get ht).1⟩
  unfold Abs.viewR
  split
  ·rfl
  ·split<;>rfl
 ·exact⟨id,rfl,fun _ _=>rfl⟩
theorem preSl_ok:∀(m:List (Nat×SS)) (st:St),(Rel κ st a w→Rel κ (preSl m st) a w)∧(preSl m st).n=st.n∧∀t,(st.get t).pure=true→(preSl m st).get t=st.get t
 | [],st=>⟨id,rfl,fun _ _=>rfl⟩
 | e::r,st=>by
  obtain⟨h1,h2,h3⟩:=preSl_ok r (pre1 st e)
  obtain⟨a1,a2,a3⟩:=pre1_ok (κ:=κ) (a:=a) (w:=w) st e
  simp only[preSl]
  exact⟨fun h=>h1 (a1 h),h2.trans a2,fun t ht=>by rw[h3 t (by rw[a3 t ht];exact ht),a3 t ht]⟩
theorem pre2_ok (L:Lk) (st:St) (e:Nat×OS):(Rel κ st a w→Rel κ (pre2 L st e) a w)∧(pre2 L st e).n=st.n∧∀t,(pre2 L st e).get t=st.get t:=by
 unfold pre2
 split
 ·split
  ·split
   ·exact⟨fun h=>h.viewB,(viewB_get (t:=0)).2,fun t=>viewB_get.1⟩
   ·exact⟨id,rfl,fun _=>rfl⟩
  ·exact⟨id,rfl,fun _=>rfl⟩
 ·exact⟨id,rfl,fun _=>rfl⟩
theorem preOb_ok {L:Lk}:∀(m:List (Nat×OS)) (st:St),(Rel κ st a w→Rel κ (preOb L m st) a w)∧(preOb L m st).n=st.n∧∀t,(preOb L m st).get t=st.get t
 | [],st=>⟨id,rfl,fun _=>rfl⟩
 | e::r,st=>by
  obtain⟨h1,h2,h3⟩:=preOb_ok (L:=L) r (pre2 L st e)
  obtain⟨a1,a2,a3⟩:=pre2_ok (κ:=κ) (a:=a) (w:=w) L st e
  simp only[preOb]
  exact⟨fun h=>h1 (a1 h),h2.trans a2,fun t=>by rw[h3 t,a3 t]⟩
def decP (st:St) (p:Pat):Option p.I:=decP1 (preV st p) p
theorem canon {base:St} {p:Pat} {x:p.I} (hgv:κ.gv=[]) (hn:base.n=st.n) (hb:∀t,base.get t=.undef∨(base.get t=st.get t∧(base.get t).still=true)) (hx:decP st p=some x) (hr:Rel κ st a w):Rel κ (patS base p x) a w:=by
 unfold decP decP1 at hx
 split at hx
 case isFalse=>cases hx
 rename_i hro
 unfold decP0 at hx
 split at hx
 case h_2=>cases hx
 rename_i l hl
 have hp:=unpack_pack _ _ _ hx
 unfold patS
 rw[hp]
 obtain⟨a1,a2,a3⟩:=preOb_ok (κ:=κ) (a:=a) (w:=w) (L:=linksOf st p) p.ob st
 obtain⟨b1,b2,b3⟩:=preSl_ok (κ:=κ) (a:=a) (w:=w) p.sl (preOb (linksOf st p) p.ob st)
 refine canon1 (st:=preV st p) hgv (by rw[hn];exact(b2.trans a2).symm) (fun t=>?_) hro hl (b1 (a1 hr))
 rcases hb t with e | ⟨e1,e2⟩
 ·exact .inl e
 ·right
  refine⟨?_,e2⟩
  have hpure:((preOb (linksOf st p) p.ob st).get t).pure=true:=by rw[a3 t,←e1];exact V.still_pure _ e2
  show base.get t=(preSl p.sl _).get t
  rw[b3 t hpure,a3 t,e1]
end
end Go.Abs
namespace Go.Abs
open Go.RowKit
set_option linter.unusedVariables false
set_option linter.unusedSimpArgs false
def selim {α β γ:Type} (f:α→γ) (g:β→γ) (r:α⊕β):γ:=match r with
 | .inl a=>f a
 | .inr b=>g b
def cnd {α:Type} (b:Bool) (x y:α):α:=bif b then x else y
def obind {α β:Type} (m:Option α) (f:α→Option β):Option β:=m.bind f
def omap {α β:Type} (f:α→β) (m:Option α):Option β:=m.map f
def loopN {σ ρ:Type}:Nat→(σ→Option (σ⊕ρ))→σ→Option ρ
 | 0,_,_=>none
 | n+1,f,x=>match f x with
  | some (.inl y)=>loopN n f y
  | some (.inr r)=>some r
  | none=>none
inductive Tr (α:Type):Type 1 where
 | ret (a:α)
 | fail
 | ite (b:Bool) (x y:Tr α)
 | ob {β:Type} (m:Option β) (f:β→Tr α)
 | sm {β γ:Type} (s:β⊕γ) (f:β→Tr α) (g:γ→Tr α)
def Tr.bind {α β:Type} (f:α→Tr β):Tr α→Tr β
 | .ret a=>f a
 | .fail=>.fail
 | .ite b x y=>.ite b (x.bind f) (y.bind f)
 | .ob m g=>.ob m fun b=>(g b).bind f
 | .sm s g h=>.sm s (fun b=>(g b).bind f) fun c=>(h c).bind f
def Tr.run {α:Type}:Tr α→Option α
 | .ret a=>some a
 | .fail=>none
 | .ite b x y=>bif b then x.run else y.run
 | .ob m g=>m.bind fun b=>(g b).run
 | .sm s g h=>match s with
  | .inl b=>(g b).run
  | .inr c=>(h c).run
def Tr.elim {α R:Type} (k:α→Option R):Tr α→Option R
 | .ret a=>k a
 | .fail=>none
 | .ite b x y=>cnd b (x.elim k) (y.elim k)
 | .ob m g=>obind m fun b=>(g b).elim k
 | .sm s g h=>selim (fun b=>(g b).elim k) (fun c=>(h c).elim k) s
def Tr.of {α:Type}:Option α→Tr α
 | some a=>.ret a
 | none=>.fail
def Tr.need {α:Type} (b:Bool) (x:Tr α):Tr α:=.ite b x .fail
def Tr.needs {α:Type}:List Bool→Tr α→Tr α
 | [],x=>x
 | b::r,x=>.need b (Tr.needs r x)
theorem Tr.run_bind {α β:Type} (f:α→Tr β):∀x:Tr α,(x.bind f).run=x.run.bind fun a=>(f a).run
 | .ret a=>rfl
 | .fail=>rfl
 | .ite b x y=>by cases b<;>simp[Tr.bind,Tr.run,run_bind f x,run_bind f y]
 | .ob m g=>by
  cases m with
  | none=>rfl
  | some b=>simp only[Tr.bind,Tr.run,Option.bind_some];exact run_bind f (g b)
 | .sm s g h=>by
  cases s with
  | inl b=>simp only[Tr.bind,Tr.run];exact run_bind f (g b)
  | inr c=>simp only[Tr.bind,Tr.run];exact run_bind f (h c)
theorem Tr.run_of {α:Type} (o:Option α):(Tr.of o).run=o:=by cases o<;>rfl
theorem Tr.run_need {α:Type} (b:Bool) (x:Tr α):(Tr.need b x).run=if b=true then x.run else none:=by cases b<;>rfl
theorem Tr.run_needs {α:Type} {r:α} {x:Tr α}:∀{l:List Bool},(Tr.needs l x).run=some r→l.all id=true∧x.run=some r
 | [],h=>⟨rfl,h⟩
 | b::l,h=>by
  simp only[Tr.needs,Tr.run_need] at h
  split at h
  ·rename_i hb
   obtain⟨h1,h2⟩:=run_needs h
   exact⟨by simp only[List.all_cons,Bool.and_eq_true];exact⟨hb,h1⟩,h2⟩
  ·cases h
theorem Tr.elim_run {α R:Type} (k:α→Option R) {r:R}:∀x:Tr α,x.elim k=some r→∃a,x.run=some a∧k a=some r
 | .ret a,h=>⟨a,rfl,h⟩
 | .fail,h=>by cases h
 | .ite b x y,h=>by
  cases b
  ·simp only[Tr.elim,cnd,cond] at h;exact elim_run k y h
  ·simp only[Tr.elim,cnd,cond] at h;exact elim_run k x h
 | .ob m g,h=>by
  cases m with
  | none=>cases h
  | some b=>simp only[Tr.elim,obind,Option.bind_some] at h;simp only[Tr.run,Option.bind_some];exact elim_run k (g b) h
 | .sm s g f,h=>by
  cases s with
  | inl b=>simp only[Tr.elim,selim] at h;simp only[Tr.run];exact elim_run k (g b) h
  | inr c=>simp only[Tr.elim,selim] at h;simp only[Tr.run];exact elim_run k (f c) h
abbrev Wr:=Option (Nat×Ob)
def cutOk (l h:Option Int) (len:Nat):Bool:=
 match l,h with
 | none,none=>true
 | none,some h=>decide (0≤h)&&decide (h≤(len:Int))
 | some l,none=>decide (0≤l)&&decide (l≤(len:Int))
 | some l,some h=>decide (0≤l)&&decide (l≤h)&&decide (h≤(len:Int))
theorem cutOk_ok {l h:Option Int} {len:Nat} (hc:cutOk l h len=true):loOk l=true∧loOk h=true∧loOf 0 l≤loOf len h∧loOf len h≤len:=by
 unfold cutOk at hc
 split at hc<;>simp[loOk,loOf] at hc ⊢<;>omega
def eqFieldsB (P:Program):List Field→List V→List V→Option Bool
 | [],[],[]=>some true
 | [f],[x],[y]=>eqCell P f.type x y
 | f::fs,x::xs,y::ys=>match eqCell P f.type x y,eqFieldsB P fs xs ys with
  | some a,some b=>some (a&&b)
  | _,_=>none
 | _,_,_=>none
theorem eqFieldsB_ok {P:Program}:∀{l:List Field} {xs ys:List V} {r:Bool},eqFieldsB P l xs ys=some r→eqFields P l xs ys=some r
 | [],[],[],r,h=>h
 | [f],[x],[y],r,h=>by
  simp only[eqFieldsB] at h
  simp only[eqFields,h]
  cases r<;>rfl
 | f::g::fs,x::xs,y::ys,r,h=>by
  simp only[eqFieldsB] at h
  split at h
  ·rename_i a b h1 h2
   injection h with h;subst h
   rw[eqFields]
   simp only[h1,eqFieldsB_ok h2]
   cases a<;>rfl
  ·cases h
 | [f],x::x'::xs,y::ys,r,h=>by
  simp only[eqFieldsB] at h
  split at h
  ·rename_i a b h1 h2
   cases ys<;>cases h2
  ·cases h
 | [f],[x],y::y'::ys,r,h=>by
  simp only[eqFieldsB] at h
  split at h
  ·rename_i a b h1 h2
   cases h2
  ·cases h
 | [],_::_,_,r,h=>by cases h
 | [],[],_::_,r,h=>by cases h
 | _::_,[],_,r,h=>by simp[eqFieldsB] at h
 | _::_,_::_,[],r,h=>by simp[eqFieldsB] at h
def eqAgg (P:Program) (t:Nat) (a b:List V):Option Bool:=
 match P.underlying t with
 | some (.struct fs)=>if flatFields P fs.toList 0=true∧P.stoodInHeld t=false∧P.eqGuardType P.depth t=false then eqFieldsB P fs.toList a b else none
 | _=>none
theorem eqAgg_ok {P:Program} {t:Nat} {c:Bool} {a b:List V} {r:Bool} (h:eqAgg P t a b=some r):eqNil P t c (.agg a) (.agg b)=some r:=by
 unfold eqAgg at h
 split at h
 ·rename_i fs hu
  split at h
  ·rename_i hc
   simp only[eqNil,hu,eqStruct,if_pos hc]
   exact eqFieldsB_ok h
  ·cases h
 ·cases h
def intsOf:List V→Option (List Int)
 | []=>some []
 | .int .u8 n::r=>match intsOf r with
  | some l=>some (n::l)
  | none=>none
 | _=>none
def bytesI (l:List Int):List UInt8:=l.map fun n=>UInt8.ofNat n.toNat
theorem intsOf_ok:∀(xs:List V) (l:List Int),intsOf xs=some l→l.all (fun n=>decide (0≤n)&&decide (n<256))=true→toBytes xs=some (bytesI l)
 | [],l,h,_=>by simp[intsOf] at h;subst h;rfl
 | x::r,l,h,ha=>by
  unfold intsOf at h
  split at h
  ·rename_i e;cases e
  ·rename_i n r' e
   injection e with e1 e2;subst e1 e2
   split at h
   ·rename_i l' hl'
    injection h with h;subst h
    simp only[List.all_cons,Bool.and_eq_true,decide_eq_true_eq] at ha
    rw[toBytes,if_pos ha.1,intsOf_ok r l' hl' ha.2]
    rfl
   ·cases h
  ·cases h
def u8T (L:TL):Option (List Int):=match L with
 | ⟨.int .u8,l⟩=>some l
 | _=>none
theorem u8T_ok {L:TL} {l:List Int} (h:u8T L=some l):L=⟨.int .u8,l⟩:=by
 unfold u8T at h
 split at h
 ·injection h with h;subst h;rfl
 ·cases h
theorem intsOf_lst:∀l:List Int,intsOf ((⟨.int .u8,l⟩:TL).cells)=some l
 | []=>rfl
 | x::r=>by
  have e:(⟨.int .u8,x::r⟩:TL).cells=.int .u8 x::(⟨.int .u8,r⟩:TL).cells:=rfl
  rw[e]
  simp only[intsOf,intsOf_lst r]
def convB (P:Program) (st:St) (src dst:Nat) (x:V):Option (List Int):=match x with
 | .own s g off n=>match P.underlying src with
  | some (.slice e)=>match P.underlying dst with
   | some .string=>if (P.underlying e).any (fun d=>d matches .int .u8)=true then(match aSrc st.o 1 (.own s g off n) with
    | some (_,xs)=>intsOf xs
    | none=>none) else none
   | _=>none
  | _=>none
 | .lst L=>match P.underlying src with
  | some (.slice e)=>match P.underlying dst with
   | some .string=>if (P.underlying e).any (fun d=>d matches .int .u8)=true then u8T L else none
   | _=>none
  | _=>none
 | .acc s g=>match P.underlying src with
  | some (.slice e)=>match P.underlying dst with
   | some .string=>if (P.underlying e).any (fun d=>d matches .int .u8)=true then(if (st.o.get s).gen=g then(match (st.o.get s).k with
     | .nrow _ _ _ L=>u8T L
     | _=>none) else none) else none
   | _=>none
  | _=>none
 | _=>none
def siT:(t:Ty)→t.I→Tr V
 | .alt t a r,x=>.sm x (fun y=>.ret (.ifc t (vOf a (cellsW a y)))) fun z=>siT r z
 | .alt1 t a,x=>.ret (.ifc t (vOf a (cellsW a x)))
 | .inil,_=>.ret .inil
 | _,_=>.ret .undef
theorem siT_run:∀(t:Ty) (x:t.I),(siT t x).run=some (siOf t x)
 | .alt t a r,.inl y=>rfl
 | .alt t a r,.inr z=>siT_run r z
 | .alt1 _ _,_ | .inil,_ | .int _,_ | .bool,_ | .str,_ | .list _,_ | .unit,_ | .pair _ _,_ | .agg _,_=>rfl
def aopT (P:Program) (st:St) (o:Oper):Tr (V×Wr):=
 match o.op with
 | .pick c a b=>match st.eval c with
  | .bs t=>.ite t (.ret (st.eval a,none)) (.ret (st.eval b,none))
  | _=>.of (aop P st o)
 | .binOp op t x y _=>match op,conB (st.eval x),conB (st.eval y) with
  | .quo,.int k m,.int k' n=>if k=k' then .need (!decide (n=0)) (.ret (.int k (wr k (m.tdiv n)),none)) else .fail
  | .rem,.int k m,.int k' n=>if k=k' then .need (!decide (n=0)) (.ret (.int k (m.tmod n),none)) else .fail
  | .shl,.int k m,.int k' n=>.need (!decide (n<0)) (.ret (.int k (wr k (m*2 ^ (min n.toNat k.bits))),none))
  | .shr,.int k m,.int k' n=>.need (!decide (n<0)) (.ret (.int k (m.fdiv (2 ^ (min n.toNat k.bits))),none))
  | .add,.str a,.str b=>.need (decide (a.length+b.length≤9223372036854775807)) (.ret (.str (a++b),none))
  | .eql,.agg a,.agg b=>match eqAgg P t a b with | some r=>.ret (.bs r,none) | none=>.fail
  | .neq,.agg a,.agg b=>match eqAgg P t a b with | some r=>.ret (.bs (!r),none) | none=>.fail
  | _,_,_=>.of (aop P st o)
 | .indexAddr t x ix=>match st.eval x,st.eval ix with
  | .lst L,.int _ i=>match P.underlying t with
   | some (.slice e)=>match P.info? e with
    | some inf=>if L.e.size=inf.size then .need (decide (0≤i)&&decide (i<L.l.length)) (.ret (.eref ⟨L.e,L.l.getD i.toNat L.e.dflt⟩ 0,none)) else .fail
    | none=>.fail
   | _=>.fail
  | .acc s g,.int _ i=>match P.underlying t with
   | some (.slice e)=>match P.info? e with
    | some inf=>if (st.o.get s).gen=g then(match (st.o.get s).k with
     | .nrow _ _ _ L=>if L.e.size=inf.size then .need (decide (0≤i)&&decide (i<L.l.length)) (.ret (.eptr s g inf.size i.toNat 0,none)) else .fail
     | _=>.fail) else .fail
    | none=>.fail
   | _=>.fail
  | .eptr s g sz 0 0,.int _ i=>match P.underlying t with
   | some (.array len e)=>match P.info? e with
    | some inf=>if isArr (.eptr s g sz 0 0) inf.size len=true then(if (st.o.get s).gen=g then(match (st.o.get s).k with
     | .nrow _ _ _ L=>if L.e.size=inf.size then .need (decide (0≤i)&&decide (i<L.l.length)&&decide (i<len)) (.ret (.eptr s g inf.size i.toNat 0,none)) else .fail
     | _=>.fail) else .fail) else .of (aop P st o)
    | none=>.of (aop P st o)
   | _=>.of (aop P st o)
  | _,_=>.of (aop P st o)
 | .index t x ix=>match st.eval x,st.eval ix with
  | .str s,.int k i=>match P.underlying t with
   | some .string=>.need (decide (0≤i)&&decide (i<s.length)) (.ret (.int .u8 (s.getD i.toNat 0).toNat,none))
   | _=>.fail
  | _,_=>.of (aop P st o)
 | .slice t x lo hi none=>match bndT (lo.map st.eval),bndT (hi.map st.eval) with
  | some l,some h=>match st.eval x with
   | .str s=>match P.underlying t with
    | some .string=>.need (cutOk l h s.length) (.ret (.str ((s.take (loOf s.length h)).drop (loOf 0 l)),none))
    | _=>.fail
   | .lst L=>match P.underlying t with
    | some (.slice e)=>match P.info? e with
     | some inf=>if L.e.size=inf.size then .need (cutOk l h L.l.length) (.ret (.lst ⟨L.e,(L.l.take (loOf L.l.length h)).drop (loOf 0 l)⟩,none)) else .fail
     | none=>.fail
    | _=>.fail
   | x=>match wSlice P st.o t x (lo.map st.eval) (hi.map st.eval) with
    | some r=>.needs r.1 (.ret (r.2,none))
    | none=>.of (aop P st o)
  | _,_=>.fail
 | .next it true=>match st.eval it with
  | .ptr s g 0=>if (st.o.get s).gen=g then(match (st.o.get s).k with
   | .iter l pos=>.ite (decide (pos<l.length))
     (.ret (.tup [.bool true,.int .i64 pos,.int .i32 (Utf8.decode ⟨⟨l⟩⟩ pos).1],some (s,⟨g,.iter l (pos+(Utf8.decode ⟨⟨l⟩⟩ pos).2)⟩)))
     (.ret (.tup [.bool false],none))
   | _=>.fail) else .fail
  | _=>.fail
 | .call ⟨.builtin .append,args,ats⟩=>match args.toList,ats.toList,o.dst with
  | [s,x],[t,tx],some d=>if isSym (st.eval s) (unNl (st.eval x))=true then(match P.underlying t,P.underlying tx with
   | some (.slice et),some dx=>match zeroC P et,P.info? et with
    | some _,some i=>if isSrcD dx=true∧0<i.size∧0<i.bytes then
      match st.eval s with
      | .acc q g=>if (st.o.get q).gen=g then(match (st.o.get q).k with
       | .nrow ty fz nl L=>if ty=et∧L.e.size=i.size then(match symSrc st.o L.e (unNl (st.eval x)) with
        | some l=>.need (decide ((L.l.length+l.length)*i.bytes≤140737488355328)) (.ret (.acc q (g+1),some (q,⟨g+1,.nrow ty fz nl ⟨L.e,L.l++l⟩⟩)))
        | none=>.fail) else .fail
       | _=>.fail) else .fail
      | .snil | .sz=>match srcTL st.o (unNl (st.eval x)) with
       | some L=>if L.e.size=i.size then .need (decide (L.l.length*i.bytes≤140737488355328)) (.ret (.acc d ((st.o.get d).gen+1),some (d,⟨(st.o.get d).gen+1,.nrow et false true L⟩))) else .fail
       | _=>.fail
      | _=>.fail
     else .fail
    | _,_=>.fail
   | _,_=>.fail) else if isOwn (st.eval s) (unNl (st.eval x))=true then(match oPre P st.o t tx (st.eval s) (unNl (st.eval x)) with
    | some r=>.need (decide (r.2.2.2.2.2.l.length*r.2.2.2.1≤140737488355328)) (.ret (.acc r.1 (r.2.1+2),some (r.1,⟨r.2.1+2,.nrow r.2.2.1 false false r.2.2.2.2.2⟩)))
    | none=>.fail) else if isCut (st.eval s)=true then(match cPre P st.o t tx (st.eval s) (unNl (st.eval x)) with
    | some r=>.need (decide (r.2.2.2.2.1≤r.2.2.2.2.2.1.l.length)) (.ret (.nwin r.1 (r.2.1+1) 0 r.2.2.2.2.1,some (r.1,⟨r.2.1+1,.nrow r.2.2.1.1 false r.2.2.1.2 r.2.2.2.2.2.2⟩)))
    | none=>.fail) else .of (aop P st o)
  | _,_,_=>.of (aop P st o)
 | .typeAssert x xt asserted ok=>match st.eval x with
  | .si X=>(siT X.e X.x).bind fun v=>.of ((aAssert P asserted ok v).map fun v=>(v,none))
  | _=>.of (aop P st o)
 | .convert src dst x=>match o.dst with
  | some d=>match convB P st src dst (st.eval x) with
   | some l=>.need (l.all fun n=>decide (0≤n)&&decide (n<256)) (.ret (.str (bytesI l),none))
   | none=>.of (aop P st o)
  | none=>.of (aop P st o)
 | _=>.of (aop P st o)
theorem ite_some {α:Type} {b:Bool} {x:Tr α} {r:α} (h:(Tr.need b x).run=some r):b=true∧x.run=some r:=by
 rw[Tr.run_need] at h
 split at h
 ·rename_i hb;exact⟨hb,h⟩
 ·cases h
theorem aopT_run {P:Program} {st:St} {o:Oper} {r:V×Wr} (h:(aopT P st o).run=some r):aop P st o=some r:=by
 obtain⟨dst,op,type,pos,after,guard⟩:=o
 unfold aopT at h
 simp only at h
 split at h
 ·-- pick
  rename_i c a b
  split at h
  ·rename_i t ht
   simp only[aop,ht]
   cases t<;>exact h
  ·rwa [Tr.run_of] at h
 ·-- binOp
  rename_i bo t x y yt
  split at h
  ·rename_i k m k' n hx hy
   split at h
   ·rename_i hk
    obtain⟨hb,h⟩:=ite_some h
    subst hk
    simp only[Bool.not_eq_true',decide_eq_false_iff_not] at hb
    simp only[aop,hx,hy,aBin,intBin,if_true,if_neg hb]
    exact h
   ·cases h
  ·rename_i k m k' n hx hy
   split at h
   ·rename_i hk
    obtain⟨hb,h⟩:=ite_some h
    subst hk
    simp only[Bool.not_eq_true',decide_eq_false_iff_not] at hb
    simp only[aop,hx,hy,aBin,intBin,if_true,if_neg hb]
    exact h
   ·cases h
  ·rename_i k m k' n hx hy
   obtain⟨hb,h⟩:=ite_some h
   simp only[Bool.not_eq_true',decide_eq_false_iff_not] at hb
   simp only[aop,hx,hy,aBin,if_neg hb]
   exact h
  ·rename_i k m k' n hx hy
   obtain⟨hb,h⟩:=ite_some h
   simp only[Bool.not_eq_true',decide_eq_false_iff_not] at hb
   simp only[aop,hx,hy,aBin,if_neg hb]
   exact h
  ·rename_i a b hx hy
   obtain⟨hb,h⟩:=ite_some h
   simp only[decide_eq_true_eq] at hb
   simp only[aop,hx,hy,aBin,strBin,if_pos hb]
   exact h
  ·rename_i a b hx hy
   split at h
   ·rename_i r hr
    simp only[aop,hx,hy,aBin,eqAgg_ok hr]
    exact h
   ·cases h
  ·rename_i a b hx hy
   split at h
   ·rename_i r hr
    simp only[aop,hx,hy,aBin,eqAgg_ok hr]
    exact h
   ·cases h
  ·rwa [Tr.run_of] at h
 ·-- indexAddr
  rename_i t x ix
  split at h
  ·rename_i L k i hx hi
   split at h
   ·rename_i e ht
    split at h
    ·rename_i inf hinf
     split at h
     ·rename_i hs
      obtain⟨hb,h⟩:=ite_some h
      simp only[Bool.and_eq_true,decide_eq_true_eq] at hb
      simp only[aop,hx,hi,aIndexAddr,ht,hinf,if_pos hs,if_pos hb]
      exact h
     ·cases h
    ·cases h
   ·cases h
  ·rename_i s g k i hx hi
   split at h
   ·rename_i e ht
    split at h
    ·rename_i inf hinf
     split at h
     ·rename_i hg
      split at h
      ·rename_i ty fz nl L hk
       split at h
       ·rename_i hs
        obtain⟨hb,h⟩:=ite_some h
        simp only[Bool.and_eq_true,decide_eq_true_eq] at hb
        simp only[aop,hx,hi,aIndexAddr,ht,hinf,if_pos hg,hk,if_pos hs,if_pos hb]
        exact h
       ·cases h
      ·cases h
     ·cases h
    ·cases h
   ·cases h
  ·rename_i s g sz k i hx hi
   split at h
   ·rename_i len e ht
    split at h
    ·rename_i inf hinf
     split at h
     ·rename_i hA
      split at h
      ·rename_i hg
       split at h
       ·rename_i ty fz nl L hk
        split at h
        ·rename_i hs
         obtain⟨hb,h⟩:=ite_some h
         simp only[Bool.and_eq_true,decide_eq_true_eq] at hb
         simp only[aop,hx,hi,aIndexAddr,ht,hinf,if_pos hA,aArrIx,if_pos hg,hk,if_pos (⟨hs,hb.1.1,hb.1.2,hb.2⟩:L.e.size=inf.size∧0≤i∧i<L.l.length∧i<len)]
         exact h
        ·cases h
       ·cases h
      ·cases h
     ·rwa [Tr.run_of] at h
    ·rwa [Tr.run_of] at h
   ·rwa [Tr.run_of] at h
  ·rwa [Tr.run_of] at h
 ·-- index
  rename_i t x ix
  split at h
  ·rename_i s k i hx hi
   split at h
   ·rename_i ht
    obtain⟨hb,h⟩:=ite_some h
    simp only[Bool.and_eq_true,decide_eq_true_eq] at hb
    have hlt:i.toNat<s.length:=by omega
    simp only[aop,hx,hi,aIndex,ht,if_pos hb.1,List.getElem?_eq_getElem hlt]
    have e:s.getD i.toNat 0=s[i.toNat]:=by simp[hlt]
    rw[e] at h
    exact h
   ·cases h
  ·rwa [Tr.run_of] at h
 ·-- slice
  rename_i t x lo hi
  split at h
  ·rename_i l hh hl hhh
   split at h
   ·rename_i s hx
    split at h
    ·rename_i ht
     obtain⟨hb,h⟩:=ite_some h
     obtain⟨b1,b2,b3,b4⟩:=cutOk_ok hb
     have e0:(if (lo.isNone&&hi.isNone)=true then aArr P st.o t (V.str s) else none)=none:=by
      split
      ·unfold aArr;rw[ht]
      ·rfl
     simp only[aop,hx,e0,aSlice,ht,bndT_ok hl b1 (d:=0),bndT_ok hhh b2 (d:=s.length),if_pos (And.intro b3 b4)]
     exact h
    ·cases h
   ·rename_i L hx
    split at h
    ·rename_i e ht
     split at h
     ·rename_i inf hinf
      split at h
      ·rename_i hs
       obtain⟨hb,h⟩:=ite_some h
       obtain⟨b1,b2,b3,b4⟩:=cutOk_ok hb
       have e0:(if (lo.isNone&&hi.isNone)=true then aArr P st.o t (V.lst L) else none)=none:=by
        split
        ·unfold aArr;rw[ht]
        ·rfl
       simp only[aop,hx,e0,aSlice,ht,hinf,if_pos hs,bndT_ok hl b1 (d:=0),bndT_ok hhh b2 (d:=L.l.length),if_pos (And.intro b3 b4)]
       exact h
      ·cases h
     ·cases h
    ·cases h
   ·split at h
    ·rename_i r hw
     obtain⟨hb,h⟩:=Tr.run_needs h
     obtain⟨e,ht⟩:=wSlice_t hw
     have e0:(if (lo.isNone&&hi.isNone)=true then aArr P st.o t (st.eval x) else none)=none:=by
      split
      ·unfold aArr;rw[ht]
      ·rfl
     simp only[aop,e0,aSlice_w hw hb]
     exact h
    ·rwa [Tr.run_of] at h
  ·cases h
 ·-- next
  rename_i it
  split at h
  ·rename_i s g hx
   split at h
   ·rename_i hg
    split at h
    ·rename_i l p hk
     simp only[aop,hx,aNext,if_pos hg,hk]
     by_cases hp:p<l.length
     ·simp only[Tr.run,hp,decide_true,cond] at h
      rw[if_pos hp];exact h
     ·simp only[Tr.run,hp,decide_false,cond] at h
      rw[if_neg hp];exact h
    ·cases h
   ·cases h
  ·cases h
 ·-- append
  rename_i args ats
  split at h
  ·rename_i s x t tx d ea et
   split at h
   ·rename_i hsym
    simp only[aop,ea,et,if_pos hsym,sAppend]
    split at h
    ·rename_i et' dx ht htx
     split at h
     ·rename_i zs i hz hi
      split at h
      ·rename_i hc
       simp only[ht,htx,hz,hi,if_pos hc]
       split at h
       ·rename_i q g hq
        simp only[hq]
        split at h
        ·rename_i hg
         split at h
         ·rename_i ty fz nl L hk
          split at h
          ·rename_i hs
           split at h
           ·rename_i l hl
            obtain⟨hb,h⟩:=ite_some h
            simp only[decide_eq_true_eq] at hb
            simp only[if_pos hg,hk,if_pos hs,hl,if_pos hb]
            exact h
           ·cases h
          ·cases h
         ·cases h
        ·cases h
       ·rename_i hq
        simp only[hq]
        split at h
        ·rename_i L hx
         split at h
         ·rename_i hs
          obtain⟨hb,h⟩:=ite_some h
          simp only[decide_eq_true_eq] at hb
          simp only[hx,if_pos hs,if_pos hb]
          exact h
         ·cases h
        ·cases h
       ·rename_i hq
        simp only[hq]
        split at h
        ·rename_i L hx
         split at h
         ·rename_i hs
          obtain⟨hb,h⟩:=ite_some h
          simp only[decide_eq_true_eq] at hb
          simp only[hx,if_pos hs,if_pos hb]
          exact h
         ·cases h
        ·cases h
       ·cases h
      ·cases h
     ·cases h
    ·cases h
   ·rename_i hsym
    split at h
    ·rename_i hown
     simp only[aop,ea,et,if_neg hsym,if_pos hown,oAppend]
     split at h
     ·rename_i r hr
      obtain⟨hb,h⟩:=ite_some h
      simp only[decide_eq_true_eq] at hb
      rw[hr]
      simp only[if_pos hb]
      exact h
     ·cases h
    ·rename_i hown
     split at h
     ·rename_i hcut
      simp only[aop,ea,et,if_neg hsym,if_neg hown,if_pos hcut,cAppend]
      split at h
      ·rename_i r hr
       obtain⟨hb,h⟩:=ite_some h
       simp only[decide_eq_true_eq] at hb
       rw[hr]
       simp only[if_pos hb]
       exact h
      ·cases h
     ·rwa [Tr.run_of] at h
  ·rwa [Tr.run_of] at h
 ·-- an interface value of Lean's own
  rename_i x xt asserted ok
  split at h
  ·rename_i X hX
   rw[Tr.run_bind,siT_run] at h
   have h2:(Tr.of ((aAssert P asserted ok (siOf X.e X.x)).map fun v=>(v,none))).run=some r:=h
   rw[Tr.run_of] at h2
   have e:aAssert P asserted ok (.si X)=none:=by unfold aAssert;split<;>simp_all
   simp only[aop,hX,e,unS]
   exact h2
  ·rwa [Tr.run_of] at h
 ·-- bytes to a string
  rename_i src dst' x
  split at h
  ·rename_i d
   split at h
   ·rename_i l hl
    obtain⟨hb,h⟩:=ite_some h
    have h:some (V.str (bytesI l),none)=some r:=h
    injection h with h
    subst h
    unfold convB at hl
    split at hl
    ·rename_i s g off n hx
     split at hl
     case h_2=>cases hl
     rename_i e hs
     split at hl
     case h_2=>cases hl
     rename_i hd
     split at hl
     case isFalse=>cases hl
     rename_i hu
     split at hl
     case h_2=>cases hl
     rename_i m xs hsrc
     have hby:=intsOf_ok xs l hl hb
     simp only[aop,aConvert,hs,hd,hx,hsrc,hby,Option.map_some]
     exact if_pos ⟨hu,rfl⟩
    ·rename_i L hx
     split at hl
     case h_2=>cases hl
     rename_i e hs
     split at hl
     case h_2=>cases hl
     rename_i hd
     split at hl
     case isFalse=>cases hl
     rename_i hu
     have hL:=u8T_ok hl
     subst hL
     have hsrc:aSrc st.o 1 (.lst ⟨.int .u8,l⟩)=some (l.length,(⟨.int .u8,l⟩:TL).cells):=by simp only[aSrc];exact if_pos rfl
     have hby:=intsOf_ok _ l (intsOf_lst l) hb
     simp only[aop,aConvert,hs,hd,hx,hsrc,hby,Option.map_some]
     exact if_pos ⟨hu,rfl⟩
    ·rename_i s g hx
     split at hl
     case h_2=>cases hl
     rename_i e hs
     split at hl
     case h_2=>cases hl
     rename_i hd
     split at hl
     case isFalse=>cases hl
     rename_i hu
     split at hl
     case isFalse=>cases hl
     rename_i hg
     split at hl
     case h_2=>cases hl
     rename_i z1 z2 z3 L hk
     have hL:=u8T_ok hl
     subst hL
     have hsrc:aSrc st.o 1 (.acc s g)=some (l.length,(⟨.int .u8,l⟩:TL).cells):=by simp only[aSrc];rw[if_pos hg,hk];exact if_pos rfl
     have hby:=intsOf_ok _ l (intsOf_lst l) hb
     simp only[aop,aConvert,hs,hd,hx,hsrc,hby,Option.map_some]
     exact if_pos ⟨hu,rfl⟩
    ·cases hl
   ·rwa [Tr.run_of] at h
  ·rwa [Tr.run_of] at h
 ·rwa [Tr.run_of] at h
end Go.Abs
namespace Go.Abs
open Go.RowKit
set_option linter.unusedVariables false
set_option linter.unusedSimpArgs false
abbrev OrcT:=Nat→List V→List OK→Tr (V×List OK×List OK)
def OrcT.orc (Γ:OrcT):Orc:=fun f xs lb=>(Γ f xs lb).run
def aCallT (Γ:OrcT) (T:Tab) (f:Nat) (args:List V) (d:Nat):Tr (V×Tab):=
 match viewL (viewA depth T) [] args with
 | some (xs,l,bs)=>
  if bs.Nodup∧bs.length<1000000 then
   match boxesOf depth T bs with
   | some (lb,l2)=>(Γ f xs lb).bind fun r=>
     if r.2.2.length≤4 then
      match revive (T.freezes (zs r.1 bs r.2.2 (l++l2))) bs r.2.1 with
      | some T2=>match fresh bs d T2 0 r.2.2 with
       | some T3=>.of ((ren T3 bs d r.2.2.length r.1).map fun v=>(v,T3))
       | none=>.fail
      | none=>.fail
     else .fail
   | none=>.fail
  else .fail
 | none=>.fail
theorem aCallT_run {Γ:OrcT} {T:Tab} {f:Nat} {args:List V} {d:Nat} {r:V×Tab} (h:(aCallT Γ T f args d).run=some r):aCall Γ.orc T f args d=some r:=by
 unfold aCallT at h
 unfold aCall
 split at h
 ·rename_i xs l bs hv
  rw[hv]
  split at h
  ·rename_i hc
   simp only[if_pos hc]
   split at h
   ·rename_i lb l2 hb
    rw[hb]
    rw[Tr.run_bind] at h
    simp only[OrcT.orc]
    cases hr:(Γ f xs lb).run with
    | none=>rw[hr] at h;cases h
    | some q=>
     obtain⟨res,lb',lf⟩:=q
     rw[hr] at h
     simp only[Option.bind_some] at h ⊢
     split at h
     ·rename_i h4
      simp only[if_pos h4]
      split at h
      ·rename_i T2 h2
       rw[h2]
       simp only
       split at h
       ·rename_i T3 h3
        rw[h3]
        rwa [Tr.run_of] at h
       ·cases h
      ·cases h
     ·cases h
   ·cases h
  ·cases h
 ·cases h
def estepT (Γ:OrcT) (P:Program) (st:St) (o:Oper):Tr (V×Tab):=
 match o.op with
 | .call ⟨.value f,args,_⟩=>match st.eval f with
  | .fn k caps=>aCallT Γ st.o k (args.toList.map st.eval++caps) (o.dst.getD 99999)
  | _=>.fail
 | _=>(aopT P st o).bind fun r=>.ret (r.1,wrT st.o r.2)
theorem estepT_run {Γ:OrcT} {P:Program} {st:St} {o:Oper} {r:V×Tab} (h:(estepT Γ P st o).run=some r):estep Γ.orc P st o=some r:=by
 unfold estepT at h
 unfold estep
 split at h
 ·rename_i f args ts ho
  simp only[ho]
  split at h
  ·rename_i k caps hf
   simp only[hf]
   exact aCallT_run h
  ·cases h
 ·rename_i hne
  rw[Tr.run_bind] at h
  cases hr:(aopT P st o).run with
  | none=>rw[hr] at h;cases h
  | some q=>
   rw[hr] at h
   split
   ·rename_i f args ts ho;exact(hne f args ts ho).elim
   ·rw[aopT_run hr]
    exact h
def normT (opl:List Oper) (o:Oper) (v:V):Tr V:=
 if isG opl o=true then(match v with
  | .bs b=>.ite b (.ret (.bool true)) (.ret (.bool false))
  | v=>.ret v) else .ret v
theorem normT_run {opl:List Oper} {o:Oper} {v v':V} (h:(normT opl o v).run=some v'):norm opl o v=v':=by
 unfold normT at h
 unfold norm
 split at h
 ·rename_i hg
  rw[if_pos hg]
  split at h
  ·rename_i b
   cases b<;>simpa [Tr.run,conB] using h
  ·rename_i hne
   injection h with h;subst h
   unfold conB
   split
   ·rename_i b;exact absurd rfl (hne b)
   ·rfl
 ·rename_i hg
  rw[if_neg hg]
  injection h
def guardT (opl:List Oper) (st:St) (o:Oper):Option Bool:=
 match o.guard with
 | none=>some true
 | some (j,want)=>match (opl[j]?).bind (·.dst) with
  | none=>some false
  | some t=>match st.get t with
   | .bool b=>some (b==want)
   | .tup _=>some false
   | _=>none
theorem guardT_ok {opl:List Oper} {st:St} {o:Oper} {b:Bool} (h:guardT opl st o=some b):aguard opl st o=some b:=by
 unfold guardT at h
 unfold aguard
 cases hg:o.guard with
 | none=>simpa [hg] using h
 | some p=>
  obtain⟨j,want⟩:=p
  simp only[hg] at h ⊢
  cases hd:(opl[j]?).bind (·.dst) with
  | none=>simpa [hd] using h
  | some t=>
   simp only[hd] at h ⊢
   split at h
   ·rename_i e;rw[e];exact h
   ·rename_i e;rw[e];exact h
   ·cases h
def stepT (Γ:OrcT) (P:Program) (opl:List Oper) (st:St) (o:Oper):Tr St:=
 match guardT opl st o with
 | some false=>.of (st.set o.dst (.tup []))
 | some true=>(estepT Γ P st o).bind fun r=>(normT opl o r.1).bind fun v=>.of (({ st with o:=r.2 }:St).set o.dst v)
 | none=>.fail
theorem stepT_run {Γ:OrcT} {P:Program} {opl:List Oper} {st st':St} {o:Oper} (h:(stepT Γ P opl st o).run=some st'):step Γ.orc P opl st o=some st':=by
 unfold stepT at h
 unfold step
 split at h
 ·rename_i hg
  rw[guardT_ok hg]
  rwa [Tr.run_of] at h
 ·rename_i hg
  rw[guardT_ok hg,Tr.run_bind] at *
  cases hr:(estepT Γ P st o).run with
  | none=>rw[hr] at h;cases h
  | some q=>
   rw[hr] at h
   simp only[Option.bind_some,Tr.run_bind] at h
   simp only[estepT_run hr]
   cases hv:(normT opl o q.1).run with
   | none=>rw[hv] at h;cases h
   | some v=>
    rw[hv] at h
    simp only[Option.bind_some,Tr.run_of] at h
    rw[normT_run hv]
    exact h
 ·cases h
def stepsT (Γ:OrcT) (P:Program) (opl:List Oper):List Oper→St→Tr St
 | [],st=>.ret st
 | o::r,st=>(stepT Γ P opl st o).bind (stepsT Γ P opl r)
theorem stepsT_run {Γ:OrcT} {P:Program} {opl:List Oper}:∀(l:List Oper) (st st':St),(stepsT Γ P opl l st).run=some st'→steps Γ.orc P opl l st=some st'
 | [],st,st',h=>by simpa [stepsT,Tr.run,steps] using h
 | o::r,st,st',h=>by
  simp only[stepsT,Tr.run_bind] at h
  cases hr:(stepT Γ P opl st o).run with
  | none=>rw[hr] at h;cases h
  | some s1=>
   rw[hr] at h
   simp only[steps,stepT_run hr]
   exact stepsT_run r s1 st' h
def estepW (Γ:OrcT) (P:Program) (st:St) (o:Oper):Tr ((V×Tab)×List Nat):=
 match o.op with
 | .call ⟨.value f,args,_⟩=>match st.eval f with
  | .fn k caps=>(aCallT Γ st.o k (args.toList.map st.eval++caps) (o.dst.getD 99999)).bind fun r=>.ret (r,wsites P st o)
  | _=>.fail
 | _=>(aopT P st o).bind fun r=>.ret ((r.1,wrT st.o r.2),match r.2 with | some (s,_)=>[s] | none=>[])
theorem estepW_run {Γ:OrcT} {P:Program} {st:St} {o:Oper} {r:V×Tab} {ws:List Nat} (h:(estepW Γ P st o).run=some (r,ws)):
  estep Γ.orc P st o=some r∧wsites P st o=ws:=by
 unfold estepW at h
 split at h
 ·rename_i f args ts ho
  split at h
  ·rename_i k caps hf
   rw[Tr.run_bind] at h
   cases hr:(aCallT Γ st.o k (args.toList.map st.eval++caps) (o.dst.getD 99999)).run with
   | none=>rw[hr] at h;cases h
   | some q=>
    rw[hr] at h
    simp[Tr.run] at h
    obtain⟨rfl,rfl⟩:=h
    refine⟨?_,rfl⟩
    unfold estep
    simp only[ho,hf]
    exact aCallT_run hr
  ·cases h
 ·rename_i hne
  rw[Tr.run_bind] at h
  cases hr:(aopT P st o).run with
  | none=>rw[hr] at h;cases h
  | some q=>
   rw[hr] at h
   simp[Tr.run] at h
   obtain⟨rfl,rfl⟩:=h
   refine⟨?_,?_⟩
   ·unfold estep
    split
    ·rename_i f args ts ho;exact(hne f args ts ho).elim
    ·rw[aopT_run hr]
   ·unfold wsites
    split
    ·rename_i f args ts ho;exact(hne f args ts ho).elim
    ·rw[aopT_run hr]
     obtain⟨v,wr⟩:=q
     cases wr<;>rfl
def drunT (Γ:OrcT) (P:Program) (opl:List Oper):List Oper→St→Tr (List Rec×St)
 | [],st=>.ret ([],st)
 | o::r,st=>match guardT opl st o with
  | some false=>match st.set o.dst (.tup []) with
   | some st'=>(drunT Γ P opl r st').bind fun q=>.ret (⟨.tup [],[],[]⟩::q.1,q.2)
   | none=>.fail
  | some true=>(estepW Γ P { st with o:=restrict (foot st o) st.o } o).bind fun q=>(normT opl o q.1.1).bind fun v=>
    if q.2.all ((foot st o).contains ·)=true then
     match ({ st with o:=overlay (q.2.map fun s=>(s,q.1.2.get s)) st.o }:St).set o.dst v with
     | some st'=>(drunT Γ P opl r st').bind fun p=>.ret (⟨v,foot st o,q.2.map fun s=>(s,q.1.2.get s)⟩::p.1,p.2)
     | none=>.fail
    else .fail
  | none=>.fail
theorem drunT_run {Γ:OrcT} {P:Program} {opl:List Oper}:∀(l:List Oper) (st:St) (q:List Rec×St),(drunT Γ P opl l st).run=some q→drun Γ.orc P opl l st=some q
 | [],st,q,h=>by simpa [drunT,Tr.run,drun] using h
 | o::r,st,q,h=>by
  simp only[drunT] at h
  simp only[drun]
  split at h
  ·rename_i hg
   rw[guardT_ok hg]
   split at h
   ·rename_i s1 hs
    rw[Tr.run_bind] at h
    cases hr:(drunT Γ P opl r s1).run with
    | none=>rw[hr] at h;cases h
    | some p=>
     rw[hr] at h
     simp only[hs,drunT_run r s1 p hr]
     exact h
   ·cases h
  ·rename_i hg
   rw[guardT_ok hg]
   rw[Tr.run_bind] at h
   cases he:(estepW Γ P { st with o:=restrict (foot st o) st.o } o).run with
   | none=>rw[he] at h;cases h
   | some e=>
    rw[he] at h
    simp only[Option.bind_some,Tr.run_bind] at h
    obtain⟨he1,he2⟩:=estepW_run (r:=e.1) (ws:=e.2) he
    simp only[he1,he2]
    cases hv:(normT opl o e.1.1).run with
    | none=>rw[hv] at h;cases h
    | some v=>
     rw[hv] at h
     simp only[Option.bind_some] at h
     rw[normT_run hv]
     split at h
     ·rename_i hw
      rw[if_pos hw]
      split at h
      ·rename_i s1 hs
       rw[Tr.run_bind] at h
       cases hr:(drunT Γ P opl r s1).run with
       | none=>rw[hr] at h;cases h
       | some p=>
        rw[hr] at h
        simp only[hs,drunT_run r s1 p hr]
        exact h
      ·cases h
     ·cases h
  ·cases h
def hasCall (opl:List Oper):Bool:=opl.any fun o=>match o.op with
 | .call ⟨.value _,_,_⟩=>true
 | _=>false
def tmpsU (l:List Operand):List Nat:=l.filterMap fun | .tmp t=>some t | _=>none
def argSlotsU (opl:List Oper):List Nat:=opl.foldr (fun o acc=>match o.op with
 | .call ⟨.value f,args,_⟩=>tmpsU (f::args.toList)++acc
 | .indexAddr _ _ _=>acc
 | op=>match o.dst with
  | some d=>if acc.contains d=true then tmpsU op.operands.toList++acc else acc
  | none=>acc) []
def zOf (opl:List Oper) (st:St):List Nat:=if hasCall opl=true then(argSlotsU opl).flatMap (fun t=>refsN depth st.o (st.get t)) else []
def regionT (Γ:OrcT) (P:Program) (ops:Array Oper) (draw:Bool) (st:St):Tr St:=
 if draw=true then(drunT Γ P ops.toList ops.toList { st with o:=st.o.freezes (zOf ops.toList st) }).bind fun q=>if objsOk ops.toList q.1=true then .ret q.2 else .fail
 else stepsT Γ P ops.toList ops.toList st
theorem HT.regionT {κ:Cx} {Γ:OrcT} (hΓ:GammaOk κ.P Γ.orc) (hm:κ.P.follows .mixedOrders=true) {id:Nat} {ops:Array Oper} {draw:Bool} (htmp:(!draw||tmpsOk ops.toList)=true) {Q:Exit→St→Prop} {st st':St}
  (hx:(Abs.regionT Γ κ.P ops draw st).run=some st') (h:Q .normal st'):HT κ (.region id ops draw) Q st:=fun a w hr=>by
 unfold Abs.regionT at hx
 cases draw with
 | true=>
  simp only[if_true] at hx
  rw[Tr.run_bind] at hx
  cases hd:(drunT Γ κ.P ops.toList ops.toList { st with o:=st.o.freezes (zOf ops.toList st) }).run with
  | none=>rw[hd] at hx;cases hx
  | some q=>
   obtain⟨rs,sn⟩:=q
   rw[hd] at hx
   simp only[Option.bind_some] at hx
   split at hx
   ·rename_i hobj
    injection hx with hx;subst hx
    exact draw_okZ hΓ hm (by simpa using htmp) _ (drunT_run _ _ _ hd) hobj hr fun a' w' hr'=>⟨_,h,hr'⟩
   ·cases hx
 | false=>
  simp only[Bool.false_eq_true,if_false] at hx
  exact wp_region_list (steps_ok hΓ ops.toList _ st' a w (stepsT_run _ _ _ hx) hr fun a' w' hr'=>⟨st',h,hr'⟩)
end Go.Abs
namespace Go.Abs
open Go.RowKit
set_option linter.unusedVariables false
set_option linter.unusedSimpArgs false
end Go.Abs
namespace Go.Abs
open Go.RowKit
set_option linter.unusedVariables false
set_option linter.unusedSimpArgs false
def unST:V→Tr V
 | .si X=>siT X.e X.x
 | v=>.ret v
theorem unST_run (v:V):(unST v).run=some (unS v):=by
 cases v<;>first | rfl | exact siT_run _ _
def tyOf (P:Program):Nat→TypeId→Option Ty
 | 0,_=>none
 | n+1,t=>match P.underlying t with
  | some .bool=>some .bool
  | some (.int k)=>some (.int k)
  | some .string=>some .str
  | some (.slice u)=>(tyOf P n u).map .list
  | some (.struct fs)=>(flds (tyOf P n) (fs.toList.map (·.type))).map .agg
  | some (.array m u)=>(flds (tyOf P n) (List.replicate m u)).map .agg
  | _=>none
where flds (f:TypeId→Option Ty):List TypeId→Option Ty
 | []=>some .unit
 | [t]=>f t
 | t::u::r=>match f t,flds f (u::r) with
  | some a,some b=>some (.pair a b)
  | _,_=>none
section
variable {κ : Cx} {ι : Nat → Nat} {st : St} {a : Act} {w : World}
def wLen (P:Program) (T:Tab) (t:Nat) (x:V):Option V:=
 match P.underlying t,x with
 | some (.slice _),.nwin s g off n=>(winOf T (.nwin s g off n)).map fun _=>.int .i64 n
 | _,_=>none
theorem wLen_ok (h:RelI κ ι st a w) {t ty:Nat} {x v:V} {cx:Value} {ts:Array TypeId} (hts:ts[0]? = some t) (hr:Rv st.o ι (Stable κ.D st.o ι w) w x cx) (hx:wLen κ.P st.o t x=some v):
  SemOk κ ι st.o w (Builtin.len_ ts ty #[cx]) v none:=by
 unfold wLen at hx
 split at hx
 ·rename_i e s g off n ht
  cases hw:winOf st.o (.nwin s g off n) with
  | none=>rw[hw] at hx;cases hx
  | some q=>
   obtain⟨s',g',off',n',ty',fz,nl,L⟩:=q
   rw[hw] at hx
   simp only[Option.map_some,Option.some.injEq] at hx
   subst hx
   have hn:n'=n:=by
    unfold winOf at hw
    simp only at hw
    split at hw
    ·split at hw
     ·injection hw with hw;simp only[Prod.mk.injEq] at hw;exact hw.2.2.2.1.symm
     ·cases hw
    ·cases hw
   subst hn
   obtain⟨hT,_,hle,hor⟩:=winOf_ok hw hr
   have:∃p c,cx=.slice p n' c:=by
    rcases hor with⟨_,e0,p,rfl⟩ | ⟨_,ad,c,_,_,_,_,rfl,_⟩
    ·have:n'=0:=by rw[e0] at hle;simp at hle;omega
     exact⟨p,0,by rw[this]⟩
    ·exact⟨_,_,rfl⟩
   obtain⟨p,c,rfl⟩:=this
   refine SemOk.same h (cv:=.int .i64 n') ?_ (.pure (.int _ _))
   simp only[Builtin.len_,hts]
   simp[run_underlying ht,goInt]
 ·cases hx
def wIndex (P:Program) (T:Tab) (t:Nat) (x ix:V):Option (List Bool×V):=
 match P.underlying t,x,ix with
 | some (.slice e),.nwin s g off n,.int _ i=>match P.info? e,winOf T (.nwin s g off n) with
  | some inf,some (_,_,_,_,_,_,_,L)=>if L.e.size=inf.size then some ([decide (0≤i),decide (i<(n:Int))],.eptr s g inf.size (off+i.toNat) 0) else none
  | _,_=>none
 | _,_,_=>none
theorem wIndex_ok (h:RelI κ ι st a w) {t:Nat} {x ix v:V} {cx ci:Value} {bs:List Bool} (hr:Rv st.o ι (Stable κ.D st.o ι w) w x cx) (hi:Rv st.o ι (Stable κ.D st.o ι w) w ix ci)
  (hx:wIndex κ.P st.o t x ix=some (bs,v)) (hbs:bs.all id=true):SemOk κ ι st.o w (Instr.indexAt t cx ci) v none:=by
 unfold wIndex at hx
 split at hx
 case h_2=>cases hx
 rename_i e s g off n k i ht
 split at hx
 case h_2=>cases hx
 rename_i inf s' g' off' n' ty' fz nl L hinf hw
 split at hx
 case isFalse=>cases hx
 rename_i hsz
 injection hx with hx
 simp only[Prod.mk.injEq] at hx
 obtain⟨rfl,rfl⟩:=hx
 simp only[List.all_cons,List.all_nil,Bool.and_eq_true,id,decide_eq_true_eq,Bool.and_true] at hbs
 obtain⟨h0,h1⟩:=hbs
 have hq:s'=s∧g'=g∧off'=off∧n'=n:=by
  unfold winOf at hw
  simp only at hw
  split at hw
  ·split at hw
   ·injection hw with hw;simp only[Prod.mk.injEq] at hw;exact⟨hw.1.symm,hw.2.1.symm,hw.2.2.1.symm,hw.2.2.2.1.symm⟩
   ·cases hw
  ·cases hw
 obtain⟨rfl,rfl,rfl,rfl⟩:=hq
 obtain⟨hT,_,hle,hor⟩:=winOf_ok hw hr
 have:=hi.int_;subst this
 obtain⟨hn,ad,c,cap,arr,ty1,fz1,rfl,hb,hmem,has,hnc,hcap,hpl⟩:=hor.resolve_left (fun⟨_,e0,_⟩=>by rw[e0] at hle;simp at hle;omega)
 have:=hpl (by omega);subst this
 refine SemOk.same h (cv:=.pointer (some ((⟨ι s',off'*L.e.size,none⟩:Addr).add (i.toNat*inf.size)))) ?_ ?_
 ·simp[Instr.indexAt,asIntOf,run_underlying ht,h0,h1,run_size hinf]
 ·refine .eptr ⟨_,rfl⟩ (by rw[hT];exact Nat.le_refl _) fun ty2 fz2 nl2 L2 e2=>?_
  rw[hT] at e2
  simp at e2
  obtain⟨rfl,rfl,rfl,rfl⟩:=e2
  refine⟨hsz.symm,by omega,?_⟩
  congr 2
  unfold Addr.add
  split
  ·rename_i e0;rw[Nat.add_mul,hsz,e0];simp
  ·simp only[Addr.mk.injEq,true_and];rw[Nat.add_mul,hsz];simp
end
end Go.Abs
namespace Go.Abs
open Go.RowKit
set_option linter.unusedVariables false
set_option linter.unusedSimpArgs false
theorem flat_repl (e:Ty) (x:e.I):∀n:Nat,(List.replicate n x).flatMap (cellsV e)=repl (cellsV e x) n
 | 0=>rfl
 | n+1=>by
  simp only[List.replicate_succ,List.flatMap_cons,flat_repl e x n]
  simp[repl,List.replicate_succ]
theorem zeroCells_made (z:Array Value) (n:Nat):(Builtin.zeroCells z n).toList=(madeCells z (n*z.size)).toList:=by
 apply List.ext_getElem?
 intro i
 by_cases hi:i<n*z.size
 ·have h1:(Builtin.zeroCells z n)[i]? = some ((Builtin.zeroCells z n)[i]'(by rw[size_zeroCells];exact hi)):=Array.getElem?_eq_getElem _
  have h2:(madeCells z (n*z.size))[i]? = some ((madeCells z (n*z.size))[i]'(by rw[size_madeCells];exact hi)):=Array.getElem?_eq_getElem _
  simp only[Array.getElem?_toList,h1,h2]
  simp[Builtin.zeroCells,madeCells]
 ·rw[List.getElem?_eq_none (by simp[size_zeroCells];omega),List.getElem?_eq_none (by simp[size_madeCells];omega)]
section
variable {κ : Cx} {ι : Nat → Nat} {st : St} {a : Act} {w : World}
def zeroX (P:Program) (e:Ty) (t:Nat):Option e.I:=
 match zeroC P t with
 | some zs=>match impC e zs with
  | some (x,[])=>some x
  | _=>none
 | none=>none
theorem zeroX_ok (w0:World) {P:Program} {e:Ty} {t:Nat} {x:e.I} (h:zeroX P e t=some x):∃z i,P.info? t=some i∧i.zero=some z∧z.cells.size=i.size∧i.size=e.size∧(∀w,(zeroValue t).run P w=.ok z w)∧
  ∀{S:Addr→Prop} {w:World} (n:Nat),LR (Rp S w) ((List.replicate n x).flatMap (cellsV e)) (madeCells z.cells (n*z.cells.size)).toList:=by
 unfold zeroX at h
 split at h
 case h_2=>cases h
 rename_i zs hz
 obtain⟨z,i,h1,h2,h3,h4,h5⟩:=zeroC_ok hz
 split at h
 case h_2=>cases h
 rename_i y hy
 injection h with h;subst h
 have hlen:=impC_len e zs [] y hy
 have hzl:zs.length=z.cells.size:=by have:=(h5 (S:=fun _=>False) (w:=w0)).1;simpa using this
 refine⟨z,i,h1,h2,h3,by simp at hlen;omega,h4,fun {S w} n=>?_⟩
 rw[flat_repl]
 have:=impC_rv (T:=[]) (ι:=fun _=>0) (S:=S) (w:=w) e zs [] y _ hy ((h5 (S:=S) (w:=w)).mono fun d u hd=>.pure hd)
 rw[List.append_nil] at this
 exact LR.made (lr_pure (fun d hd=>pure_cellsV e y d hd) this) _ n rfl
def wClear (P:Program) (T:Tab) (t:Nat) (x:V):Option (Option (Nat×Ob)):=
 match P.underlying t with
 | some (.slice e)=>match winOf T x with
  | some (s,g,off,n,ty,false,nl,L)=>match zeroX P L.e e with
   | some z=>some (some (s,⟨g,.nrow ty false nl ⟨L.e,putL L.l (List.replicate n z) off⟩⟩))
   | none=>none
  | _=>none
 | _=>none
theorem wClear_ok (h:RelI κ ι st a w) {t ty:Nat} {x:V} {cx:Value} {wr:Option (Nat×Ob)} {ts:Array TypeId} (hts:ts[0]? = some t) (hr:Rv st.o ι (Stable κ.D st.o ι w) w x cx) (hx:wClear κ.P st.o t x=some wr):
  SemOk κ ι st.o w (Builtin.clear_ ts ty #[cx]) (.tup []) wr:=by
 unfold wClear at hx
 split at hx
 case h_2=>cases hx
 rename_i e ht
 split at hx
 case h_2=>cases hx
 rename_i s g off n ty' nl L hw
 split at hx
 case h_2=>cases hx
 rename_i z0 hz
 injection hx with hx;subst hx
 obtain⟨z,i,h1,h2,h3,h4,h5,h6⟩:=zeroX_ok w hz
 obtain⟨hT,_,hle,hor⟩:=winOf_ok hw hr
 have htup:∀{T':Tab} {ι':Nat→Nat} {S':Addr→Prop} {w':World},Rv T' ι' S' w' (.tup []) (.tuple #[]):=.pure (.tup (vs:=[]) rfl (by simp))
 have none:n=0→(∃p c,cx=.slice p 0 c)→SemOk κ ι st.o w (Builtin.clear_ ts ty #[cx]) (.tup []) (some (s,⟨g,.nrow ty' false nl ⟨L.e,putL L.l (List.replicate n z0) off⟩⟩)):=by
  rintro rfl ⟨p,c,rfl⟩
  have e1:putL L.l (List.replicate 0 z0) off=L.l:=by simp[putL]
  rw[e1]
  have e2:st.o.get s=⟨g,.nrow ty' false nl ⟨L.e,L.l⟩⟩:=hT
  have hto:To κ st.o ι w (st.o.put s ⟨g,.nrow ty' false nl ⟨L.e,L.l⟩⟩) ι w:=by
   have hgs:∀t,(st.o.put s ⟨g,.nrow ty' false nl ⟨L.e,L.l⟩⟩).get t=st.o.get t:=fun t=>by
    rw[Tab.get_put]
    by_cases q:s=t
    ·rw[if_pos q,←q];exact e2.symm
    ·rw[if_neg q]
   have hlv:∀t,(st.o.put s ⟨g,.nrow ty' false nl ⟨L.e,L.l⟩⟩).live t↔st.o.live t:=fun t=>by simp only[Tab.live,hgs]
   have hS:∀p,Stable κ.D st.o ι w p→Stable κ.D (st.o.put s ⟨g,.nrow ty' false nl ⟨L.e,L.l⟩⟩) ι w p:=fun p hp=>⟨hp.1,hp.2.1,fun t ht he=>by rw[hgs];exact hp.2.2 t ((hlv t).1 ht) he⟩
   have H:Goes κ.D st.o ι w (st.o.put s ⟨g,.nrow ty' false nl ⟨L.e,L.l⟩⟩) ι w:=⟨fun p hp=>⟨hS p hp,rfl⟩,fun t=>by rw[hgs];exact Nat.le_refl _,fun t ht _=>⟨(hlv t).1 ht,rfl⟩,
    fun t g' ty sz fz' cs' hq _=>by rw[hgs] at hq;exact⟨⟨_,_,_,hq⟩,fun arr ty1 fz hh=>⟨arr,ty1,fz,hh,rfl⟩⟩,
    fun t g' ty fz nl L hq _=>by rw[hgs] at hq;exact⟨⟨_,_,_,_,hq,rfl,rfl,rfl⟩,fun _ arr ty1 fz hh=>⟨arr,ty1,fz,hh,rfl⟩⟩⟩
   exact⟨H,⟨fun t=>by rw[hgs];exact(h.tr.ob t).mono H rfl,fun t u ht hu he=>h.tr.inj t u ((hlv t).1 ht) ((hlv u).1 hu) he,fun t ht=>h.tr.lt t ((hlv t).1 ht)⟩,fun t ht=>h.my t ((hlv t).1 ht),h.kept⟩
  refine⟨.tuple #[],w,ι,?_,hto,htup⟩
  simp only[Builtin.clear_,hts]
  cases p<;>simp[run_underlying ht]
 rcases hor with⟨_,hnil,p,rfl⟩ | ⟨hn,ad,c,cap,arr,ty1,fz1,rfl,hb,hmem,has,hnc,hcap,hpl⟩
 ·exact none (by rw[hnil] at hle;simp at hle;omega) ⟨p,0,rfl⟩
 by_cases hn0:n=0
 ·exact none hn0 ⟨some ad,c,by rw[hn0]⟩
 have:=hpl (by omega);subst this
 have hob:=h.tr.ob s
 rw[hT] at hob
 obtain⟨arr2,fz2,cap2,b1,b2,b3,b4,b5,b6⟩:=hob.resolve_left hn
 rw[hmem] at b1
 injection b1 with b1;injection b1 with q1 q2 q3;subst q1 q2 q3
 have hcl:=L.cells_length
 have hzc:(Builtin.zeroCells z.cells n).toList=(madeCells z.cells (n*z.cells.size)).toList:=zeroCells_made _ _
 have hzl:(Builtin.zeroCells z.cells n).toList.length=n*L.e.size:=by simp[size_zeroCells,h3,h4]
 have hin:off*L.e.size+n*L.e.size≤L.l.length*L.e.size:=by rw[←Nat.add_mul];exact Nat.mul_le_mul_right _ hle
 have hone:∀u∈(Builtin.zeroCells z.cells n).toList,u.oneCell'=true:=by
  intro u hu
  rw[hzc] at hu
  have hl:=h6 (S:=fun _=>False) (w:=w) n
  obtain⟨j,hj⟩:=List.mem_iff_getElem?.1 hu
  have hjl:j<((List.replicate n z0).flatMap (cellsV L.e)).length:=by rw[hl.1];exact(List.getElem?_eq_some_iff.1 hj).1
  have hd:=List.getElem?_eq_getElem hjl
  obtain⟨x,_,hx⟩:=List.mem_flatMap.1 (List.getElem_mem hjl)
  exact(leaf_one (leaf_cellsV _ _ _ hx) (hl.2 j _ u hd hj)).2
 have hst:=run_storeCells_fz κ.P (ι s) (off*L.e.size) _ _ (Builtin.zeroCells z.cells n).toList 0 arr w hmem (fun j hj=>b2 j (.inl hj)) (by omega) hone
 simp only[Nat.add_zero,List.append_assoc] at hst
 refine⟨.tuple #[],_,ι,?_,To.putRow h hT hn hmem (List.replicate n z0) off (by simpa using hle) (news:=(Builtin.zeroCells z.cells n).toList) ?_ (List.toList_toArray),htup⟩
 ·simp only[Builtin.clear_,hts]
  obtain⟨m,rfl⟩:∃m,n=m+1:=⟨n-1,by omega⟩
  simp[run_underlying ht,h5,hst]
  simp only[putL,Array.length_toList]
 ·rw[hzc];exact(h6 n).mono fun d u hd=>.pure hd
def nMake (P:Program) (T:Tab) (t:Nat) (l c:V) (d:Nat):Option (List Bool×V×Option (Nat×Ob)):=
 match l,c with
 | .int _ n,.int _ m=>match P.underlying t with
  | some (.slice e)=>match tyOf P 8 e,P.info? e with
   | some te,some i=>match zeroX P te e with
    | some z=>if 0<te.size then some ([decide (0≤n),decide (n≤m),decide ((i.bytes:Int)*m≤140737488355328),decide (m≤9223372036854775807)],.acc d ((T.get d).gen+1),
      some (d,⟨(T.get d).gen+1,.nrow e false false ⟨te,List.replicate n.toNat z⟩⟩)) else none
    | none=>none
   | _,_=>none
  | _=>none
 | _,_=>none
theorem nMake_ok (h:RelI κ ι st a w) {t d:Nat} {l c v:V} {cl cc:Value} {wr:Option (Nat×Ob)} {bs:List Bool} (hl:Rv st.o ι (Stable κ.D st.o ι w) w l cl) (hc:Rv st.o ι (Stable κ.D st.o ι w) w c cc)
  (hx:nMake κ.P st.o t l c d=some (bs,v,wr)) (hbs:bs.all id=true):SemOk κ ι st.o w (Instr.makeSlice t cl cc) v wr:=by
 unfold nMake at hx
 split at hx
 case h_2=>cases hx
 rename_i kl n kc m
 have:=hl.int_;subst this
 have:=hc.int_;subst this
 split at hx
 case h_2=>cases hx
 rename_i e ht
 split at hx
 case h_2=>cases hx
 rename_i te i hte hi
 split at hx
 case h_2=>cases hx
 rename_i z0 hz
 split at hx
 case isFalse=>cases hx
 rename_i hp
 injection hx with hx
 simp only[Prod.mk.injEq] at hx
 obtain⟨rfl,rfl,rfl⟩:=hx
 simp only[List.all_cons,List.all_nil,Bool.and_eq_true,id,decide_eq_true_eq,Bool.and_true] at hbs
 obtain⟨h0,hnm,hb,h63⟩:=hbs
 obtain⟨z,i',h1,h2,h3,h4,h5,h6⟩:=zeroX_ok w hz
 rw[hi] at h1;injection h1 with h1;subst h1
 have hrun:=run_make (P:=κ.P) w t e i z ht hi h2 kl kc n m h0 hnm (by omega) h63
 have harr:(madeCells z.cells (m.toNat*i.size)).size=m.toNat*te.size:=by rw[size_madeCells,h4]
 have hnm':n.toNat≤m.toNat:=by omega
 have hlr:=h6 (S:=Stable κ.D st.o ι w) (w:=w) m.toNat
 have hpre:∀(j:Nat) (dd:V),((List.replicate n.toNat z0).flatMap (cellsV te))[j]? = some dd→((List.replicate m.toNat z0).flatMap (cellsV te))[j]? = some dd:=fun j dd hd=>by
  have e1:List.replicate m.toNat z0=List.replicate n.toNat z0++List.replicate (m.toNat-n.toNat) z0:=by
   rw[List.replicate_append_replicate];congr 1;omega
  rw[e1,List.flatMap_append,List.getElem?_append_left (List.getElem?_eq_some_iff.1 hd).1];exact hd
 refine⟨_,_,_,hrun,To.new h rfl rfl rfl rfl d _ _ fun T' ι' w' H hnew=>.inr ⟨_,(0,0),m.toNat,hnew,fun i _=>by simp,harr,hp,?_,fun j dd u hd hu=>?_⟩,?_⟩
 ·rw[TL.cells_length,harr];simp only[List.length_replicate];exact Nat.mul_le_mul_right _ hnm'
 ·have hu':(madeCells z.cells (m.toNat*z.cells.size)).toList[j]? = some u:=by rw[h3];exact hu
  exact Rv.mono H (.pure (hlr.2 j dd u (hpre j dd hd) hu'))
 ·refine .acc ⟨_,_,_,rfl⟩ (by simp[wrT,Tab.get_put]) fun ty' fz' nl' L' e=>?_
  simp[wrT,Tab.get_put] at e
  obtain⟨rfl,rfl,rfl,rfl⟩:=e
  refine .inr ⟨by simp,⟨w.heap.size,0,none⟩,m.toNat,m.toNat,madeCells z.cells (m.toNat*i.size),e,(0,0),by simp,by simp,?_,harr,by simp;omega,by omega,fun _=>by simp⟩
  have:=heap_alloc_new w (.cells (madeCells z.cells (m.toNat*i.size)) e)
  simpa using this
def nAlloc (P:Program) (T:Tab) (e d:Nat):Option (V×Option (Nat×Ob)):=match P.underlying e with
 | some (.array n u)=>match zeroC P e,tyOf P 8 u with
  | some cs,some te=>if 9≤n∧te.size=1∧te.flatT=true then(match impN (impC te) n cs with
   | some (l,[])=>some (.eptr d ((T.get d).gen+1) 1 0 0,some (d,⟨(T.get d).gen+1,.nrow e false false ⟨te,l⟩⟩))
   | _=>none) else none
  | _,_=>none
 | _=>none
theorem nAlloc_ok (h:RelI κ ι st a w) {e d:Nat} {v:V} {wr:Option (Nat×Ob)} (hx:nAlloc κ.P st.o e d=some (v,wr)):SemOk κ ι st.o w (Instr.alloc e true (.tuple #[])) v wr:=by
 unfold nAlloc at hx
 split at hx
 case h_2=>cases hx
 rename_i n u hu
 split at hx
 case h_2=>cases hx
 rename_i cs te hz hte
 split at hx
 case isFalse=>cases hx
 rename_i hc
 obtain⟨hn9,hs1,_⟩:=hc
 split at hx
 case h_2=>cases hx
 rename_i l himp
 injection hx with hx
 simp only[Prod.mk.injEq] at hx
 obtain⟨rfl,rfl⟩:=hx
 obtain⟨z,i,hi,hzz,hsz,hrun,hlr⟩:=zeroC_ok hz
 obtain⟨hll,hlr2⟩:=impN_rv (T:=st.o) (ι:=ι) (S:=Stable κ.D st.o ι w) (w:=w) (impC_rv te) n cs [] l z.cells.toList himp (hlr.mono fun _ _=>.pure)
 rw[List.append_nil] at hlr2
 have hcl:(⟨te,l⟩:TL).cells.length=z.cells.size:=by rw[←Array.length_toList];exact hlr2.1
 refine⟨.pointer (some ⟨w.heap.size,0,none⟩),_,_,by simp[Instr.alloc,hrun,newVar,newRow],To.new h rfl rfl rfl rfl d _ _ fun T' ι' w' H hnew=>.inr ⟨z.cells,(0,0),z.cells.size,hnew,fun i _=>by simp,by rw[hs1,Nat.mul_one],by rw[hs1];exact Nat.zero_lt_one,by rw[hcl];exact Nat.le_refl _,fun j dd u hd hu=>(hlr2.2 j dd u hd hu).mono H⟩,?_⟩
 refine .eptr ⟨_,rfl⟩ (by simp[wrT,Tab.get_put]) fun ty' fz' nl' L' e=>?_
 simp[wrT,Tab.get_put] at e
 obtain⟨rfl,rfl,rfl,rfl⟩:=e
 exact⟨hs1.symm,by rw[hll];omega,by simp⟩
theorem toBytes_flat:∀(l:List Int),l.all (fun n=>decide (0≤n)&&decide (n<256))=true→toBytes (l.flatMap (cellsV (.int .u8)))=some (l.map fun n=>UInt8.ofNat n.toNat)
 | [],_=>rfl
 | n::r,h=>by
  simp only[List.all_cons,Bool.and_eq_true,decide_eq_true_eq] at h
  have e:(n::r).flatMap (cellsV (.int .u8))=.int .u8 n::r.flatMap (cellsV (.int .u8)):=rfl
  rw[e,toBytes,if_pos h.1,toBytes_flat r (by simpa using h.2)]
  rfl
def u8L:TL→Option (List Int)
 | ⟨.int .u8,l⟩=>some l
 | _=>none
def nText (P:Program) (T:Tab) (src dst:Nat) (x:V):Option (List Bool×V):=
 match P.underlying src,P.underlying dst with
 | some (.slice e),some .string=>if (P.underlying e).any (fun d=>d matches .int .u8)=true then
   (match x with
    | .lst L=>match u8L L with
     | some l=>some ([l.all (fun n=>decide (0≤n)&&decide (n<256))],.str (l.map fun n=>UInt8.ofNat n.toNat))
     | none=>none
    | .acc s g=>if (T.get s).gen=g then(match (T.get s).k with
     | .nrow _ _ _ L=>match u8L L with
      | some l=>some ([l.all (fun n=>decide (0≤n)&&decide (n<256))],.str (l.map fun n=>UInt8.ofNat n.toNat))
      | none=>none
     | _=>none) else none
    | _=>none) else none
 | _,_=>none
theorem u8L_ok {L:TL} {l:List Int} (h:u8L L=some l):L=⟨.int .u8,l⟩:=by
 unfold u8L at h
 split at h
 ·injection h with h;subst h;rfl
 ·cases h
theorem nText_eq {src dst d:Nat} {x v:V} {bs:List Bool} (hx:nText κ.P st.o src dst x=some (bs,v)) (hbs:bs.all id=true):aConvert κ.P st.o src dst x d=some (v,none):=by
 unfold nText at hx
 split at hx
 case h_2=>cases hx
 rename_i e hs hd
 split at hx
 case isFalse=>cases hx
 rename_i he
 split at hx
 ·rename_i L
  split at hx
  ·rename_i l hl
   have:=u8L_ok hl;subst this
   injection hx with hx
   simp only[Prod.mk.injEq] at hx
   obtain⟨rfl,rfl⟩:=hx
   simp only[List.all_cons,List.all_nil,Bool.and_true,id] at hbs
   have h2:aSrc st.o 1 (.lst ⟨.int .u8,l⟩)=some (l.length,l.flatMap (cellsV (.int .u8))):=rfl
   simp only[aConvert,hs,hd]
   rw[if_pos ⟨he,rfl⟩,h2]
   simp only
   rw[toBytes_flat l hbs];rfl
  ·cases hx
 ·rename_i s g
  split at hx
  ·rename_i hg
   split at hx
   ·rename_i ty fz nl L hk
    split at hx
    ·rename_i l hl
     have:=u8L_ok hl;subst this
     injection hx with hx
     simp only[Prod.mk.injEq] at hx
     obtain⟨rfl,rfl⟩:=hx
     simp only[List.all_cons,List.all_nil,Bool.and_true,id] at hbs
     have h2:aSrc st.o 1 (.acc s g)=some (l.length,l.flatMap (cellsV (.int .u8))):=by simp only[aSrc,if_pos hg,hk];rfl
     simp only[aConvert,hs,hd]
     rw[if_pos ⟨he,rfl⟩,h2]
     simp only
     rw[toBytes_flat l hbs];rfl
    ·cases hx
   ·cases hx
  ·cases hx
 ·cases hx
theorem flat_u8:∀s:List UInt8,(s.map fun b=>(b.toNat:Int)).flatMap (cellsV (.int .u8))=s.map fun b=>.int .u8 b.toNat
 | []=>rfl
 | c::r=>by
  have:=flat_u8 r
  simp only[List.map_cons,List.flatMap_cons,this]
  rfl
def nBytes (P:Program) (T:Tab) (src dst:Nat) (x:V) (d:Nat):Option (V×Option (Nat×Ob)):=
 match P.underlying src,P.underlying dst,x with
 | some .string,some (.slice e),.str s=>if (P.underlying e).any (fun d=>d matches .int .u8)=true then
   some (.acc d ((T.get d).gen+1),some (d,⟨(T.get d).gen+1,.nrow e false false ⟨.int .u8,s.map fun b=>(b.toNat:Int)⟩⟩)) else none
 | _,_,_=>none
theorem nBytes_ok (h:RelI κ ι st a w) {src dst d:Nat} {x v:V} {cx:Value} {wr:Option (Nat×Ob)} (hr:Rv st.o ι (Stable κ.D st.o ι w) w x cx) (hx:nBytes κ.P st.o src dst x d=some (v,wr)):
  SemOk κ ι st.o w (convert src dst cx) v wr:=by
 unfold nBytes at hx
 split at hx
 case h_2=>cases hx
 rename_i e s hs hd
 split at hx
 case isFalse=>cases hx
 rename_i he
 simp at hx
 obtain⟨rfl,rfl⟩:=hx
 obtain⟨b,rfl,hb⟩:=hr.str_
 have hbl:b.size=s.length:=by rw[←hb,Array.length_toList];rfl
 have hrun:=run_bytes_of_string (P:=κ.P) w src dst e b hs hd (isU8 he)
 have hge:b.size≤grownCap w b.size 0 e:=grownCap_ge w b.size 0 e
 have hbr:(bytesRow b (grownCap w b.size 0 e)).size=grownCap w b.size 0 e:=by simp[bytesRow];have:b.data.size=b.size:=rfl;omega
 have hcl:(⟨.int .u8,s.map fun b=>(b.toNat:Int)⟩:TL).cells=s.map fun b=>.int .u8 b.toNat:=by
  exact flat_u8 s
 have hto:To κ st.o ι w (st.o.put d ⟨(st.o.get d).gen+1,.nrow e false false ⟨.int .u8,s.map fun b=>(b.toNat:Int)⟩⟩) (fun t=>if d=t then w.heap.size else ι t)
   (w.drew.alloc (.cells (bytesRow b (grownCap w b.size 0 e)) e ((bytesRow b (grownCap w b.size 0 e)).size,(bytesRow b (grownCap w b.size 0 e)).size+1))):=by
  refine To.new h (w1:=w.drew) rfl rfl rfl rfl d _ _ fun T' ι' w' H hn=>.inr ⟨_,_,grownCap w b.size 0 e,hn,fun i hi=>hi.elim (fun hi=>by simp;omega) (fun q=>absurd rfl q.1),by rw[hbr];simp[Ty.size],by simp[Ty.size],by rw[hcl,hbr];simp;omega,fun i dd u hdd hu=>?_⟩
  rw[hcl] at hdd
  have hi:i<s.length:=by have:=(List.getElem?_eq_some_iff.1 hdd).1;simpa using this
  have hval:(bytesRow b (grownCap w b.size 0 e)).toList[i]? = (s.map fun b=>Value.int .u8 (b.toNat:Int))[i]?:=by
   simp only[bytesRow,Array.toList_append,Array.toList_map]
   rw[List.getElem?_append_left (by simp;have:b.data.size=b.size:=rfl;omega),hb]
  rw[hval] at hu
  simp only[List.getElem?_map] at hdd hu
  cases hsi:s[i]? with
  | none=>simp[hsi] at hu
  | some c=>
   simp[hsi] at hdd hu
   subst hdd hu
   exact .pure (.int _ _)
 refine⟨_,_,_,hrun,hto,?_⟩
 rw[hbl]
 refine .acc ⟨_,_,_,rfl⟩ (by simp[wrT,Tab.get_put]) fun ty' fz' nl' L' eq=>?_
 simp[wrT,Tab.get_put] at eq
 obtain⟨rfl,rfl,rfl,rfl⟩:=eq
 rw[hbl] at hbr hge
 refine .inr ⟨by simp,⟨w.heap.size,0,none⟩,grownCap w s.length 0 e,grownCap w s.length 0 e,bytesRow b (grownCap w s.length 0 e),e,((bytesRow b (grownCap w s.length 0 e)).size,(bytesRow b (grownCap w s.length 0 e)).size+1),by simp,by simp,?_,by rw[hbr];simp[Ty.size],by simp;omega,by omega,fun _=>by simp⟩
 simp only[if_true]
 have:=heap_alloc_new w.drew (.cells (bytesRow b (grownCap w s.length 0 e)) e ((bytesRow b (grownCap w s.length 0 e)).size,(bytesRow b (grownCap w s.length 0 e)).size+1))
 exact this
end
end Go.Abs
namespace Go.Abs
open Go.RowKit
set_option linter.unusedVariables false
set_option linter.unusedSimpArgs false
def mget {α:Type} (d:α) (k:Int):List (Int×α)→α
 | []=>d
 | p::r=>bif p.1==k then p.2 else mget d k r
def mhas {α:Type} (k:Int):List (Int×α)→Bool
 | []=>false
 | p::r=>bif p.1==k then true else mhas k r
def mput {α:Type} (k:Int) (x:α):List (Int×α)→List (Int×α)
 | []=>[(k,x)]
 | p::r=>bif p.1==k then(k,x)::r else p::mput k x r
theorem findNow_mp {α:Type} (n:Int) {R:α→Value→Prop}:∀(l:List (Int×α)) (es:List MapEntry) (i:Nat),es.length=l.length→
  (∀(i:Nat) (p:Int×α) (x:MapEntry),l[i]? = some p→es[i]? = some x→x.key=.int .i64 p.1∧R p.2 x.val)→
  (Instr.findNow (.int .i64) (.int .i64 n) es i=some none∧mhas n l=false∧(∀z,mget z n l=z)∧∀x,mput n x l=l++[(n,x)])∨
  ∃j e p,Instr.findNow (.int .i64) (.int .i64 n) es i=some (some (i+j,e.val))∧es[j]? = some e∧l[j]? = some p∧p.1=n∧mhas n l=true∧(∀z,mget z n l=p.2)∧∀x,mput n x l=l.set j (n,x)
 | [],es,i,hl,_=>by
  have:es=[]:=List.eq_nil_of_length_eq_zero (by simpa using hl)
  subst this
  exact .inl ⟨rfl,rfl,fun _=>rfl,fun _=>rfl⟩
 | p::l,[],i,hl,_=>by simp at hl
 | p::l,x::es,i,hl,h=>by
  obtain⟨hk,hv⟩:=h 0 p x rfl rfl
  by_cases e:p.1=n
  ·refine .inr ⟨0,x,p,?_,rfl,rfl,e,?_,fun z=>?_,fun y=>?_⟩
   ·simp[Instr.findNow,Instr.sameNow,hk,e]
   ·simp[mhas,e]
   ·simp[mget,e]
   ·simp[mput,e]
  ·have ih:=findNow_mp n (R:=R) l es (i+1) (by simpa using hl) fun i p x hp hx=>h (i+1) p x (by simpa using hp) (by simpa using hx)
   have hf:Instr.findNow (.int .i64) (.int .i64 n) (x::es) i=Instr.findNow (.int .i64) (.int .i64 n) es (i+1):=by
    have e':(n==p.1)=false:=by simpa using fun q=>e (Eq.symm q)
    simp[Instr.findNow,Instr.sameNow,hk,e']
   have hb:(p.1==n)=false:=by simp[e]
   rcases ih with⟨h1,h2,h3,h4⟩ | ⟨j,e1,p1,h1,h2,h3,h4,h5,h6,h7⟩
   ·refine .inl ⟨hf.trans h1,?_,fun z=>?_,fun y=>?_⟩
    ·simp[mhas,hb,h2]
    ·simp[mget,hb,h3]
    ·simp[mput,hb,h4]
   ·refine .inr ⟨j+1,e1,p1,?_,by simpa using h2,by simpa using h3,h4,?_,fun z=>?_,fun y=>?_⟩
    ·rw[hf,h1];simp;omega
    ·simp[mhas,hb,h5]
    ·simp[mget,hb,h6]
    ·simp[mput,hb,h7]
section
variable {κ : Cx} {ι : Nat → Nat} {st : St} {a : Act} {w : World}
def zeroM (P:Program) (te:Ty) (e:Nat):Option te.I:=match P.info? e with
 | some i=>match i.zero with
  | some zv=>match ofVal zv with
   | some d=>impV te d
   | none=>none
  | none=>none
 | none=>none
theorem zeroM_ok {P:Program} {te:Ty} {e:Nat} {x:te.I} (h:zeroM P te e=some x):∃zv,(∀w,(zeroValue e).run P w=.ok zv w)∧∀(S:Addr→Prop) (w:World),Rp S w (valW te x) zv:=by
 unfold zeroM at h
 split at h
 case h_2=>cases h
 rename_i i hi
 split at h
 case h_2=>cases h
 rename_i zv hz
 split at h
 case h_2=>cases h
 rename_i d hd
 exact⟨zv,run_zero hi hz,fun S w=>impV_rv (T:=[]) (ι:=fun _=>0) h (.pure (ofVal_rp hd))⟩
def nMap (P:Program) (T:Tab) (t d:Nat):Option (V×Option (Nat×Ob)):=match P.underlying t with
 | some (.map k e)=>match P.underlying k with
  | some (.int .i64)=>match tyOf P 8 e with
   | some te=>some (.mp d ((T.get d).gen+1),some (d,⟨(T.get d).gen+1,.mp ⟨te,[]⟩⟩))
   | none=>none
  | _=>none
 | _=>none
theorem nMap_ok (h:RelI κ ι st a w) {t d:Nat} {v:V} {wr:Option (Nat×Ob)} (hx:nMap κ.P st.o t d=some (v,wr)):SemOk κ ι st.o w (Instr.makeMap t none) v wr:=by
 unfold nMap at hx
 split at hx
 case h_2=>cases hx
 rename_i k e ht
 split at hx
 case h_2=>cases hx
 rename_i hk
 split at hx
 case h_2=>cases hx
 rename_i te hte
 simp only[Option.some.injEq,Prod.mk.injEq] at hx
 obtain⟨rfl,rfl⟩:=hx
 refine⟨.map (some w.heap.size),w.alloc (.map #[] 0),_,?_,To.new h (w1:=w) rfl rfl rfl rfl d (.map #[] 0) (.mp ⟨te,[]⟩) (fun T' ι' w' H hn=>⟨#[],0,hn,rfl,fun i p x hp _=>by simp at hp⟩),?_⟩
 ·simp[Instr.makeMap,Result.andThen]
 ·exact .mp ⟨_,rfl⟩ (by simp[wrT,Tab.get_put]) fun _ _=>by simp
def nLook (P:Program) (T:Tab) (t:Nat) (x k:V) (ok:Bool):Option V:=match P.underlying t,x,k with
 | some (.map kt e),.mp s g,.int .i64 n=>match P.underlying kt with
  | some (.int .i64)=>if (T.get s).gen=g then(match (T.get s).k with
   | .mp M=>if (isOneT M.e||isAggT M.e)=true then(match zeroM P M.e e with
    | some z=>some (bif ok then .tup [valW M.e (mget z n M.l),.bs (mhas n M.l)] else valW M.e (mget z n M.l))
    | none=>none) else none
   | _=>none) else none
  | _=>none
 | _,_,_=>none
theorem nLook_ok (h:RelI κ ι st a w) {t:Nat} {x k v:V} {ok:Bool} {cx ck:Value} (hr:Rv st.o ι (Stable κ.D st.o ι w) w x cx) (hk:Rv st.o ι (Stable κ.D st.o ι w) w k ck)
  (hx:nLook κ.P st.o t x k ok=some v):SemOk κ ι st.o w (Instr.lookup t cx ck ok) v none:=by
 unfold nLook at hx
 split at hx
 case h_2=>cases hx
 rename_i kt e s g n ht
 split at hx
 case h_2=>cases hx
 rename_i hkt
 split at hx
 case isFalse=>cases hx
 rename_i hg
 split at hx
 case h_2=>cases hx
 rename_i M hM
 split at hx
 case isFalse=>cases hx
 rename_i hone
 split at hx
 case h_2=>cases hx
 rename_i z hz
 injection hx with hx;subst hx
 have hl:st.o.live s:=by simp[Tab.live,hM,OK.live]
 have:=hr.mp_ hg hl
 subst this
 have:=hk.int_
 subst this
 have hob:=h.tr.ob s
 rw[hM] at hob
 obtain⟨es,clock,hb,hsz,hes⟩:=hob
 obtain⟨zv,h5,h6⟩:=zeroM_ok hz
 have hkey:MapKept.IsKey (.int .i64) (.int .i64 n):=by simp[MapKept.IsKey]
 have hone':isOneT M.e=true∨isAggT M.e=true:=by simpa using hone
 have hrun:∀(a:Option (Nat×Value)),Instr.findNow (.int .i64) (.int .i64 n) es.toList 0=some a→
   (Instr.lookup t (.map (some (ι s))) (.int .i64 n) ok).run κ.P w = .ok (match a with
    | some (_,v)=>if ok=true then .tuple #[v,.bool true] else v
    | none=>if ok=true then .tuple #[zv,.bool false] else zv) w:=fun a ha=>by
  simp only[Instr.lookup,Sem.run_bind,run_underlying ht,Result.andThen_ok,MapKept.run_getObj_map hb,MapKept.run_checkKey hkt hkey,MapKept.run_findKey hkt ha,Sem.run_pure]
  cases a with
  | none=>simp only[Sem.run_bind,h5,Result.andThen_ok,Sem.run_pure]
  | some p=>rfl
 have fin:∀(y:M.e.I) (u:Value) (b:Bool),Rp (Stable κ.D st.o ι w) w (valW M.e y) u→
   Rv st.o ι (Stable κ.D st.o ι w) w (bif ok then .tup [valW M.e y,.bs b] else valW M.e y) (if ok=true then .tuple #[u,.bool b] else u):=fun y u b h0=>by
  cases ok with
  | true=>exact .pure (.tup (vs:=[u,.bool b]) rfl (LR.cons h0 (.cons (.bs (.bool b)) .nil)).2)
  | false=>exact .pure h0
 rcases findNow_mp n (R:=fun y u=>Rp (Stable κ.D st.o ι w) w (vOf M.e (cellsV M.e y)) u) M.l es.toList 0 (by simpa using hsz) hes with⟨a1,a2,a3,_⟩ | ⟨j,e1,p,a1,a2,a3,a4,a5,a6,_⟩
 ·refine SemOk.same h (hrun _ a1) ?_
  rw[a2,a3]
  exact fin z zv false (h6 _ _)
 ·refine SemOk.same h (hrun _ a1) ?_
  rw[a5,a6]
  exact fin p.2 e1.val true (valW_vOf (hes j p e1 a3 a2).2 hone')
def nUpd (P:Program) (T:Tab) (t:Nat) (x k v:V):Option (Option (Nat×Ob)):=match P.underlying t,x,k with
 | some (.map kt e),.mp s g,.int .i64 n=>match P.underlying kt with
  | some (.int .i64)=>if (T.get s).gen=g then(match (T.get s).k with
   | .mp M=>match impV M.e v with
    | some y=>some (some (s,⟨g,.mp ⟨M.e,mput n y M.l⟩⟩))
    | none=>none
   | _=>none) else none
  | _=>none
 | _,_,_=>none
theorem nUpd_ok (h:RelI κ ι st a w) {t:Nat} {x k v:V} {cx ck cv:Value} {wr:Option (Nat×Ob)} (hr:Rv st.o ι (Stable κ.D st.o ι w) w x cx) (hk:Rv st.o ι (Stable κ.D st.o ι w) w k ck)
  (hv:Rv st.o ι (Stable κ.D st.o ι w) w v cv) (hx:nUpd κ.P st.o t x k v=some wr):∃w' ι',(Instr.mapUpdate t cx ck cv).run κ.P w=.ok () w'∧To κ st.o ι w (wrT st.o wr) ι' w':=by
 unfold nUpd at hx
 split at hx
 case h_2=>cases hx
 rename_i kt e s g n ht
 split at hx
 case h_2=>cases hx
 rename_i hkt
 split at hx
 case isFalse=>cases hx
 rename_i hg
 split at hx
 case h_2=>cases hx
 rename_i M hM
 split at hx
 case h_2=>cases hx
 rename_i y hy
 injection hx with hx;subst hx
 have hl:st.o.live s:=by simp[Tab.live,hM,OK.live]
 have:=hr.mp_ hg hl
 subst this
 have:=hk.int_
 subst this
 have hob:=h.tr.ob s
 rw[hM] at hob
 obtain⟨es,clock,hb,hsz,hes⟩:=hob
 have hkey:MapKept.IsKey (.int .i64) (.int .i64 n):=by simp[MapKept.IsKey]
 have hyv:Rp (Stable κ.D st.o ι w) w (vOf M.e (cellsV M.e y)) cv:=(impOne_rv (impC_rv M.e) hy hv).pure_ (vOf_pure (leaf_cellsV M.e y))
 have turn:∀(es':Array MapEntry) (clock':Nat) (l':List (Int×M.e.I)),es'.size=l'.length→
   (∀(i:Nat) (p:Int×M.e.I) (x:MapEntry),l'[i]? = some p→es'.toList[i]? = some x→x.key=.int .i64 p.1∧Rp (Stable κ.D st.o ι w) w (vOf M.e (cellsV M.e p.2)) x.val)→
   To κ st.o ι w (st.o.put s ⟨g,.mp ⟨M.e,l'⟩⟩) ι { w with heap:=w.heap.setIfInBounds (ι s) (.map es' clock') }:=fun es' clock' l' h1 h2=>by
  refine To.turn (w':={ w with heap:=w.heap.setIfInBounds (ι s) (.map es' clock') }) h s hl ⟨g,_⟩ rfl rfl rfl (by simp) (fun j hj=>by simp[Array.getElem?_setIfInBounds_ne (Ne.symm hj)]) (by simp[hg]) (fun p _ hp=>by simp[hM,OK.fzAt] at hp) (fun _ _ _ _ e=>by simp at e) (fun T' ι' H=>?_) (hsh:=fun arr ty fz e=>by rw[hb] at e;injection e with e;cases e)
  refine⟨es',clock',by simp[h.tr.lt s hl],h1,fun i p x hp hx=>⟨(h2 i p x hp hx).1,(h2 i p x hp hx).2.mono H.st⟩⟩
 rcases findNow_mp n (R:=fun y u=>Rp (Stable κ.D st.o ι w) w (vOf M.e (cellsV M.e y)) u) M.l es.toList 0 (by simpa using hsz) hes with⟨a1,_,_,a4⟩ | ⟨j,e1,p,a1,a2,a3,a4,_,_,a7⟩
 ·refine⟨{ w with heap:=w.heap.setIfInBounds (ι s) (.map (es.push { key:=.int .i64 n,val:=cv,born:=clock }) (clock+1)) },ι,?_,?_⟩
  rotate_left
  ·rw[a4 y]
   refine turn (es.push { key:=.int .i64 n,val:=cv,born:=clock }) (clock+1) _ (by simp[hsz]) fun i p x hp hx=>?_
   simp only[Array.toList_push] at hx
   rw[List.getElem?_append] at hp hx
   have hszl:es.toList.length=M.l.length:=by simpa using hsz
   rw[hszl] at hx
   split at hp
   ·rename_i hi
    rw[if_pos hi] at hx
    exact hes i p x hp hx
   ·rename_i hi
    rw[if_neg hi] at hx
    generalize i-M.l.length=q at hp hx
    cases q with
    | zero=>
     simp at hp hx
     subst hp hx
     exact⟨rfl,hyv⟩
    | succ q=>simp at hp
  ·simp only[Instr.mapUpdate,Sem.run_bind,run_underlying ht,Result.andThen_ok,MapKept.run_getObj_map hb,MapKept.run_checkKey hkt hkey,MapKept.run_findKey hkt a1]
   exact MapKept.run_setObj_map _ hb
 ·have hj:es[j]? = some e1:=by simpa using a2
  have hke:e1.key=.int .i64 n:=by rw[(hes j p e1 a3 a2).1,a4]
  refine⟨{ w with heap:=w.heap.setIfInBounds (ι s) (.map (es.modify j fun e=>{ e with key:=.int .i64 n,val:=cv }) clock) },ι,?_,?_⟩
  rotate_left
  ·rw[a7 y]
   refine turn (es.modify j fun e=>{ e with key:=.int .i64 n,val:=cv }) clock _ (by simp[hsz]) fun i p' x hp hx=>?_
   have hx':(es.modify j fun e=>{ e with key:=.int .i64 n,val:=cv })[i]? = some x:=by rw[←Array.getElem?_toList];exact hx
   rw[Array.getElem?_modify] at hx'
   rw[List.getElem?_set] at hp
   by_cases hij:j=i
   ·subst hij
    rw[if_pos rfl,hj] at hx'
    simp at hx'
    subst hx'
    have hlt:j<M.l.length:=(List.getElem?_eq_some_iff.1 a3).1
    simp[hlt] at hp
    subst hp
    exact⟨rfl,hyv⟩
   ·rw[if_neg hij] at hx' hp
    exact hes i p' x hp (by simpa using hx')
  ·have h0:(0:Nat)+j=j:=Nat.zero_add j
   rw[h0] at a1
   simp only[Instr.mapUpdate,Sem.run_bind,run_underlying ht,Result.andThen_ok,MapKept.run_getObj_map hb,MapKept.run_checkKey hkt hkey,MapKept.run_findKey hkt a1,hj,Option.map_some,Option.getD_some,hke,MapKept.run_keyThatStays hkey]
   exact MapKept.run_setObj_map _ hb
def mLen (P:Program) (T:Tab) (t:Nat) (x:V):Option V:=match P.underlying t,x with
 | some (.map _ _),.mp s g=>if (T.get s).gen=g then(match (T.get s).k with
  | .mp M=>some (.int .i64 M.l.length)
  | _=>none) else none
 | _,_=>none
theorem mLen_ok (h:RelI κ ι st a w) {t ty:Nat} {x v:V} {cx:Value} {ts:Array TypeId} (hts:ts[0]? = some t) (hr:Rv st.o ι (Stable κ.D st.o ι w) w x cx) (hx:mLen κ.P st.o t x=some v):
  SemOk κ ι st.o w (Builtin.len_ ts ty #[cx]) v none:=by
 unfold mLen at hx
 split at hx
 case h_2=>cases hx
 rename_i k e s g ht
 split at hx
 case isFalse=>cases hx
 rename_i hg
 split at hx
 case h_2=>cases hx
 rename_i M hM
 injection hx with hx;subst hx
 have hl:st.o.live s:=by simp[Tab.live,hM,OK.live]
 have:=hr.mp_ hg hl
 subst this
 have hob:=h.tr.ob s
 rw[hM] at hob
 obtain⟨es,clock,hb,hsz,hes⟩:=hob
 refine SemOk.same h (cv:=.int .i64 M.l.length) ?_ (.pure (.int _ _))
 simp[Builtin.len_,hts,run_underlying ht,MapKept.run_getObj_map hb,goInt,Result.andThen,hsz]
end
end Go.Abs
namespace Go.Abs
open Go.RowKit
set_option linter.unusedVariables false
set_option linter.unusedSimpArgs false
section
variable {κ : Cx} {ι : Nat → Nat} {st : St} {a : Act} {w : World}
def cvSame (P:Program) (T:Tab) (src dst:Nat) (x:V):Option (V×Wr):=
 if src=dst then(match P.underlying src with
  | some (.slice e)=>match P.underlying e with
   | some (.int .u8)=>match x with
    | .own s g off n=>if (T.get s).gen=g then(match (T.get s).k with
     | .row ty sz false cs=>if cs.all (fun d=>d.pure&&d.flat)=true∧(off+n)*sz≤cs.length∧sz=1 then some (.sl n ((cs.take ((off+n)*sz)).drop (off*sz)),some (s,⟨g+1,.dead⟩)) else none
     | _=>none) else none
    | _=>none
   | _=>none
  | _=>none) else none
theorem cvSame_ok (h:RelI κ ι st a w) {src dst:Nat} {x v:V} {cx:Value} {wr:Wr} (hr:Rv st.o ι (Stable κ.D st.o ι w) w x cx) (hx:cvSame κ.P st.o src dst x=some (v,wr)):SemOk κ ι st.o w (convert src dst cx) v wr:=by
 unfold cvSame at hx
 split at hx
 case isFalse=>cases hx
 rename_i hsd
 subst hsd
 split at hx
 case h_2=>cases hx
 rename_i e he
 split at hx
 case h_2=>cases hx
 rename_i hu
 split at hx
 case h_2=>cases hx
 rename_i s g off n
 split at hx
 case isFalse=>cases hx
 rename_i hg
 split at hx
 case h_2=>cases hx
 rename_i ty sz cs hk
 split at hx
 case isFalse=>cases hx
 rename_i hcc
 obtain⟨hall,hle,hsz1⟩:=hcc
 simp only[Option.some.injEq,Prod.mk.injEq] at hx
 obtain⟨rfl,rfl⟩:=hx
 have hT:st.o.get s=⟨g,.row ty sz false cs⟩:=by cases hTs:st.o.get s;rw[hTs] at hk hg;simp at hk hg;subst hk hg;rfl
 have hl:st.o.live s:=by simp[Tab.live,hT,OK.live]
 obtain⟨ad,c,cap,arr,ty2,fz,rfl,hbk,hmem,has,hn,hcap,hpl⟩:=hr.own_ hT
 have hob:=h.tr.ob s
 rw[hT] at hob
 obtain⟨arr2,fz2,cap2,hh2,hf2,has2,h0,hle2,hc2⟩:=hob
 rw[hmem] at hh2
 injection hh2 with hh2;injection hh2 with e1 e2 e3;subst e1
 let fz':Nat×Nat:=if fz.1==fz.2 then(arr.size,arr.size+1) else(min fz.1 arr.size,max fz.2 (arr.size+1))
 let w':World:=w.freeze ⟨ι s,arr.size,none⟩ 1
 have hnew:w'.heap[ι s]? = some (.cells arr ty2 fz'):=by
  show (w.freeze ⟨ι s,arr.size,none⟩ 1).heap[ι s]? = _
  simp only[World.freeze,show ¬(1=0) from by omega,if_false,Array.getElem?_modify,if_true,hmem,Option.map_some]
  rfl
 have hoth:∀j,j≠ι s→w'.heap[j]? = w.heap[j]?:=by
  intro j hj
  show (w.freeze ⟨ι s,arr.size,none⟩ 1).heap[j]? = _
  simp only[World.freeze,show ¬(1=0) from by omega,if_false,Array.getElem?_modify,if_neg (Ne.symm hj)]
 have hsize:w'.heap.size=w.heap.size:=by show (w.freeze ⟨ι s,arr.size,none⟩ 1).heap.size=_;simp[World.freeze]
 have hto:To κ st.o ι w (st.o.put s ⟨g+1,.dead⟩) ι w':=
  To.turn (w':=w') h s hl ⟨g+1,.dead⟩ rfl rfl rfl hsize hoth (by simp[hT]) (fun p hp hf=>by simp[hT,OK.fzAt] at hf) (fun ty' sz' fz1 cs' e _=>by simp at e) (fun _ _ _=>trivial) (hsh:=Shape.of hmem hnew rfl)
 refine⟨.slice (some ad) n c,w',ι,?_,hto,?_⟩
 ·have hsh:w.shape? (ι s)=some (ty2,arr.size):=by simp only[World.shape?,hmem]
  simp[convert,run_underlying he,run_underlying hu,markStringish,shape,freeze,Sem.run,hsh,hbk]
  rfl
 ·have hml:(off+n)*sz≤arr.size:=by rw[has];exact Nat.mul_le_mul_right _ hn
  have hmul:(off+n)*sz=off*sz+n*sz:=Nat.add_mul _ _ _
  refine .pure (.sl (vs:=(arr.toList.take ((off+n)*sz)).drop (off*sz)) (by omega) (fun i u hu=>?_) (by simp;omega) fun i d u hd hu=>?_)
  ·rw[List.getElem?_drop,List.getElem?_take] at hu
   split at hu
   ·rename_i hi
    have hk0:n≠0:=by rintro rfl;omega
    have:=hpl (by omega);subst this
    have hadd:(⟨ι s,off*sz,none⟩:Addr).add i=⟨ι s,off*sz+i,none⟩:=by unfold Addr.add;split<;>simp_all
    rw[hadd]
    refine⟨⟨?_,by rw[hsize];exact h.tr.lt s hl,fun t ht e=>?_⟩,?_⟩
    ·rcases h.my s hl with h1 | h1
     ·exact .inr (.inl h1)
     ·exact .inr (.inr h1)
    ·simp only[wrT,Tab.live,Tab.get_put] at ht
     by_cases hst:s=t
     ·subst hst;simp[OK.live] at ht
     ·rw[if_neg hst] at ht
      exact absurd (h.tr.inj t s ht hl e).symm hst
    ·simp only[World.cell?,hnew]
     simpa using hu
   ·cases hu
  ·rw[List.getElem?_drop,List.getElem?_take] at hd hu
   split at hd
   ·rename_i hi
    rw[if_pos hi] at hu
    have hm:=List.all_eq_true.1 hall d (List.mem_of_getElem? hd)
    simp only[Bool.and_eq_true] at hm
    exact flat_rp ((hc2 _ d u hd hu).pure_ hm.1) hm.2
   ·cases hd
end
def isSi:V→Bool
 | .si _=>true
 | _=>false
def aopN (P:Program) (st:St) (o:Oper):Option (Tr (V×Wr)):=
 match o.op with
 | .store t x y=>(nStore P st.o t (st.eval x) (st.eval y)).map fun wr=>.ret (.tup [],wr)
 | .typeAssert x _ asserted ok=>match st.eval x with
  | .si X=>some ((siT X.e X.x).bind fun v=>.of ((aAssert P asserted ok v).map fun v=>(v,none)))
  | _=>none
 | .binOp op t x y _=>if (isSi (st.eval x)||isSi (st.eval y))=true then
   some ((unST (st.eval x)).bind fun vx=>(unST (st.eval y)).bind fun vy=>.of (((aBin P op t x y (conB vx) (conB vy)).map symB).map fun v=>(v,none))) else none
 | .slice t x lo hi none=>(wSlice P st.o t (st.eval x) (lo.map st.eval) (hi.map st.eval)).map fun r=>.needs r.1 (.ret (r.2,none))
 | .indexAddr t x ix=>(wIndex P st.o t (st.eval x) (st.eval ix)).map fun r=>.needs r.1 (.ret (r.2,none))
 | .convert src dst x=>match nText P st.o src dst (st.eval x) with
  | some r=>some (.needs r.1 (.ret (r.2,none)))
  | none=>match o.dst with
   | some d=>match nBytes P st.o src dst (st.eval x) d with
    | some r=>some (.ret r)
    | none=>(cvSame P st.o src dst (st.eval x)).map .ret
   | none=>none
 | .makeSlice t l c=>match o.dst with
  | some d=>(nMake P st.o t (st.eval l) (st.eval c) d).map fun r=>.needs r.1 (.ret r.2)
  | none=>none
 | .alloc e=>match o.dst with
  | some d=>(nAlloc P st.o e d).map .ret
  | none=>none
 | .call ⟨.builtin .len,args,ats⟩=>match args.toList,ats.toList with
  | [x],[t]=>match mLen P st.o t (st.eval x) with
   | some v=>some (.ret (v,none))
   | none=>(wLen P st.o t (st.eval x)).map fun v=>.ret (v,none)
  | _,_=>none
 | .call ⟨.builtin .clear,args,ats⟩=>match args.toList,ats.toList with
  | [x],[t]=>(wClear P st.o t (st.eval x)).map fun wr=>.ret (.tup [],wr)
  | _,_=>none
 | .buildSlice t n ps=>match o.dst with
  | some d=>(aBuildSlice P st.o t n (st.parts ps.toList) d).map .ret
  | none=>none
 | .makeMap t none=>match o.dst with
  | some d=>(nMap P st.o t d).map .ret
  | none=>none
 | .lookup t x k ok=>(nLook P st.o t (st.eval x) (st.eval k) ok).map fun v=>.ret (v,none)
 | .mapUpdate t x k v=>(nUpd P st.o t (st.eval x) (st.eval k) (st.eval v)).map fun wr=>.ret (.tup [],wr)
 | _=>none
section
variable {κ : Cx} {ι : Nat → Nat} {st : St} {a : Act} {w : World}
theorem of_run {α:Type} {x:Option α} {r:α} (h:(Tr.of x).run=some r):x=some r:=by rwa [Tr.run_of] at h
theorem ret_run {α:Type} {x r:α} (h:(Tr.ret x).run=some r):x=r:=by injection h
theorem bind_run {α β:Type} {x:Tr α} {f:α→Tr β} {r:β} (h:(x.bind f).run=some r):∃a,x.run=some a∧(f a).run=some r:=by
 rw[Tr.run_bind] at h
 cases hx:x.run with
 | none=>rw[hx] at h;cases h
 | some a=>rw[hx] at h;exact⟨a,rfl,h⟩
theorem aopN_ok (h:RelI κ ι st a w) {o:Oper} {tr:Tr (V×Wr)} {v:V} {wr:Wr} (hx:aopN κ.P st o=some tr) (hr:tr.run=some (v,wr)):OpRes κ ι st.o a w o v (wrT st.o wr):=by
 obtain⟨dst,op,type,pos,after,guard⟩:=o
 unfold aopN at hx
 simp only at hx
 split at hx
 ·-- store
  rename_i t x y
  cases hs:nStore κ.P st.o t (st.eval x) (st.eval y) with
  | none=>rw[hs] at hx;cases hx
  | some wr'=>
   rw[hs] at hx
   simp only[Option.map_some,Option.some.injEq] at hx
   subst hx
   have:=ret_run hr
   simp only[Prod.mk.injEq] at this
   obtain⟨rfl,rfl⟩:=this
   obtain⟨w',ι',hrun,ht⟩:=nStore_ok h (h.eval x) (h.eval y) hs
   exact⟨undef,w',ι',.inr ⟨by simp[execOp,hrun],rfl⟩,ht,.pure (.tup (vs:=[]) rfl (by simp))⟩
 ·rename_i x xt asserted ok
  split at hx
  ·rename_i X hX
   injection hx with hx;subst hx
   obtain⟨v',h1,h2⟩:=bind_run hr
   rw[siT_run] at h1
   injection h1 with h1;subst h1
   obtain⟨hq,rfl⟩:=one_eq (of_run h2)
   have hxx:=h.eval x
   rw[hX] at hxx
   exact OpRes.of rfl (aAssert_ok h (siOf_rv _ _ _ hxx.si_) hq)
  ·cases hx
 ·rename_i op' t x y yt
  split at hx
  ·injection hx with hx;subst hx
   obtain⟨vx,h1,h2⟩:=bind_run hr
   obtain⟨vy,h3,h4⟩:=bind_run h2
   rw[unST_run] at h1 h3
   injection h1 with h1;subst h1
   injection h3 with h3;subst h3
   obtain⟨hq,rfl⟩:=one_eq (of_run h4)
   cases hb:aBin κ.P op' t x y (conB (unS (st.eval x))) (conB (unS (st.eval y))) with
   | none=>simp[hb] at hq
   | some u=>
    simp[hb] at hq;subst hq
    exact OpRes.of rfl (aBin_ok h (h.eval x).unS.conB (h.eval y).unS.conB hb).symB
  ·cases hx
 ·rename_i t x lo hi
  cases hs:wSlice κ.P st.o t (st.eval x) (lo.map st.eval) (hi.map st.eval) with
  | none=>rw[hs] at hx;cases hx
  | some r=>
   rw[hs] at hx
   simp only[Option.map_some,Option.some.injEq] at hx
   subst hx
   obtain⟨hb,hr⟩:=Tr.run_needs hr
   have:=ret_run hr
   simp only[Prod.mk.injEq] at this
   obtain⟨rfl,rfl⟩:=this
   have ro:∀o:Option Operand,RO st.o ι (Stable κ.D st.o ι w) w (o.map st.eval) (o.map a.eval):=fun o=>by
    cases o with
    | none=>trivial
    | some y=>exact h.eval y
   exact OpRes.of rfl (wSlice_ok h (h.eval x) (ro lo) (ro hi) (bs:=r.1) hs hb)
 ·rename_i t x ix
  cases hs:wIndex κ.P st.o t (st.eval x) (st.eval ix) with
  | none=>rw[hs] at hx;cases hx
  | some r=>
   rw[hs] at hx
   simp only[Option.map_some,Option.some.injEq] at hx
   subst hx
   obtain⟨hb,hr⟩:=Tr.run_needs hr
   have:=ret_run hr
   simp only[Prod.mk.injEq] at this
   obtain⟨rfl,rfl⟩:=this
   exact OpRes.of rfl (wIndex_ok h (h.eval x) (h.eval ix) (bs:=r.1) hs hb)
 ·rename_i src dst' x
  split at hx
  ·rename_i r hs
   injection hx with hx;subst hx
   obtain⟨hb,hr⟩:=Tr.run_needs hr
   have:=ret_run hr
   simp only[Prod.mk.injEq] at this
   obtain⟨rfl,rfl⟩:=this
   exact OpRes.of rfl (aConvert_ok h (h.eval x) (nText_eq (κ:=κ) (d:=0) (bs:=r.1) hs hb))
  ·split at hx
   ·rename_i d
    cases hs:nBytes κ.P st.o src dst' (st.eval x) d with
    | none=>
     rw[hs] at hx
     simp only at hx
     cases hc:cvSame κ.P st.o src dst' (st.eval x) with
     | none=>rw[hc] at hx;cases hx
     | some r=>
      rw[hc] at hx
      simp only[Option.map_some,Option.some.injEq] at hx
      subst hx
      have:=ret_run hr
      subst this
      exact OpRes.of rfl (cvSame_ok h (h.eval x) hc)
    | some r=>
     rw[hs] at hx
     simp only[Option.some.injEq] at hx
     subst hx
     have:=ret_run hr
     subst this
     exact OpRes.of rfl (nBytes_ok h (h.eval x) hs)
   ·cases hx
 ·rename_i t l c
  split at hx
  ·rename_i d
   cases hs:nMake κ.P st.o t (st.eval l) (st.eval c) d with
   | none=>rw[hs] at hx;cases hx
   | some r=>
    obtain⟨bs,v',wr'⟩:=r
    rw[hs] at hx
    simp only[Option.map_some,Option.some.injEq] at hx
    subst hx
    obtain⟨hb,hr⟩:=Tr.run_needs hr
    have:=ret_run hr
    simp only[Prod.mk.injEq] at this
    obtain⟨rfl,rfl⟩:=this
    exact OpRes.of rfl (nMake_ok h (h.eval l) (h.eval c) hs hb)
  ·cases hx
 ·rename_i e
  split at hx
  ·rename_i d
   cases hs:nAlloc κ.P st.o e d with
   | none=>rw[hs] at hx;cases hx
   | some r=>
    rw[hs] at hx
    simp only[Option.map_some,Option.some.injEq] at hx
    subst hx
    have:=ret_run hr
    subst this
    exact OpRes.of rfl (nAlloc_ok h hs)
  ·cases hx
 ·rename_i args ats
  split at hx
  ·rename_i x t ea et
   obtain⟨l1⟩:=args;obtain⟨l2⟩:=ats
   simp at ea et;subst ea et
   cases hm:mLen κ.P st.o t (st.eval x) with
   | some v'=>
    rw[hm] at hx
    simp only[Option.some.injEq] at hx
    subst hx
    have:=ret_run hr
    simp only[Prod.mk.injEq] at this
    obtain⟨rfl,rfl⟩:=this
    refine OpRes.of (s:=Builtin.len_ #[t] type #[a.eval x]) ?_ (mLen_ok h rfl (h.eval x) hm)
    simp[execOp,resolve,invoke,builtin]
   | none=>
   rw[hm] at hx
   simp only at hx
   cases hs:wLen κ.P st.o t (st.eval x) with
   | none=>rw[hs] at hx;cases hx
   | some v'=>
    rw[hs] at hx
    simp only[Option.map_some,Option.some.injEq] at hx
    subst hx
    have:=ret_run hr
    simp only[Prod.mk.injEq] at this
    obtain⟨rfl,rfl⟩:=this
    refine OpRes.of (s:=Builtin.len_ #[t] type #[a.eval x]) ?_ (wLen_ok h rfl (h.eval x) hs)
    simp[execOp,resolve,invoke,builtin]
  ·cases hx
 ·rename_i args ats
  split at hx
  ·rename_i x t ea et
   obtain⟨l1⟩:=args;obtain⟨l2⟩:=ats
   simp at ea et;subst ea et
   cases hs:wClear κ.P st.o t (st.eval x) with
   | none=>rw[hs] at hx;cases hx
   | some wr'=>
    rw[hs] at hx
    simp only[Option.map_some,Option.some.injEq] at hx
    subst hx
    have:=ret_run hr
    simp only[Prod.mk.injEq] at this
    obtain⟨rfl,rfl⟩:=this
    refine OpRes.of (s:=Builtin.clear_ #[t] type #[a.eval x]) ?_ (wClear_ok h rfl (h.eval x) hs)
    simp[execOp,resolve,invoke,builtin]
  ·cases hx
 ·rename_i t n ps
  split at hx
  ·rename_i d
   cases hs:aBuildSlice κ.P st.o t n (st.parts ps.toList) d with
   | none=>rw[hs] at hx;cases hx
   | some r=>
    rw[hs] at hx
    simp only[Option.map_some,Option.some.injEq] at hx
    subst hx
    have:=ret_run hr
    subst this
    exact OpRes.of rfl (aBuildSlice_ok h hs)
  ·cases hx
 ·rename_i t
  split at hx
  ·rename_i d
   cases hs:nMap κ.P st.o t d with
   | none=>rw[hs] at hx;cases hx
   | some r=>
    rw[hs] at hx
    simp only[Option.map_some,Option.some.injEq] at hx
    subst hx
    have:=ret_run hr
    subst this
    exact OpRes.of rfl (nMap_ok h hs)
  ·cases hx
 ·rename_i t x k ok
  cases hs:nLook κ.P st.o t (st.eval x) (st.eval k) ok with
  | none=>rw[hs] at hx;cases hx
  | some r=>
   rw[hs] at hx
   simp only[Option.map_some,Option.some.injEq] at hx
   subst hx
   have:=ret_run hr
   simp only[Prod.mk.injEq] at this
   obtain⟨rfl,rfl⟩:=this
   exact OpRes.of rfl (nLook_ok h (h.eval x) (h.eval k) hs)
 ·rename_i t x k v
  cases hs:nUpd κ.P st.o t (st.eval x) (st.eval k) (st.eval v) with
  | none=>rw[hs] at hx;cases hx
  | some wr'=>
   rw[hs] at hx
   simp only[Option.map_some,Option.some.injEq] at hx
   subst hx
   have:=ret_run hr
   simp only[Prod.mk.injEq] at this
   obtain⟨rfl,rfl⟩:=this
   obtain⟨w',ι',hrun,ht⟩:=nUpd_ok h (h.eval x) (h.eval k) (h.eval v) hs
   exact⟨undef,w',ι',.inr ⟨by simp[execOp,hrun],rfl⟩,ht,.pure (.tup (vs:=[]) rfl (by simp))⟩
 ·cases hx
end
def aCallT2 (Γ:OrcT) (Λ:Lend) (T:Tab) (f:Nat) (args:List V) (d:Nat):Tr (V×Tab):=
 match viewArgs depth T (Λ f) 0 [] args with
 | some (xs,l,bs)=>
  if bs.Nodup∧bs.length<1000000 then
   match boxes2 depth T bs with
   | some (lb,l2)=>(Γ f xs lb).bind fun r=>.needs (lens2 T bs r.2.1) (.of (fin3 T (l++l2) bs d r.1 r.2.1 r.2.2))
   | none=>.fail
  else .fail
 | none=>.fail
where fin3 (T:Tab) (l bs:List Nat) (d:Nat) (res:V) (lb' lf:List OK):Option (V×Tab):=
 if lf.length≤4∧bs.all (fun s=>!l.contains s)=true then
  match revive2 (if flatAll res lb' lf=true then T else T.freezes l) bs lb' with
  | some T2=>match fresh2 bs d T2 0 lf with
   | some T3=>(ren T3 bs d lf.length res).map fun v=>(v,T3)
   | none=>none
  | none=>none
 else none
theorem aCallT2_run {Γ:OrcT} {Λ:Lend} {T:Tab} {f:Nat} {args:List V} {d:Nat} {r:V×Tab} (h:(aCallT2 Γ Λ T f args d).run=some r):aCall2 Γ.orc Λ T f args d=some r:=by
 unfold aCallT2 at h
 unfold aCall2
 split at h
 ·rename_i xs l bs hv
  rw[hv]
  split at h
  ·rename_i hc
   simp only[if_pos hc]
   split at h
   ·rename_i lb l2 hb
    rw[hb]
    obtain⟨q,hq,h2⟩:=bind_run h
    obtain⟨h3,h4⟩:=Tr.run_needs h2
    have h5:=of_run h4
    simp only[OrcT.orc,hq]
    obtain⟨res,lb',lf⟩:=q
    simp only at h3 h5 ⊢
    unfold aCallT2.fin3 at h5
    unfold fin2
    split at h5
    ·rename_i hc2
     rw[if_pos ⟨hc2.1,hc2.2,h3⟩]
     exact h5
    ·cases h5
   ·cases h
  ·cases h
 ·cases h
def GammaOk2 (P:Program) (Γ:Orc):Prop:=∀f xs lb res lb' lf,Γ f xs lb=some (res,lb',lf)→
 Spec2 P f xs lb res lb' lf ∧ ∃ fn, P.funcs[f]? = some fn ∧ (fn.name == "runtime.NumGoroutine") = false ∧ fn.body.isNone = false
section
variable {κ : Cx} {ι : Nat → Nat} {st : St} {a : Act} {w : World}
def bsZero (P:Program) (T:Tab) (t d:Nat):Option (V×Wr):=match P.underlying t with
 | some (.slice e)=>match P.info? e with
  | some i=>some (.sz,some (d,⟨(T.get d).gen+1,.dead⟩))
  | none=>none
 | _=>none
theorem bsZero_ok (h:RelI κ ι st a w) {t d:Nat} {v:V} {wr:Wr} (hx:bsZero κ.P st.o t d=some (v,wr)):SemOk κ ι st.o w (Instr.buildSlice t 0 #[]) v wr:=by
 unfold bsZero at hx
 split at hx
 case h_2=>cases hx
 rename_i e ht
 split at hx
 case h_2=>cases hx
 rename_i i hi
 simp only[Option.some.injEq,Prod.mk.injEq] at hx
 obtain⟨rfl,rfl⟩:=hx
 refine⟨.slice (some ⟨w.heap.size,0,none⟩) 0 0,w.alloc (.cells #[] e),_,?_,To.new h (w1:=w) rfl rfl rfl rfl d (.cells #[] e) .dead (fun _ _ _ _ _=>trivial),.pure .sz⟩
 have hr0:(Array.range 0)=(#[]:Array Nat):=by simp
 simp[Instr.buildSlice,run_underlying ht,run_size hi,Instr.fill,newRow,hr0]
def aopE (P:Program) (st:St) (o:Oper):Option (V×Wr):=match o.op with
 | .buildSlice t n ps=>match n with
  | 0=>match ps.toList with
   | []=>match o.dst with
    | some d=>bsZero P st.o t d
    | none=>none
   | _=>none
  | _=>none
 | _=>none
theorem aopE_ok (h:RelI κ ι st a w) {o:Oper} {v:V} {wr:Wr} (hx:aopE κ.P st o=some (v,wr)):OpRes κ ι st.o a w o v (wrT st.o wr):=by
 obtain⟨dst,op,type,pos,after,guard⟩:=o
 unfold aopE at hx
 split at hx
 ·rename_i t n ps ho
  simp only at ho;subst ho
  split at hx
  ·split at hx
   ·rename_i hps
    obtain⟨l⟩:=ps
    simp at hps;subst hps
    split at hx
    ·refine OpRes.of (s:=Instr.buildSlice t 0 #[]) ?_ (bsZero_ok h hx)
     simp[execOp]
    ·cases hx
   ·cases hx
  ·cases hx
 ·cases hx
end
def estep2 (Γ:OrcT) (Λ:Lend) (P:Program) (st:St) (o:Oper):Tr (V×Tab):=
 match o.op with
 | .call ⟨.value f,args,_⟩=>match st.eval f with
  | .fn k caps=>aCallT2 Γ Λ st.o k (args.toList.map st.eval++caps) (o.dst.getD 99999)
  | _=>.fail
 | _=>match aopE P st o with
  | some r=>.ret (r.1,wrT st.o r.2)
  | none=>match aopN P st o with
   | some tr=>tr.bind fun r=>.ret (r.1,wrT st.o r.2)
   | none=>(aopT P st o).bind fun r=>.ret (r.1,wrT st.o r.2)
section
variable {κ : Cx} {ι : Nat → Nat} {st : St} {a : Act} {w : World}
theorem estep2_ok {Γ:OrcT} {Λ:Lend} (hΓ:GammaOk2 κ.P Γ.orc) (h:RelI κ ι st a w) {o:Oper} {v:V} {T':Tab} (hx:(estep2 Γ Λ κ.P st o).run=some (v,T')) {K:Act→World→Prop} {Q:Exit→Act→World→Prop}
  (hK:∀cv w' ι',To κ st.o ι w T' ι' w'→Rv T' ι' (Stable κ.D T' ι' w') w' v cv→K (a.put o.dst cv) w'):o.wp κ.P a w K Q:=by
 unfold estep2 at hx
 split at hx
 ·rename_i f args ts ho
  split at hx
  ·rename_i k caps hf
   have hfv:=h.eval f
   rw[hf] at hfv
   obtain⟨us,hfu,hl,hh⟩:=hfv.fn_
   have hx':=aCallT2_run hx
   have hcall:=hx'
   unfold aCall2 at hcall
   have hent : ∃ fn, κ.P.funcs[k]? = some fn ∧ (fn.name == "runtime.NumGoroutine") = false ∧ fn.body.isNone = false := by
    split at hcall
    ·split at hcall
     ·split at hcall
      ·split at hcall
       ·rename_i hg
        exact(hΓ _ _ _ _ _ _ hg).2
       ·cases hcall
      ·cases hcall
     ·cases hcall
    ·cases hcall
   obtain⟨fn,h1,h2,h3⟩:=hent
   unfold Oper.wp
   rw[exec_call ho hfu h1 h2 h3]
   have hargs:LR (Rv st.o ι (Stable κ.D st.o ι w) w) (args.toList.map st.eval++caps) (args.map a.eval++⟨us⟩).toList:=by
    have:=LR.map st.eval a.eval args.toList (R:=Rv st.o ι (Stable κ.D st.o ι w) w) fun x _=>h.eval x
    simpa using this.append ⟨hl,hh⟩
   refine(aCall2_ok (fun f xs lb res lb' lf hg=>(hΓ f xs lb res lb' lf hg).1) h hx' hargs).mono fun e w'=>?_
   rintro⟨cv,ι',rfl,hto,hv⟩
   exact hK cv w' ι' hto hv
  ·cases hx
 ·have fin:∀(wr:Wr),OpRes κ ι st.o a w o v (wrT st.o wr)→T'=wrT st.o wr→o.wp κ.P a w K Q:=fun wr hop e=>by
   subst e
   obtain⟨cv,w',ι',hrun,hto,hv⟩:=hop
   unfold Oper.wp
   rcases hrun with hrun | ⟨hrun,rfl⟩
   ·rw[hrun];exact hK cv w' ι' hto hv
   ·rw[hrun];exact hK undef w' ι' hto hv
  split at hx
  ·rename_i r hr
   obtain⟨v',wr⟩:=r
   have:=ret_run hx
   simp only[Prod.mk.injEq] at this
   obtain⟨rfl,e⟩:=this
   exact fin wr (aopE_ok h hr) e.symm
  split at hx
  ·rename_i tr htr
   obtain⟨⟨v',wr⟩,h1,h2⟩:=bind_run hx
   have:=ret_run h2
   simp only[Prod.mk.injEq] at this
   obtain⟨rfl,e⟩:=this
   exact fin wr (aopN_ok h htr h1) e.symm
  ·obtain⟨⟨v',wr⟩,h1,h2⟩:=bind_run hx
   have:=ret_run h2
   simp only[Prod.mk.injEq] at this
   obtain⟨rfl,e⟩:=this
   exact fin wr (aop_ok h (aopT_run h1)) e.symm
end
def litOf (opl:List Oper) (a:Nat):Bool:=
 (opl.any fun o=>o.dst==some a&&(match o.op with | .buildSlice _ _ _=>true | _=>false)) &&
 (opl.filter fun o=>(o.op.operands.toList.any fun | .tmp t=>t==a | _=>false)).length==1
def nLit (P:Program) (T:Tab) (t:Nat) (x ix:V):Option (List Bool×V×Wr):=
 match P.underlying t,x,ix with
 | some (.slice e),.own s g 0 n,.int _ i=>match P.info? e,tyOf P 8 e with
  | some inf,some te=>if (T.get s).gen=g∧te.size=inf.size∧te.flatT=true then(match (T.get s).k with
   | .row ty sz false cs=>if sz=te.size∧0<te.size then(match impN (impC te) n cs with
    | some (l,[])=>some ([decide (0≤i),decide (i<(n:Int))],.eptr s (g+1) te.size i.toNat 0,some (s,⟨g+1,.nrow ty false false ⟨te,l⟩⟩))
    | _=>none) else none
   | _=>none) else none
  | _,_=>none
 | _,_,_=>none
def aLit (P:Program) (opl:List Oper) (st:St) (o:Oper):Option (List Bool×V×Wr):=match o.op with
 | .indexAddr t (.tmp a) ix=>if litOf opl a=true then nLit P st.o t (st.get a) (st.eval ix) else none
 | _=>none
section
variable {κ : Cx} {ι : Nat → Nat} {st : St} {a : Act} {w : World}
theorem nLit_ok (h:RelI κ ι st a w) {t:Nat} {x ix v:V} {cx ci:Value} {bs:List Bool} {wr:Wr} (hr:Rv st.o ι (Stable κ.D st.o ι w) w x cx) (hi:Rv st.o ι (Stable κ.D st.o ι w) w ix ci)
  (hx:nLit κ.P st.o t x ix=some (bs,v,wr)) (hbs:bs.all id=true):SemOk κ ι st.o w (Instr.indexAt t cx ci) v wr:=by
 unfold nLit at hx
 split at hx
 case h_2=>cases hx
 rename_i e s g n k i ht
 split at hx
 case h_2=>cases hx
 rename_i inf te hinf hte
 split at hx
 case isFalse=>cases hx
 rename_i hc
 obtain⟨hg,hsz,hfl⟩:=hc
 split at hx
 case h_2=>cases hx
 rename_i ty sz cs hk
 split at hx
 case isFalse=>cases hx
 rename_i hc2
 obtain⟨rfl,h0⟩:=hc2
 split at hx
 case h_2=>cases hx
 rename_i l himp
 injection hx with hx
 simp only[Prod.mk.injEq] at hx
 obtain⟨rfl,rfl,rfl⟩:=hx
 simp only[List.all_cons,List.all_nil,Bool.and_eq_true,id,decide_eq_true_eq,Bool.and_true] at hbs
 obtain⟨hi0,hi1⟩:=hbs
 have:=hi.int_;subst this
 have hT:st.o.get s=⟨g,.row ty te.size false cs⟩:=by cases hTs:st.o.get s;rw[hTs] at hk hg;simp at hk hg;subst hk hg;rfl
 have hl:st.o.live s:=by simp[Tab.live,hk,OK.live]
 obtain⟨ad,c,cap,arr,tb,fz,rfl,hbk,hmem,has,hn,hcap,hpl⟩:=hr.own_ hT
 have hob:=h.tr.ob s
 rw[hk] at hob
 obtain⟨arr2,fz2,cap2,b1,b2,b3,b4,b5,b6⟩:=hob
 rw[hmem] at b1
 injection b1 with b1;injection b1 with q1 q2 q3;subst q1 q2 q3
 have:=hpl (by omega);subst this
 have hal:arr.toList.length=arr.size:=Array.length_toList
 have hlr:LR (Rv st.o ι (Stable κ.D st.o ι w) w) cs (arr.toList.take cs.length):=by
  refine⟨by rw[List.length_take,hal];omega,fun j d u hd hu=>?_⟩
  rw[List.getElem?_take] at hu
  split at hu
  ·exact b6 j d u hd hu
  ·cases hu
 obtain⟨hll,hlr2⟩:=impN_rv (impC_rv te) n cs [] l _ himp hlr
 rw[List.append_nil] at hlr2
 have hcl:(⟨te,l⟩:TL).cells.length=l.length*te.size:=TL.cells_length _
 have hcl2:(⟨te,l⟩:TL).cells.length=min cs.length arr.size:=by rw[←hal,←List.length_take];exact hlr2.1
 have hto:To κ st.o ι w (st.o.put s ⟨g+1,.nrow tb false false ⟨te,l⟩⟩) ι w:=by
  refine To.turn h s hl ⟨g+1,.nrow tb false false ⟨te,l⟩⟩ rfl rfl rfl rfl (fun _ _=>rfl) (by rw[hg];exact Nat.le_succ _) (fun p _ hp=>by simp[hk,OK.fzAt] at hp) (fun ty' sz' fz' cs' e=>by cases e) (fun T' ι' H=>?_) (fun ty' fz' nl' L' e hge=>by simp only at hge;omega) (hsh:=.same rfl)
  refine .inr ⟨arr,fz,cap2,hmem,fun j hj=>b2 j hj,b3,h0,by rw[hcl2];exact Nat.min_le_right _ _,fun j d u hd hu=>?_⟩
  have hj:j<cs.length:=by have:=(List.getElem?_eq_some_iff.1 hd).1;omega
  exact(hlr2.2 j d u hd (by rw[List.getElem?_take,if_pos hj];exact hu)).mono H
 refine⟨.pointer (some ((⟨ι s,0*te.size,none⟩:Addr).add (i.toNat*inf.size))),w,ι,?_,hto,?_⟩
 ·simp[Instr.indexAt,asIntOf,run_underlying ht,hi0,hi1,run_size hinf]
 ·refine .eptr ⟨_,rfl⟩ (by simp[wrT,Tab.get_put]) fun ty2 fz2 nl2 L2 e2=>?_
  simp[wrT,Tab.get_put] at e2
  obtain⟨rfl,rfl,rfl,rfl⟩:=e2
  refine⟨rfl,by simp only;omega,?_⟩
  congr 2
  unfold Addr.add
  split
  ·rename_i e0;rw[hsz,e0];simp
  ·simp only[Addr.mk.injEq,true_and];rw[hsz];simp
end
def estepL (Γ:OrcT) (Λ:Lend) (P:Program) (opl:List Oper) (st:St) (o:Oper):Tr (V×Tab):=match aLit P opl st o with
 | some r=>Tr.needs r.1 (.ret (r.2.1,wrT st.o r.2.2))
 | none=>estep2 Γ Λ P st o
def step2 (Γ:OrcT) (Λ:Lend) (P:Program) (opl:List Oper) (st:St) (o:Oper):Tr St:=
 match guardT opl st o with
 | some false=>.of (st.set o.dst (.tup []))
 | some true=>(estepL Γ Λ P opl st o).bind fun r=>(normT opl o r.1).bind fun v=>.of (({ st with o:=r.2 }:St).set o.dst v)
 | none=>.fail
def steps2 (Γ:OrcT) (Λ:Lend) (P:Program) (opl:List Oper):List Oper→St→Tr St
 | [],st=>.ret st
 | o::r,st=>(step2 Γ Λ P opl st o).bind (steps2 Γ Λ P opl r)
section
variable {κ : Cx} {st : St} {a : Act} {w : World}
theorem step2_ok {Γ:OrcT} {Λ:Lend} (hΓ:GammaOk2 κ.P Γ.orc) (hrel:Rel κ st a w) {ops:Array Oper} {o:Oper} {st':St} (hx:(step2 Γ Λ κ.P ops.toList st o).run=some st') {K:Act→World→Prop} {Q:Exit→Act→World→Prop}
  (hK:∀a' w',Rel κ st' a' w'→K a' w'):if Region.wanted o (yielded ops a.tmps) then o.wp κ.P a w K Q else K (a.put o.dst undef) w:=by
 obtain⟨ι,h⟩:=hrel
 unfold step2 at hx
 split at hx
 ·rename_i hg
  rw[aguard_ok h (guardT_ok hg)]
  simp only[Bool.false_eq_true,if_false]
  exact hK _ _ ⟨ι,h.set (To.refl h) (by simpa using of_run hx) (.pure (.tup (vs:=[]) rfl (by simp)))⟩
 ·rename_i hg
  rw[aguard_ok h (guardT_ok hg)]
  simp only[if_true]
  obtain⟨⟨v,T'⟩,h1,h2⟩:=bind_run hx
  obtain⟨v',h3,h4⟩:=bind_run h2
  have hn:=normT_run h3
  try simp only at hn
  unfold estepL at h1
  split at h1
  ·rename_i r hl
   obtain⟨hb,h1⟩:=Tr.run_needs h1
   have:=ret_run h1
   injection this with e1 e2
   subst e1 e2
   obtain⟨dst,op,type,pos,after,guard⟩:=o
   unfold aLit at hl
   simp only at hl
   split at hl
   case h_2=>cases hl
   rename_i t sa ix
   split at hl
   case isFalse=>cases hl
   obtain⟨bs,v1,wr1⟩:=r
   obtain⟨cv,w',ι',hrun,hto,hv⟩:OpRes κ ι st.o a w ⟨dst,.indexAddr t (.tmp sa) ix,type,pos,after,guard⟩ v1 (wrT st.o wr1):=OpRes.of rfl (nLit_ok h (h.eval (.tmp sa)) (h.eval ix) hl hb)
   have fin:∀cv w' ι',To κ st.o ι w (wrT st.o wr1) ι' w'→Rv (wrT st.o wr1) ι' (Stable κ.D (wrT st.o wr1) ι' w') w' v1 cv→K (a.put dst cv) w':=fun cv w' ι' hto hv=>hK _ _ ⟨ι',h.set hto (of_run h4) (hn▸hv.norm)⟩
   unfold Oper.wp
   rcases hrun with hrun | ⟨hrun,rfl⟩
   ·rw[hrun];exact fin cv w' ι' hto hv
   ·rw[hrun];exact fin undef w' ι' hto hv
  ·exact estep2_ok hΓ h h1 fun cv w' ι' hto hv=>hK _ _ ⟨ι',h.set hto (of_run h4) (hn▸hv.norm)⟩
 ·cases hx
theorem steps2_ok {Γ:OrcT} {Λ:Lend} (hΓ:GammaOk2 κ.P Γ.orc) {ops:Array Oper} {Q:Exit→Act→World→Prop}:∀(l:List Oper) (st st':St) (a:Act) (w:World),(steps2 Γ Λ κ.P ops.toList l st).run=some st'→Rel κ st a w→
  (∀a' w',Rel κ st' a' w'→Q .normal a' w')→wpList κ.P ops Q l a w
 | [],st,st',a,w,hx,hr,hQ=>by
  have:=ret_run hx
  subst this
  exact wpList_nil (hQ a w hr)
 | o::r,st,st',a,w,hx,hr,hQ=>by
  obtain⟨s1,h1,h2⟩:=bind_run hx
  exact wpList_step fun K hK=>step2_ok hΓ hr h1 fun a' w' hr'=>hK _ _ (steps2_ok hΓ r s1 st' a' w' h2 hr' hQ)
end
def okBox:OK→Bool
 | .box _ _=>true
 | _=>false
def listed (r:V×List OK×List OK):V×List OK×List OK:=match r with
 | (.acc s g,lb',[.nrow ty false true L])=>if s=2000000∧g=0∧lb'.length≤1000 then(.lst L,lb',[]) else(.acc s g,lb',[.nrow ty false true L])
 | r=>r
theorem spec2_listed {P:Program} {f:FuncId} {args:List V} {lb lb':List OK} {ty:Nat} {fz nl:Bool} {L:TL} (h:Spec2 P f args lb (.acc 2000000 0) lb' [.nrow ty fz nl L]) (hl:lb'.length≤1000):Spec2 P f args lb (.lst L) lb' []:=by
 intro w cargs β S htr hargs
 refine(h w cargs β S htr hargs).mono fun e w'=>?_
 rintro⟨v,β',rfl,hk,htr',hv,hl2,hb1,hb2⟩
 have hg:∀t,t≠2000000→(tabU lb' []).get t=(tabU lb' [.nrow ty fz nl L]).get t:=fun t ht=>by
  rw[get_tabU,get_tabU]
  have:∀h:2000000≤t,([.nrow ty fz nl L]:List OK)[t-2000000]? = none:=fun h=>List.getElem?_eq_none (by simp only[List.length_singleton];omega)
  by_cases h:2000000≤t
  ·simp only[if_pos h,this h,List.getElem?_nil]
  ·simp only[if_neg h]
 have hn:lb'[2000000-1000000]? = none:=List.getElem?_eq_none (by omega)
 have hg1:(tabU lb' [.nrow ty fz nl L]).get 2000000=⟨0,.nrow ty fz nl L⟩:=by rw[get_tabU,if_pos (by omega),hn];rfl
 have hg2:(tabU lb' []).get 2000000=⟨0,.dead⟩:=by rw[get_tabU,if_pos (by omega),hn];rfl
 have hne:∀t,(tabU lb' []).live t→t≠2000000:=fun t ht e=>by subst e;simp only[Tab.live,hg2,OK.live] at ht
 have hlv:∀t,(tabU lb' []).live t→(tabU lb' [.nrow ty fz nl L]).live t:=fun t ht=>by
  have h1:=hne t ht
  simp only[Tab.live,hg t h1] at ht
  exact ht
 generalize hT1:tabU lb' [.nrow ty fz nl L]=T1 at *
 generalize hT2:tabU lb' []=T2 at *
 generalize hD:Dn S w.heap.size β lb lb'=D at *
 have hgen:∀t,(T1.get t).gen=(T2.get t).gen:=fun t=>by
  by_cases h:t=2000000
  ·rw[h,hg1,hg2]
  ·rw[hg t h]
 have hnd:∀t g k,T2.get t=⟨g,k⟩→k≠.dead→t≠2000000:=fun t g k hq hk e=>by
  subst e
  rw[hg2] at hq
  injection hq with _ hq
  exact hk hq.symm
 have H:Goes D T1 β' w' T2 β' w':=⟨fun p hp=>⟨⟨hp.1,hp.2.1,fun t ht he=>by rw[hg t (hne t ht)];exact hp.2.2 t (hlv t ht) he⟩,rfl⟩,fun t=>by rw[hgen];exact Nat.le_refl _,fun t ht _=>⟨hlv t ht,rfl⟩,
  fun t g' ty sz fz' cs' hq _=>by rw[hg t (hnd t _ _ hq (by simp))] at hq;exact⟨⟨_,_,_,hq⟩,fun arr ty1 fz hh=>⟨arr,ty1,fz,hh,rfl⟩⟩,
  fun t g' ty fz nl L hq _=>by rw[hg t (hnd t _ _ hq (by simp))] at hq;exact⟨⟨_,_,_,_,hq,rfl,rfl,rfl⟩,fun _ arr ty1 fz hh=>⟨arr,ty1,fz,hh,rfl⟩⟩⟩
 refine⟨v,β',rfl,hk,⟨fun t=>?_,fun t u ht hu he=>htr'.inj t u (hlv t ht) (hlv u hu) he,fun t ht=>htr'.lt t (hlv t ht)⟩,.pure (.lst ?_),hl2,fun j hj hlj=>hb1 j hj (hlv _ hlj),fun j hj=>by simp at hj⟩
 ·by_cases ht:t=2000000
  ·subst ht;rw[hg2];trivial
  ·rw[hg t ht];exact(htr'.ob t).mono H rfl
 ·cases hv with
  | pure h=>cases h
  | acc hv hgg hh=>
   obtain⟨e,l⟩:=L
   rcases hh ty fz nl _ hg1 with⟨hnl,hnil,p,rfl⟩ | ⟨hnn,ad,c,cap,arr,tb,fz1,rfl,hbk,hmem,has,hn1,hcap,hpl⟩
   ·simp only at hnil
    subst hnil
    cases p with
    | none=>exact .slz
    | some a=>exact .sl (vs:=[]) (Nat.le_refl _) (fun i u hi=>by simp at hi) rfl (fun i d u hd=>by simp[TL.cells] at hd)
   ·have hlive:T1.live 2000000:=by simp only[Tab.live,hg1];exact hnn
    have hob:=htr'.ob 2000000
    rw[hg1] at hob
    obtain⟨arr',fz',cap',b1,b2,b3,b4,b5,b6⟩:=hob.resolve_left hnn
    rw[hmem] at b1
    injection b1 with b1;injection b1 with q1 q2 q3;subst q1 q2 q3
    have hcl:=TL.cells_length ⟨e,l⟩
    have hsl:arr.toList.length=arr.size:=Array.length_toList
    simp only at hcl hn1 has b4
    have hle:l.length*e.size≤arr.size:=by rw[←hcl];exact b5
    refine .sl (vs:=arr.toList.take (l.length*e.size)) (by simp only;omega) (fun i u hi=>?_) (by rw[List.length_take,hcl];omega) (fun i d u hd hu=>?_)
    ·rw[List.getElem?_take] at hi
     split at hi
     case isFalse=>cases hi
     rename_i hi1
     have hl0:0<l.length:=Nat.pos_of_ne_zero fun h=>by rw[h] at hi1;simp at hi1
     have:=hpl (by omega);subst this
     have hadd:(⟨β' 2000000,0*e.size,none⟩:Addr).add i=⟨β' 2000000,i,none⟩:=by unfold Addr.add;split<;>simp_all
     rw[hadd]
     refine⟨⟨?_,htr'.lt _ hlive,fun t ht he=>absurd (htr'.inj t 2000000 (hlv t ht) hlive he) (hne t ht)⟩,?_⟩
     ·rw[←hD]
      rcases hb2 0 (by simp) hlive with q | ⟨j,a1,a2,a3⟩
      ·exact .inr (.inl q)
      ·exact .inr (.inr ⟨j,a1,a2,a3⟩)
     ·simp only[World.cell?,hmem]
      simpa using hi
    ·rw[List.getElem?_take] at hu
     split at hu
     case isFalse=>cases hu
     have hm:=List.mem_of_getElem? hd
     obtain⟨x,_,hx⟩:=List.mem_flatMap.1 hm
     exact((b6 i d u hd hu).pure_ (pure_cellsV _ _ _ hx)).mono H.st
def orc1 (Γ:OrcT):OrcT:=fun f xs lb=>
 if lb.all okBox=true then(Γ f xs lb).bind fun r=>if ((listed r).2.1.all okBox&&(listed r).2.2.all okFresh)=true then .ret (listed r) else .fail else .fail
theorem listed_ok {P:Program} {f:FuncId} {args:List V} {lb:List OK} {r:V×List OK×List OK} (h:Spec2 P f args lb r.1 r.2.1 r.2.2):Spec2 P f args lb (listed r).1 (listed r).2.1 (listed r).2.2:=by
 unfold listed
 split
 ·split
  ·rename_i hc
   obtain⟨rfl,rfl,hc⟩:=hc
   exact spec2_listed h hc
  ·exact h
 ·exact h
theorem spec_of2 {P:Program} {f:FuncId} {args:List V} {lb lb' lf:List OK} {res:V} (h:Spec2 P f args lb res lb' lf) (h1:lb'.all okBox=true) (h2:lf.all okFresh=true):Spec P f args lb res lb' lf:=by
 intro w cargs β S htr hargs
 refine(h w cargs β S htr hargs).mono fun e w'=>?_
 rintro⟨v,β',rfl,hk,htr',hv,hl,hb1,hb2⟩
 have hbox:∀(j:Nat) (k:OK),lb'[j]? = some k→okBox k=true:=fun j k hj=>List.all_eq_true.1 h1 k (List.mem_of_getElem? hj)
 have hnd:∀(j:Nat),lb'[j]?≠some .dead:=fun j hj=>by have:=hbox j _ hj;cases this
 have eD:Dn S w.heap.size β lb lb'=fun p=>S p∨w.heap.size≤p.block:=by
  funext p
  apply propext
  constructor
  ·rintro(q | q | ⟨j,q,_⟩)
   ·exact .inl q
   ·exact .inr q
   ·exact absurd q (hnd j)
  ·rintro(q | q)
   ·exact .inl q
   ·exact .inr (.inl q)
 rw[eD] at htr' hv
 have lb_live:∀j,j<lb.length→(tabU lb' lf).live (1000000+j):=fun j hj=>by
  have hj':j<lb'.length:=by omega
  have hkj:=List.getElem?_eq_getElem hj'
  simp only[Tab.live,get_tabU,show 1000000≤1000000+j from by omega,show 1000000+j-1000000=j from by omega,if_true,hkj]
  have:=hbox j _ hkj
  revert this
  cases lb'[j]<;>simp[okBox,OK.live]
 generalize hT:tabU lb' lf=T at *
 generalize hD:(fun p:Addr=>S p∨w.heap.size≤p.block)=D at *
 open Classical in
 obtain⟨β2,hβ,hβ2⟩:∃β2:Nat→Nat,(∀t,T.live t→β2 t=β' t)∧∀t,¬T.live t→β2 t=w.heap.size:=⟨fun t=>if T.live t then β' t else w.heap.size,fun t h=>if_pos h,fun t h=>if_neg h⟩
 have H:Goes D T β' w' T β2 w':=⟨fun p hp=>⟨⟨hp.1,hp.2.1,fun t ht he=>hp.2.2 t ht (by rw[←hβ t ht];exact he)⟩,rfl⟩,fun t=>Nat.le_refl _,fun t ht _=>⟨ht,hβ t ht⟩,
  fun t g' ty sz fz' cs' hq _=>⟨⟨_,_,_,hq⟩,fun arr ty1 fz hh=>⟨arr,ty1,fz,by have e:=hβ t (by simp only[Tab.live,hq,OK.live]);first | exact hh | (rw[e];exact hh) | (rw[e] at hh;exact hh),rfl⟩⟩,
  fun t g' ty fz nl L hq _=>⟨⟨_,_,_,_,hq,rfl,rfl,rfl⟩,fun hn arr ty1 fz hh=>⟨arr,ty1,fz,by have e:=hβ t (by simp only[Tab.live,hq,OK.live];exact hn);first | exact hh | (rw[e];exact hh) | (rw[e] at hh;exact hh),rfl⟩⟩⟩
 refine⟨v,β2,rfl,hk,⟨fun t=>?_,fun t u ht hu he=>htr'.inj t u ht hu (by rw[←hβ t ht,←hβ u hu];exact he),fun t ht=>by rw[hβ t ht];exact htr'.lt t ht⟩,hv.mono H,hl,fun j hj=>by rw[hβ _ (lb_live j hj)];exact hb1 j hj (lb_live j hj),fun j hj=>?_⟩
 ·by_cases hlv:T.live t
  ·rw[hβ t hlv];exact(htr'.ob t).mono H rfl
  ·cases hkk:(T.get t).k with
   | dead=>trivial
   | nrow ty fz nl L=>
    left
    by_cases hn:nl=true∧L.l=[]
    ·exact hn
    ·exact absurd (by simp only[Tab.live,hkk,OK.live];exact hn) hlv
   | _=>exact absurd (by simp[Tab.live,hkk,OK.live]) hlv
 ·by_cases hlive:T.live (2000000+j)
  ·rw[hβ _ hlive]
   rcases hb2 j hj hlive with q | ⟨i,q,_⟩
   ·exact q
   ·exact absurd q (hnd i)
  ·rw[hβ2 _ hlive];exact Nat.le_refl _
theorem orc1_ok {P:Program} {Γ:OrcT} (hΓ:GammaOk2 P Γ.orc):GammaOk P (orc1 Γ).orc:=by
 intro f xs lb res lb' lf h
 simp only[OrcT.orc,orc1] at h
 split at h
 ·obtain⟨q,h1,h2⟩:=bind_run h
  split at h2
  ·rename_i hc
   have:=ret_run h2
   simp only[Bool.and_eq_true] at hc
   obtain⟨a1,a2⟩:=hΓ f xs lb _ _ _ h1
   have a3:=listed_ok a1
   rw[this] at hc a3
   exact⟨spec_of2 a3 hc.1 hc.2,a2⟩
  ·cases h2
 ·cases h
mutual
theorem V.sw_still (x y:Nat):∀v:V,v.still=true→v.sw x y=v
 | .agg cs,h=>by simp only[V.still] at h;simp only[V.sw,swL_still x y cs h]
 | .tup cs,h=>by simp only[V.still] at h;simp only[V.sw,swL_still x y cs h]
 | .ifc _ v,h=>by simp only[V.still] at h;simp only[V.sw,V.sw_still x y v h]
 | .fn _ cs,h=>by simp only[V.still] at h;simp only[V.sw,swL_still x y cs h]
 | .undef,_ | .own _ _ _ _,h | .ptr _ _ _,h | .acc _ _,h | .eptr _ _ _ _ _,h | .nwin _ _ _ _,h | .mp _ _,h=>by first | rfl | simp[V.still] at h
 | .bool _,_ | .int _ _,_ | .str _,_ | .snil,_ | .sl _ _,_ | .cref _,_ | .pnil,_ | .inil,_ | .fnil,_ | .lst _,_ | .eref _ _,_ | .bs _,_ | .sz,_ | .nl _,_ | .si _,_=>rfl
theorem swL_still (x y:Nat):∀l:List V,stillL l=true→swL x y l=l
 | [],_=>rfl
 | v::r,h=>by
  simp only[stillL,Bool.and_eq_true] at h
  simp only[swL,V.sw_still x y v h.1,swL_still x y r h.2]
end
theorem spill1_get {st:St} {d t:Nat} (h:(st.get t).still=true):(spill1 st d).get t=st.get t:=by
 unfold spill1
 split
 ·rw[St.get_sw];exact V.sw_still _ _ _ h
 ·rfl
theorem spill1_n {st:St} {d:Nat}:(spill1 st d).n=st.n∧(st.g=[]→(spill1 st d).g=[]):=by
 unfold spill1
 split
 ·exact⟨rfl,fun h=>by simp[St.sw,h,swL]⟩
 ·exact⟨rfl,id⟩
theorem spillL_get:∀(l:List Nat) (st:St),(l.foldl spill1 st).n=st.n∧(st.g=[]→(l.foldl spill1 st).g=[])∧∀t,(st.get t).still=true→(l.foldl spill1 st).get t=st.get t
 | [],st=>⟨rfl,id,fun _ _=>rfl⟩
 | d::r,st=>by
  obtain⟨h1,h2,h3⟩:=spillL_get r (spill1 st d)
  have h0:=spill1_n (st:=st) (d:=d)
  simp only[List.foldl_cons]
  exact⟨h1.trans h0.1,fun h=>h2 (h0.2 h),fun t ht=>by rw[h3 t (by rw[spill1_get ht];exact ht),spill1_get ht]⟩
theorem spill_get:∀(ops:List Oper) (st:St),(spill st ops).n=st.n∧(st.g=[]→(spill st ops).g=[])∧∀t,(st.get t).still=true→(spill st ops).get t=st.get t
 | [],st=>⟨rfl,id,fun _ _=>rfl⟩
 | o::r,st=>by
  have e:spill st (o::r)=spill ((makes o).foldl spill1 st) r:=rfl
  obtain⟨a1,a2,a3⟩:=spillL_get (makes o) st
  obtain⟨h1,h2,h3⟩:=spill_get r ((makes o).foldl spill1 st)
  rw[e]
  exact⟨h1.trans a1,fun h=>h2 (a2 h),fun t ht=>by rw[h3 t (by rw[a3 t ht];exact ht),a3 t ht]⟩
def regionT2 (Γ:OrcT) (Λ:Lend) (P:Program) (ops:Array Oper) (draw:Bool) (st:St):Tr St:=
 if draw=true then regionT (orc1 Γ) P ops draw st else steps2 Γ Λ P ops.toList ops.toList (spill st ops.toList)
theorem HT.regionT2 {κ:Cx} {Γ:OrcT} {Λ:Lend} (hΓ:GammaOk2 κ.P Γ.orc) (hm:κ.P.follows .mixedOrders=true) {id:Nat} {ops:Array Oper} {draw:Bool} (htmp:(!draw||tmpsOk ops.toList)=true) {Q:Exit→St→Prop} {st st':St}
  (hx:(Abs.regionT2 Γ Λ κ.P ops draw st).run=some st') (h:Q .normal st'):HT κ (.region id ops draw) Q st:=by
 unfold Abs.regionT2 at hx
 cases draw with
 | true=>
  simp only[if_true] at hx
  exact HT.regionT (orc1_ok hΓ) hm htmp hx h
 | false=>
  simp only[Bool.false_eq_true,if_false] at hx
  exact fun a w hr=>wp_region_list (steps2_ok hΓ ops.toList _ st' a w hx (hr.spill ops.toList) fun a' w' hr'=>⟨st',h,hr'⟩)
end Go.Abs
