/- The values, objects and states of an abstract machine beside the model's own, and how they stand to it. -/
import Derived.Orders
import Derived.Below
import Derived.Laws.Rows
import Derived.Laws.Append
import Derived.MapKept
import Derived.Laws.Entries
import Derived.Laws.CopyRow
import Derived.Laws.MakeOwn
namespace Go.Abs
open Go.RowKit
set_option linter.unusedVariables false
set_option linter.unusedSimpArgs false
inductive Ty where
 | int (k:IntKind)
 | bool
 | str
 | list (e:Ty)
 | unit
 | pair (a b:Ty)
 | agg (t:Ty)
 | alt (t:Nat) (a r:Ty)
 | alt1 (t:Nat) (a:Ty)
 | inil
 deriving DecidableEq
@[reducible] def Ty.I:Ty→Type
 | .int _=>Int
 | .bool=>Bool
 | .str=>List UInt8
 | .list e=>List e.I
 | .unit=>Unit
 | .pair a b=>a.I×b.I
 | .agg t=>t.I
 | .alt _ a r=>a.I⊕r.I
 | .alt1 _ a=>a.I
 | .inil=>Unit
structure TL where
 e:Ty
 l:List e.I
structure TM where
 e:Ty
 l:List (Int×e.I)
structure TX where
 e:Ty
 x:e.I
def Ty.size:Ty→Nat
 | .int _ | .bool | .str | .list _=>1
 | .unit=>0
 | .pair a b=>a.size+b.size
 | .agg t=>t.size
 | .alt _ _ _ | .alt1 _ _ | .inil=>1
inductive V where
 | undef
 | bool (b:Bool)
 | int (k:IntKind) (n:Int)
 | str (s:List UInt8)
 | snil
 | sl (n:Nat) (cells:List V)
 | cref (cells:List V)
 | own (t g off n:Nat)
 | ptr (t g off:Nat)
 | pnil
 | agg (cs:List V)
 | tup (vs:List V)
 | ifc (t:Nat) (v:V)
 | inil
 | fn (f:Nat) (caps:List V)
 | fnil
 | lst (L:TL)
 | eref (X:TX) (off:Nat)
 | eptr (t g sz i off:Nat)
 | acc (t g:Nat)
 | bs (b:Bool)
 | sz
 | nl (L:TL)
 | si (X:TX)
 | nwin (t g off n:Nat)
 | mp (t g:Nat)
def vOf:Ty→List V→V
 | .agg _,cs=>.agg cs
 | _,cs=>cs.headD .pnil
def cellsV:(t:Ty)→t.I→List V
 | .int k,n=>[.int k n]
 | .bool,b=>[.bool b]
 | .str,s=>[.str s]
 | .list e,l=>[.sl l.length (l.flatMap (cellsV e))]
 | .unit,_=>[]
 | .pair a b,x=>cellsV a x.1++cellsV b x.2
 | .agg t,x=>cellsV t x
 | .alt t a r,x=>match x with
  | .inl y=>[.ifc t (vOf a (cellsV a y))]
  | .inr z=>[(cellsV r z).headD .pnil]
 | .alt1 t a,x=>[.ifc t (vOf a (cellsV a x))]
 | .inil,_=>[.inil]
def Ty.dflt:(t:Ty)→t.I
 | .int _=>(0:Int)
 | .bool=>false
 | .str=>([]:List UInt8)
 | .list _=>[]
 | .unit=>()
 | .pair a b=>(a.dflt,b.dflt)
 | .agg t=>t.dflt
 | .alt _ a _=>.inl a.dflt
 | .alt1 _ a=>a.dflt
 | .inil=>()
def cellsW:(t:Ty)→t.I→List V
 | .int k,n=>[.int k n]
 | .bool,b=>[.bs b]
 | .str,s=>[.str s]
 | .list e,l=>[.lst ⟨e,l⟩]
 | .unit,_=>[]
 | .pair a b,x=>cellsW a x.1++cellsW b x.2
 | .agg t,x=>cellsW t x
 | .alt t a r,x=>[.si ⟨.alt t a r,x⟩]
 | .alt1 t a,x=>[.ifc t (vOf a (cellsW a x))]
 | .inil,_=>[.inil]
def valW:(t:Ty)→t.I→V
 | .int k,n=>.int k n
 | .bool,b=>.bs b
 | .str,s=>.str s
 | .list e,l=>.lst ⟨e,l⟩
 | .agg t,x=>.agg (cellsW t x)
 | .alt t a r,x=>.si ⟨.alt t a r,x⟩
 | .alt1 t a,x=>.ifc t (vOf a (cellsW a x))
 | .inil,_=>.inil
 | _,_=>.undef
theorem qf:∀(t:Ty) (x:t.I),(cellsV t x).length=t.size
 | .int _,_ | .bool,_ | .str,_ | .list _,_ | .unit,_=>rfl
 | .pair a b,x=>by simp[cellsV,Ty.size,qf a x.1,qf b x.2]
 | .agg t,x=>qf t x
 | .alt _ _ _,x=>by cases x<;>rfl
 | .alt1 _ _,_ | .inil,_=>rfl
def TL.cells (L:TL):List V:=L.l.flatMap (cellsV L.e)
theorem qn (e:Ty):∀l:List e.I,(l.flatMap (cellsV e)).length=l.length*e.size
 | []=>by simp
 | x::r=>by simp only[List.flatMap_cons,List.length_append,List.length_cons,qf,qn e r,Nat.succ_mul];omega
theorem TL.cells_length (L:TL):L.cells.length=L.l.length*L.e.size:=qn L.e L.l
def V.cells:V→List V
 | .agg cs=>cs
 | v=>[v]
def V.cellOk:V→Bool
 | .agg _ | .tup _ | .undef=>false
 | _=>true
inductive OK where
 | dead
 | box (ty:Nat) (cs:List V)
 | row (ty sz:Nat) (fz:Bool) (cs:List V)
 | iter (s:List UInt8) (pos:Nat)
 | nrow (ty:Nat) (fz nl:Bool) (L:TL)
 | mp (M:TM)
structure Ob where
 gen:Nat
 k:OK
def aget {α:Type} (d:α):List (Nat×α)→Nat→α
 | [],_=>d
 | (k,v)::r,t=>if k=t then v else aget d r t
def jQ {α:Type} (t:Nat) (v:α):List (Nat×α)→List (Nat×α)
 | []=>[(t,v)]
 | (k,x)::r=>if k=t then(t,v)::r else(k,x)::jQ t v r
theorem jz {α:Type} (d v:α) (t u:Nat):∀l:List (Nat×α),aget d (jQ t v l) u=if t=u then v else aget d l u
 | []=>by simp[jQ,aget]
 | (k,x)::r=>by
  by_cases hk:k=t
  ·subst hk;by_cases hu:k=u<;>simp[jQ,aget,hu]
  ·by_cases hu:k=u
   ·subst hu;simp[jQ,aget,hk,Ne.symm hk]
   ·simp[jQ,aget,hk,hu,jz d v t u r]
abbrev Tab:=List (Nat×Ob)
def Tab.get (T:Tab) (t:Nat):Ob:=aget ⟨0,.dead⟩ T t
def Tab.put (T:Tab) (t:Nat) (o:Ob):Tab:=jQ t o T
theorem Tab.get_put (T:Tab) (t u:Nat) (o:Ob):(T.put t o).get u=if t=u then o else T.get u:=jz _ _ _ _ _
def OK.live:OK→Prop
 | .dead=>False
 | .nrow _ _ nl L=>¬(nl=true∧L.l=[])
 | _=>True
def Tab.live (T:Tab) (t:Nat):Prop:=(T.get t).k.live
def OK.fzAt:OK→Nat→Prop
 | .row _ _ true cs,o=>o<cs.length
 | .nrow _ true _ L,o=>o<L.l.length*L.e.size
 | _,_=>False
def Stable (D:Addr→Prop) (T:Tab) (ι:Nat→Nat) (w:World) (p:Addr):Prop:=
 D p∧p.block<w.heap.size∧∀t,T.live t→ι t=p.block→(T.get t).k.fzAt p.off
inductive Rp (S:Addr→Prop) (w:World):V→Value→Prop
 | bool (b):Rp S w (.bool b) (.bool b)
 | int (k n):Rp S w (.int k n) (.int k n)
 | str (b:ByteArray) (s:List UInt8) (h:b.data.toList=s):Rp S w (.str s) (.string b)
 | snil:Rp S w .snil (.slice none 0 0)
 | sl {n:Nat} {cells:List V} {a:Addr} {c:Nat} {vs:List Value} (hc:n≤c)
   (hm:∀(i:Nat) (u:Value),vs[i]? = some u→S (a.add i)∧w.cell? (a.add i)=some u) (hl:cells.length=vs.length)
   (h:∀(i:Nat) (d:V) (u:Value),cells[i]? = some d→vs[i]? = some u→Rp S w d u):Rp S w (.sl n cells) (.slice (some a) n c)
 | slz:Rp S w (.sl 0 []) (.slice none 0 0)
 | sz {p:Option Addr}:Rp S w .sz (.slice p 0 0)
 | bs {b:Bool} {v:Value} (h:Rp S w (.bool b) v):Rp S w (.bs b) v
 | lst {L:TL} {v:Value} (h:Rp S w (.sl L.l.length L.cells) v):Rp S w (.lst L) v
 | nl {L:TL} {a:Addr} {len cap:Nat} (h:Rp S w (.lst L) (.slice (some a) len cap)):Rp S w (.nl L) (.slice (some a) len cap)
 | si {X:TX} {v:Value} (h:Rp S w ((cellsV X.e X.x).headD .pnil) v):Rp S w (.si X) v
 | eref {X:TX} {off:Nat} {v:Value} (h:Rp S w (.cref ((cellsV X.e X.x).drop off)) v):Rp S w (.eref X off) v
 | cref {cells:List V} {a:Addr} {vs:List Value}
   (hm:∀(i:Nat) (u:Value),vs[i]? = some u→S (a.add i)∧w.cell? (a.add i)=some u) (hl:cells.length=vs.length)
   (h:∀(i:Nat) (d:V) (u:Value),cells[i]? = some d→vs[i]? = some u→Rp S w d u):Rp S w (.cref cells) (.pointer (some a))
 | pnil:Rp S w .pnil (.pointer none)
 | agg {cs:List V} {vs:List Value} (hl:cs.length=vs.length) (h:∀(i:Nat) (d:V) (u:Value),cs[i]? = some d→vs[i]? = some u→Rp S w d u):
   Rp S w (.agg cs) (.agg ⟨vs⟩)
 | tup {cs:List V} {vs:List Value} (hl:cs.length=vs.length) (h:∀(i:Nat) (d:V) (u:Value),cs[i]? = some d→vs[i]? = some u→Rp S w d u):
   Rp S w (.tup cs) (.tuple ⟨vs⟩)
 | ifc {t:Nat} {d:V} {u:Value} (h:Rp S w d u):Rp S w (.ifc t d) (.iface t u)
 | inil:Rp S w .inil .nilIface
 | fn {f:Nat} {cs:List V} {vs:List Value} (hl:cs.length=vs.length) (h:∀(i:Nat) (d:V) (u:Value),cs[i]? = some d→vs[i]? = some u→Rp S w d u):
   Rp S w (.fn f cs) (.func (.func f) #[] ⟨vs⟩)
 | fnil:Rp S w .fnil .nilFunc
def Own (w:World) (b sz off n:Nat) (v:Value):Prop:=
 ∃a c cap arr ty fz,v=.slice (some a) n c∧a.block=b∧w.heap[b]? = some (.cells arr ty fz)∧arr.size=cap*sz∧off+n≤cap∧off+c=cap∧
  (c≠0→a=⟨b,off*sz,none⟩)
inductive Rv (T:Tab) (ι:Nat→Nat) (S:Addr→Prop) (w:World):V→Value→Prop
 | pure {d:V} {v:Value} (h:Rp S w d v):Rv T ι S w d v
 | undef (v:Value):Rv T ι S w .undef v
 | own {t g off n:Nat} {v:Value} (hv:∃a c,v=.slice (some a) n c) (hg:g≤(T.get t).gen) (h:∀ty sz fz cs,T.get t=⟨g,.row ty sz fz cs⟩→Own w (ι t) sz off n v):
   Rv T ι S w (.own t g off n) v
 | ptr {t g off:Nat} {v:Value} (hv:∃a,v=.pointer (some a)) (hg:g≤(T.get t).gen) (h:(T.get t).gen=g→T.live t→v=.pointer (some ⟨ι t,off,none⟩)):
   Rv T ι S w (.ptr t g off) v
 | acc {t g:Nat} {v:Value} (hv:∃p n c,v=.slice p n c) (hg:g≤(T.get t).gen)
   (h:∀ty fz nl L,T.get t=⟨g,.nrow ty fz nl L⟩→(nl=true∧L.l=[]∧∃p,v=.slice p 0 0)∨(¬(nl=true∧L.l=[])∧Own w (ι t) L.e.size 0 L.l.length v)):
   Rv T ι S w (.acc t g) v
 | eptr {t g sz i off:Nat} {v:Value} (hv:∃a,v=.pointer (some a)) (hg:g≤(T.get t).gen)
   (h:∀ty fz nl L,T.get t=⟨g,.nrow ty fz nl L⟩→sz=L.e.size∧i<L.l.length∧v=.pointer (some ⟨ι t,i*sz+off,none⟩)):Rv T ι S w (.eptr t g sz i off) v
 | nwin {t g off n:Nat} {v:Value} (hv:∃p n c,v=.slice p n c) (hg:g≤(T.get t).gen)
   (h:∀ty fz nl L,T.get t=⟨g,.nrow ty fz nl L⟩→off+n≤L.l.length∧((nl=true∧L.l=[]∧∃p,v=.slice p 0 0)∨(¬(nl=true∧L.l=[])∧Own w (ι t) L.e.size off n v))):
   Rv T ι S w (.nwin t g off n) v
 | mp {t g:Nat} {v:Value} (hv:∃r,v=.map (some r)) (hg:g≤(T.get t).gen) (h:(T.get t).gen=g→T.live t→v=.map (some (ι t))):Rv T ι S w (.mp t g) v
 | agg {cs:List V} {vs:List Value} (hl:cs.length=vs.length) (h:∀(i:Nat) (d:V) (u:Value),cs[i]? = some d→vs[i]? = some u→Rv T ι S w d u):
   Rv T ι S w (.agg cs) (.agg ⟨vs⟩)
 | tup {cs:List V} {vs:List Value} (hl:cs.length=vs.length) (h:∀(i:Nat) (d:V) (u:Value),cs[i]? = some d→vs[i]? = some u→Rv T ι S w d u):
   Rv T ι S w (.tup cs) (.tuple ⟨vs⟩)
 | ifc {t:Nat} {d:V} {u:Value} (h:Rv T ι S w d u):Rv T ι S w (.ifc t d) (.iface t u)
 | fn {f:Nat} {cs:List V} {vs:List Value} (hl:cs.length=vs.length) (h:∀(i:Nat) (d:V) (u:Value),cs[i]? = some d→vs[i]? = some u→Rv T ι S w d u):
   Rv T ι S w (.fn f cs) (.func (.func f) #[] ⟨vs⟩)
def ObRel (T:Tab) (ι:Nat→Nat) (S:Addr→Prop) (w:World) (b:Nat):OK→Prop
 | .dead=>True
 | .box ty cs=>∃arr fz,w.heap[b]? = some (.cells arr ty fz)∧(∀i,i<arr.size→¬(fz.1≤i∧i<fz.2))∧arr.size=cs.length∧
   ∀(i:Nat) (d:V) (u:Value),cs[i]? = some d→arr.toList[i]? = some u→Rv T ι S w d u
 | .row ty sz _ cs=>∃arr fz cap,w.heap[b]? = some (.cells arr ty fz)∧(∀i,(i<arr.size∨(sz≠1∧i≤arr.size))→¬(fz.1≤i∧i<fz.2))∧arr.size=cap*sz∧0<sz∧
   cs.length≤arr.size∧∀(i:Nat) (d:V) (u:Value),cs[i]? = some d→arr.toList[i]? = some u→Rv T ι S w d u
 | .iter s pos=>w.heap[b]? = some (.stringIter ⟨⟨s⟩⟩ pos)
 | .mp M=>∃es clock,w.heap[b]? = some (.map es clock)∧es.size=M.l.length∧∀(i:Nat) (p:Int×M.e.I) (x:MapEntry),M.l[i]? = some p→es.toList[i]? = some x→
   x.key=.int .i64 p.1∧Rp S w (vOf M.e (cellsV M.e p.2)) x.val
 | .nrow ty _ nl L=>(nl=true∧L.l=[])∨∃arr fz cap,w.heap[b]? = some (.cells arr ty fz)∧(∀i,(i<arr.size∨(L.e.size≠1∧i≤arr.size))→¬(fz.1≤i∧i<fz.2))∧arr.size=cap*L.e.size∧0<L.e.size∧
   L.cells.length≤arr.size∧∀(i:Nat) (d:V) (u:Value),L.cells[i]? = some d→arr.toList[i]? = some u→Rv T ι S w d u
structure TR (D:Addr→Prop) (T:Tab) (ι:Nat→Nat) (w:World):Prop where
 ob:∀t,ObRel T ι (Stable D T ι w) w (ι t) (T.get t).k
 inj:∀t u,T.live t→T.live u→ι t=ι u→t=u
 lt:∀t,T.live t→ι t<w.heap.size
def Shape (w w':World) (k:Nat):Prop:=∀arr ty fz,w.heap[k]? = some (.cells arr ty fz)→∃arr' ty' fz',w'.heap[k]? = some (.cells arr' ty' fz')∧arr'.size=arr.size
theorem Shape.same {w w':World} {k:Nat} (h:w'.heap[k]? = w.heap[k]?):Shape w w' k:=fun arr ty fz e=>⟨arr,ty,fz,h.trans e,rfl⟩
theorem Shape.of {w w':World} {k ty ty':Nat} {arr arr':Array Value} {fz fz':Nat×Nat} (h:w.heap[k]? = some (.cells arr ty fz)) (h':w'.heap[k]? = some (.cells arr' ty' fz')) (hs:arr'.size=arr.size):Shape w w' k:=
 fun a t f e=>by grind
theorem Shape.trans {a b c:World} {k:Nat} (h:Shape a b k) (h':Shape b c k):Shape a c k:=fun arr ty fz e=>by
 obtain⟨a1,t1,f1,e1,s1⟩:=h arr ty fz e
 (obtain⟨a2,t2,f2,e2,s2⟩:=h' a1 t1 f1 e1<;>grind)
structure Kept (X:Nat→Prop) (w w':World):Prop where
 os:w'.os=w.os
 tape:w'.tape=w.tape
 output:w'.output=w.output
 size:w.heap.size≤w'.heap.size
 block:∀k,k<w.heap.size→¬X k→w'.heap[k]? = w.heap[k]?
 shape:∀k,k<w.heap.size→Shape w w' k
theorem Kept.refl (X:Nat→Prop) (w:World):Kept X w w:=⟨rfl,rfl,rfl,Nat.le_refl _,fun _ _ _=>rfl,fun _ _=>.same rfl⟩
theorem Kept.trans {X:Nat→Prop} {a b c:World} (h:Kept X a b) (k:Kept X b c):Kept X a c:=
 ⟨k.os.trans h.os,k.tape.trans h.tape,k.output.trans h.output,Nat.le_trans h.size k.size,fun i hi hx=>(k.block i (Nat.lt_of_lt_of_le hi h.size) hx).trans (h.block i hi hx),fun i hi=>(h.shape i hi).trans (k.shape i (Nat.lt_of_lt_of_le hi h.size))⟩
theorem Kept.mono {X Y:Nat→Prop} {a b:World} (h:Kept X a b) (hxy:∀k,k<a.heap.size→X k→Y k):Kept Y a b:=
 ⟨h.os,h.tape,h.output,h.size,fun i hi hy=>h.block i hi (fun hx=>hy (hxy i hi hx)),h.shape⟩
theorem Kept.below {w w':World} (h:Kept (fun _=>False) w w'):Below w.heap.size w w':=
 ⟨h.os,h.tape,h.output,h.size,fun k hk=>h.block k hk id⟩
theorem Kept.then {X Y:Nat→Prop} {a b c:World} (h:Kept X a b) (k:Kept Y b c) (hy:∀i,i<b.heap.size→Y i→a.heap.size≤i∨X i):Kept X a c:=
 ⟨k.os.trans h.os, k.tape.trans h.tape, k.output.trans h.output, Nat.le_trans h.size k.size, fun i hi hx =>
  (k.block i (Nat.lt_of_lt_of_le hi h.size) (fun y=>by rcases hy i (Nat.lt_of_lt_of_le hi h.size) y with h1 | h1;exact absurd hi (by omega);exact hx h1)).trans (h.block i hi hx),fun i hi=>(h.shape i hi).trans (k.shape i (Nat.lt_of_lt_of_le hi h.size))⟩
theorem cell_congr {w w':World} {a:Addr} (h:w'.heap[a.block]? = w.heap[a.block]?):w'.cell? a=w.cell? a:=World.cell?_of_block h
theorem block_add (a:Addr) (n:Nat):(a.add n).block=a.block:=by grind[Addr.add]
theorem add_add (a:Addr) (i j:Nat):(a.add i).add j=a.add (i+j):=by
 grind[Addr.add]
theorem Rp.mono {S S':Addr→Prop} {w w':World} (hs:∀p,S p→S' p∧w'.cell? p=w.cell? p) {d:V} {v:Value} (h:Rp S w d v):Rp S' w' d v:=by
 induction h with
 | bool b=>exact .bool b
 | int k n=>exact .int k n
 | str b s h=>exact .str b s h
 | snil=>exact .snil
 | sl hc hm hl h ih=>exact .sl hc (fun i u hu=>⟨(hs _ (hm i u hu).1).1,((hs _ (hm i u hu).1).2).trans (hm i u hu).2⟩) hl ih
 | slz=>exact .slz
 | sz=>exact .sz
 | nl h ih=>exact .nl ih
 | bs h ih=>exact .bs ih
 | lst h ih=>exact .lst ih
 | si h ih=>exact .si ih
 | eref h ih=>exact .eref ih
 | cref hm hl h ih=>exact .cref (fun i u hu=>⟨(hs _ (hm i u hu).1).1,((hs _ (hm i u hu).1).2).trans (hm i u hu).2⟩) hl ih
 | pnil=>exact .pnil
 | agg hl h ih=>exact .agg hl ih
 | tup hl h ih=>exact .tup hl ih
 | ifc h ih=>exact .ifc ih
 | inil=>exact .inil
 | fn hl h ih=>exact .fn hl ih
 | fnil=>exact .fnil
structure Goes (D:Addr→Prop) (T:Tab) (ι:Nat→Nat) (w:World) (T':Tab) (ι':Nat→Nat) (w':World):Prop where
 st:∀p,Stable D T ι w p→Stable D T' ι' w' p∧w'.cell? p=w.cell? p
 gen:∀t,(T.get t).gen≤(T'.get t).gen
 same:∀t,T'.live t→(T'.get t).gen=(T.get t).gen→T.live t∧ι' t=ι t
 row:∀t g ty sz fz' cs',T'.get t=⟨g,.row ty sz fz' cs'⟩→(T.get t).gen=g→(∃ty' fz cs,T.get t=⟨g,.row ty' sz fz cs⟩)∧
  ∀arr ty1 fz,w.heap[ι t]? = some (.cells arr ty1 fz)→∃arr' ty2 fz',w'.heap[ι t]? = some (.cells arr' ty2 fz')∧arr'.size=arr.size
 nrow:∀t g ty fz nl L,T'.get t=⟨g,.nrow ty fz nl L⟩→(T.get t).gen=g→(∃ty0 fz0 nl0 L0,T.get t=⟨g,.nrow ty0 fz0 nl0 L0⟩∧L0.e=L.e∧L0.l.length=L.l.length∧nl0=nl)∧(¬(nl=true∧L.l=[])→
  ∀arr ty1 fz,w.heap[ι t]? = some (.cells arr ty1 fz)→∃arr' ty2 fz',w'.heap[ι t]? = some (.cells arr' ty2 fz')∧arr'.size=arr.size)
theorem Goes.refl (D:Addr→Prop) (T:Tab) (ι:Nat→Nat) (w:World):Goes D T ι w T ι w:=
 ⟨fun _ h => ⟨h, rfl⟩, fun _ => Nat.le_refl _, fun _ h _ => ⟨h, rfl⟩, fun t g ty sz fz' cs' h _ => ⟨⟨ty, fz', cs', h⟩, fun arr ty1 fz h => ⟨arr, ty1, fz, h, rfl⟩⟩,
  fun t g ty fz nl L h _=>⟨⟨ty,fz,nl,L,h,rfl,rfl,rfl⟩,fun _ arr ty1 fz h=>⟨arr,ty1,fz,h,rfl⟩⟩⟩
theorem Rv.mono {D:Addr→Prop} {T T':Tab} {ι ι':Nat→Nat} {w w':World} (H:Goes D T ι w T' ι' w') {d:V} {v:Value}
  (h:Rv T ι (Stable D T ι w) w d v):Rv T' ι' (Stable D T' ι' w') w' d v:=by
 induction h with
 | pure h=>exact .pure (h.mono H.st)
 | undef v=>exact .undef v
 | @own t g off n v hv hg h=>
  refine .own hv (Nat.le_trans hg (H.gen t)) fun ty sz fz' cs' hT=>?_
  by_cases hgen:(T.get t).gen=g
  ·obtain⟨⟨ty',fz0,cs,hcs⟩,harr⟩:=H.row t g ty sz fz' cs' hT hgen
   have hl:T'.live t:=by simp[Tab.live,hT,OK.live]
   obtain⟨_,hι⟩:=H.same t hl (by rw[hgen,hT])
   obtain⟨a,c,cap,arr,ty1,fz,rfl,ha,hh,hsz,h1,h2,h3⟩:=h ty' sz fz0 cs hcs
   obtain⟨arr',ty2,fz',hh',hsz'⟩:=harr arr ty1 fz hh
   rw[hι]
   exact⟨a,c,cap,arr',ty2,fz',rfl,ha,hh',by omega,h1,h2,h3⟩
  ·have h1:=H.gen t
   grind
 | @ptr t g off v hv hg h=>
  refine .ptr hv (Nat.le_trans hg (H.gen t)) fun hg' hl=>?_
  have h1:=H.gen t
  have hgen:(T.get t).gen=g:=by omega
  (obtain⟨hl',hι⟩:=H.same t hl (by omega)<;>grind)
 | @acc t g v hv hg h=>
  refine .acc hv (Nat.le_trans hg (H.gen t)) fun ty fz nl L hT=>?_
  by_cases hgen:(T.get t).gen=g
  ·obtain⟨⟨ty0,fz0,nl0,L0,e0,e1,e2,e3⟩,harr⟩:=H.nrow t g ty fz nl L hT hgen
   rcases h _ _ _ _ e0 with⟨a1,a2,a3⟩ | ⟨hn,ho⟩
   ·grind
   ·have hn':¬(nl=true∧L.l=[]):=fun⟨b1,b2⟩=>hn ⟨e3▸b1,List.eq_nil_of_length_eq_zero (by rw[e2,b2];rfl)⟩
    refine .inr ⟨hn',?_⟩
    have hl:T'.live t:=by grind[Tab.live,OK.live]
    obtain⟨_,hι⟩:=H.same t hl (by rw[hgen,hT])
    obtain⟨a,c,cap,arr,ty1,fz1,rfl,ha,hh,hsz,h1,h2,h3⟩:=ho
    obtain⟨arr',ty2,fz',hh',hsz'⟩:=harr hn' arr ty1 fz1 hh
    rw[hι]
    exact⟨a,c,cap,arr',ty2,fz',by rw[e2],ha,hh',by rw[hsz',hsz,e1],by omega,h2,by grind⟩
  ·have h1:=H.gen t
   grind
 | @nwin t g off n v hv hg h=>
  refine .nwin hv (Nat.le_trans hg (H.gen t)) fun ty fz nl L hT=>?_
  by_cases hgen:(T.get t).gen=g
  ·obtain⟨⟨ty0,fz0,nl0,L0,e0,e1,e2,e3⟩,harr⟩:=H.nrow t g ty fz nl L hT hgen
   obtain⟨hle,hh⟩:=h _ _ _ _ e0
   refine⟨by omega,?_⟩
   rcases hh with⟨a1,a2,a3⟩ | ⟨hn,ho⟩
   ·grind
   ·have hn':¬(nl=true∧L.l=[]):=fun⟨b1,b2⟩=>hn ⟨e3▸b1,List.eq_nil_of_length_eq_zero (by rw[e2,b2];rfl)⟩
    refine .inr ⟨hn',?_⟩
    have hl:T'.live t:=by grind[Tab.live,OK.live]
    obtain⟨_,hι⟩:=H.same t hl (by rw[hgen,hT])
    obtain⟨a,c,cap,arr,ty1,fz1,rfl,ha,hh,hsz,h1,h2,h3⟩:=ho
    obtain⟨arr',ty2,fz',hh',hsz'⟩:=harr hn' arr ty1 fz1 hh
    rw[hι]
    exact⟨a,c,cap,arr',ty2,fz',rfl,ha,hh',by grind,h1,h2,by grind⟩
  ·have h1:=H.gen t
   grind
 | @eptr t g sz i off v hv hg h=>
  refine .eptr hv (Nat.le_trans hg (H.gen t)) fun ty fz nl L hT=>?_
  have h1:=H.gen t
  have hgg:(T'.get t).gen=g:=by rw[hT]
  have hgen:(T.get t).gen=g:=by omega
  obtain⟨⟨ty0,fz0,nl0,L0,e0,e1,e2,e3⟩,harr⟩:=H.nrow t g ty fz nl L hT hgen
  obtain⟨a1,a2,a3⟩:=h _ _ _ _ e0
  have hl:T'.live t:=by
   grind[Tab.live,OK.live]
  (obtain⟨_,hι⟩:=H.same t hl (by omega)<;>grind)
 | @mp t g v hv hg h=>
  refine .mp hv (Nat.le_trans hg (H.gen t)) fun hg' hl=>?_
  have h1:=H.gen t
  have hgen:(T.get t).gen=g:=by omega
  (obtain⟨hl',hι⟩:=H.same t hl (by omega)<;>grind)
 | agg hl h ih=>exact .agg hl ih
 | tup hl h ih=>exact .tup hl ih
 | ifc h ih=>exact .ifc ih
 | fn hl h ih=>exact .fn hl ih
theorem Goes.site {D:Addr→Prop} {T:Tab} {ι:Nat→Nat} {w w':World} (htr:TR D T ι w) (s b:Nat) (o:Ob)
  (hb:(T.live s∧b=ι s)∨w.heap.size≤b) (hw:w.heap.size≤w'.heap.size) (hk:∀i,i≠b→i<w.heap.size→w'.heap[i]? = w.heap[i]?)
  (hgen:(T.get s).gen≤o.gen) (hsame:o.gen=(T.get s).gen→o.k.live→T.live s∧b=ι s)
  (hfz:b=ι s→T.live s→∀p:Addr,p.block=b→(T.get s).k.fzAt p.off→o.k.fzAt p.off∧w'.cell? p=w.cell? p)
  (hrow : ∀ ty sz fz' cs', o.k = .row ty sz fz' cs' → o.gen = (T.get s).gen → (∃ ty' fz cs, (T.get s).k = .row ty' sz fz cs) ∧
   ∀arr ty1 fz,w.heap[b]? = some (.cells arr ty1 fz)→∃arr' ty2 fz',w'.heap[b]? = some (.cells arr' ty2 fz')∧arr'.size=arr.size)
  (hnrow : ∀ ty fz nl L, o.k = .nrow ty fz nl L → o.gen = (T.get s).gen → (∃ ty0 fz0 nl0 L0, (T.get s).k = .nrow ty0 fz0 nl0 L0 ∧ L0.e = L.e ∧ L0.l.length = L.l.length ∧ nl0 = nl) ∧ (¬ (nl = true ∧ L.l = []) →
   ∀arr ty1 fz,w.heap[ι s]? = some (.cells arr ty1 fz)→∃arr' ty2 fz',w'.heap[ι s]? = some (.cells arr' ty2 fz')∧arr'.size=arr.size)):
  Goes D T ι w (T.put s o) (fun t=>if s=t then b else ι t) w':=by
 have notb:∀t,t≠s→T.live t→ι t≠b:=by
  intro t hts hl e
  rcases hb with⟨hs,hb⟩ | hb
  ·exact hts (htr.inj t s hl hs (by rw[e,hb]))
  ·have:=htr.lt t hl;omega
 refine⟨fun p hp=>?_,fun t=>?_,fun t hl hg=>?_,fun t g ty sz fz' cs' hT hg=>?_,fun t g ty fz nl L hT hg=>?_⟩
 ·have hpn:p.block=b→b=ι s∧T.live s∧(T.get s).k.fzAt p.off:=by
   intro e
   rcases hb with⟨hs,hb⟩ | hb
   ·exact⟨hb,hs,hp.2.2 s hs (by rw[e,hb])⟩
   ·have:=hp.2.1;omega
  refine⟨⟨hp.1,by have:=hp.2.1;omega,fun t hl=>?_⟩,?_⟩
  ·simp only[Tab.live,Tab.get_put] at hl ⊢
   by_cases hst:s=t
   ·grind
   ·rw[if_neg hst] at hl
    simp only[if_neg hst]
    exact hp.2.2 t hl
  ·by_cases e:p.block=b
   ·grind
   ·exact cell_congr (hk _ e hp.2.1)
 ·rw[Tab.get_put];grind
 ·simp only[Tab.live,Tab.get_put] at hl hg ⊢
  by_cases hst:s=t
  ·subst hst
   simp only[if_true] at hl hg ⊢
   exact hsame hg hl
  grind
 ·rw[Tab.get_put] at hT
  by_cases hst:s=t
  ·subst hst
   simp only[if_true] at hT
   have hok:o.k=.row ty sz fz' cs':=by rw[hT]
   have hog:o.gen=(T.get s).gen:=by rw[hT,hg]
   obtain⟨⟨ty',fz0,cs,h1⟩,h2⟩:=hrow ty sz fz' cs' hok hog
   have hbs:=(hsame hog (by rw[hok];trivial)).2
   refine⟨⟨ty',fz0,cs,?_⟩,?_⟩
   ·(cases hTs:T.get s<;>grind)
   ·rw[←hbs];exact h2
  ·rw[if_neg hst] at hT
   refine⟨⟨ty,fz',cs',hT⟩,fun arr ty1 fz h=>?_⟩
   have hl:T.live t:=by simp[Tab.live,hT,OK.live]
   grind
 ·rw[Tab.get_put] at hT
  by_cases hst:s=t
  ·subst hst
   simp only[if_true] at hT
   have hok:o.k=.nrow ty fz nl L:=by rw[hT]
   have hog:o.gen=(T.get s).gen:=by rw[hT,hg]
   obtain⟨⟨ty0,fz0,nl0,L0,h1,e1,e2,e3⟩,h2⟩:=hnrow ty fz nl L hok hog
   refine⟨⟨ty0,fz0,nl0,L0,?_,e1,e2,e3⟩,h2⟩
   (cases hTs:T.get s<;>grind)
  ·rw[if_neg hst] at hT
   refine⟨⟨ty,fz,nl,L,hT,rfl,rfl,rfl⟩,fun hn arr ty1 fz1 h=>?_⟩
   have hl:T.live t:=by simp only[Tab.live,hT,OK.live];exact hn
   grind
theorem ObRel.mono {D:Addr→Prop} {T T':Tab} {ι ι':Nat→Nat} {w w':World} (H:Goes D T ι w T' ι' w') {b:Nat} {k:OK} (hb:w'.heap[b]? = w.heap[b]?)
  (h:ObRel T ι (Stable D T ι w) w b k):ObRel T' ι' (Stable D T' ι' w') w' b k:=by
 cases k with
 | dead=>trivial
 | box ty cs=>
  obtain⟨arr,fz,h1,h2,h3,h4⟩:=h
  exact⟨arr,fz,hb.trans h1,h2,h3,fun i d u hd hu=>(h4 i d u hd hu).mono H⟩
 | row ty sz fz0 cs=>
  obtain⟨arr,fz,cap,h1,h2,h3,h4,h5,h6⟩:=h
  exact⟨arr,fz,cap,hb.trans h1,h2,h3,h4,h5,fun i d u hd hu=>(h6 i d u hd hu).mono H⟩
 | iter s pos=>exact hb.trans h
 | mp M=>
  obtain⟨es,c,h1,h2,h3⟩:=h
  exact⟨es,c,hb.trans h1,h2,fun i p x hp hx=>⟨(h3 i p x hp hx).1,(h3 i p x hp hx).2.mono H.st⟩⟩
 | nrow ty fz0 nl L=>
  rcases h with h | ⟨arr,fz,cap,h1,h2,h3,h4,h5,h6⟩
  ·exact .inl h
  ·exact .inr ⟨arr,fz,cap,hb.trans h1,h2,h3,h4,h5,fun i d u hd hu=>(h6 i d u hd hu).mono H⟩
theorem TR.site {D:Addr→Prop} {T:Tab} {ι:Nat→Nat} {w w':World} (htr:TR D T ι w) (s b:Nat) (o:Ob)
  (hb:(T.live s∧b=ι s)∨w.heap.size≤b) (hw:w.heap.size≤w'.heap.size) (hbw:b<w'.heap.size) (hk:∀i,i≠b→i<w.heap.size→w'.heap[i]? = w.heap[i]?)
  (H:Goes D T ι w (T.put s o) (fun t=>if s=t then b else ι t) w')
  (hob:ObRel (T.put s o) (fun t=>if s=t then b else ι t) (Stable D (T.put s o) (fun t=>if s=t then b else ι t) w') w' b o.k):
  TR D (T.put s o) (fun t=>if s=t then b else ι t) w':=by
 have notb:∀t,t≠s→T.live t→ι t≠b:=by
  intro t hts hl e
  rcases hb with⟨hs,hb⟩ | hb
  ·exact hts (htr.inj t s hl hs (by rw[e,hb]))
  ·have:=htr.lt t hl;omega
 refine⟨fun t=>?_,fun t u ht hu e=>?_,fun t ht=>?_⟩
 ·by_cases hst:s=t
  ·grind[Tab.get_put]
  ·simp only[Tab.get_put,if_neg hst]
   by_cases hl:T.live t
   ·exact(htr.ob t).mono H (hk _ (notb t (Ne.symm hst) hl) (htr.lt t hl))
   ·cases hkk:(T.get t).k with
    | dead=>trivial
    | nrow ty fz nl L=>
     (left<;>grind[absurd,Tab.live,OK.live])
    | _=>grind[absurd,Tab.live,OK.live]
 ·simp only[Tab.live,Tab.get_put] at ht hu
  by_cases hst:s=t<;>by_cases hsu:s=u
  ·omega
  ·subst hst
   simp only[if_true,if_neg hsu] at e hu
   exact absurd e.symm (notb u (Ne.symm hsu) hu)
  ·subst hsu
   simp only[if_true,if_neg hst] at e ht
   exact absurd e (notb t (Ne.symm hst) ht)
  ·simp only[if_neg hst,if_neg hsu] at e ht hu
   exact htr.inj t u ht hu e
 ·simp only[Tab.live,Tab.get_put] at ht
  by_cases hst:s=t
  ·grind
  ·rw[if_neg hst] at ht
   simp only[if_neg hst]
   have:=htr.lt t ht
   omega
end Go.Abs
namespace Go.Abs
open Go.RowKit
set_option linter.unusedVariables false
set_option linter.unusedSimpArgs false
structure St where
 n:Nat
 t:List (Nat×V)
 o:Tab
 g:List V:=[]
structure Cx where
 P:Program
 w0:World
 X:Nat→Prop
 S0:Addr→Prop
 pin:Nat→Option Nat
 hpin:∀t b,pin t=some b→1000000≤t
 gv:List Value
def Cx.D (κ:Cx) (p:Addr):Prop:=κ.S0 p∨κ.w0.heap.size≤p.block∨κ.X p.block
def yy:Value→Option V
 | .bool b=>some (.bool b)
 | .int k n=>some (.int k n)
 | .string s=>some (.str s.data.toList)
 | .pointer none=>some .pnil
 | .slice none 0 0=>some .snil
 | .nilIface=>some .inil
 | .nilFunc=>some .fnil
 | _=>none
def qB:List Value→Option (List V)
 | []=>some []
 | v::r=>match yy v,qB r with
  | some x,some xs=>some (x::xs)
  | _,_=>none
def vM:Value→Option V
 | .agg cs=>(qB cs.toList).map .agg
 | v=>yy v
def St.get (st:St) (t:Nat):V:=aget .undef st.t t
def St.eval (st:St):Operand→V
 | .tmp t=>st.get t
 | .const v=>(vM v).getD .undef
 | .global _=>.undef
 | .func f=>.fn f []
theorem vN {S:Addr→Prop} {w:World} {v:Value} {d:V} (h:yy v=some d):Rp S w d v:=by
 unfold yy at h
 split at h<;>first
  | (injection h with h;subst h;first | exact .bool _ | exact .int _ _ | exact .str _ _ rfl | exact .pnil | exact .snil | exact .inil | exact .fnil)
  | cases h
theorem jH {S:Addr→Prop} {w:World}:∀{vs:List Value} {ds:List V},qB vs=some ds→
  ds.length=vs.length∧∀(i:Nat) (d:V) (u:Value),ds[i]? = some d→vs[i]? = some u→Rp S w d u
 | [],ds,h=>by grind[qB]
 | v::r,ds,h=>by
  simp only[qB] at h
  split at h
  ·rename_i x xs hx hxs
   injection h with h;subst h
   obtain⟨hl,hr⟩:=jH (S:=S) (w:=w) hxs
   grind[vN]
  ·cases h
theorem kO {S:Addr→Prop} {w:World} {v:Value} {d:V} (h:vM v=some d):Rp S w d v:=by
 unfold vM at h
 split at h
 ·rename_i cs
  cases hc:qB cs.toList with
  | none=>simp[hc] at h
  | some ds=>
   simp[hc] at h;subst h
   obtain⟨hl,hr⟩:=jH (S:=S) (w:=w) hc
   obtain⟨l⟩:=cs
   exact .agg hl hr
 ·exact vN h
def LR (R:V→Value→Prop) (cs:List V) (vs:List Value):Prop:=cs.length=vs.length∧∀(i:Nat) (d:V) (u:Value),cs[i]? = some d→vs[i]? = some u→R d u
theorem LR.nil {R:V→Value→Prop}:LR R [] []:=⟨rfl,by simp⟩
theorem LR.cons {R:V→Value→Prop} {d:V} {u:Value} {cs:List V} {vs:List Value} (h:R d u) (hr:LR R cs vs):LR R (d::cs) (u::vs):=
 ⟨by simp [hr.1], fun i x y hx hy => by
  cases i with
  | zero=>grind
  | succ i=>simp at hx hy;exact hr.2 i x y hx hy⟩
theorem LR.append {R:V→Value→Prop} {cs cs':List V} {vs vs':List Value} (h:LR R cs vs) (h':LR R cs' vs'):LR R (cs++cs') (vs++vs'):=
 ⟨by simp [h.1, h'.1], fun i x y hx hy => by
  rw[List.getElem?_append] at hx hy
  rw[h.1] at hx
  split at hx
  ·rename_i hi;rw[if_pos hi] at hy;exact h.2 i x y hx hy
  ·rename_i hi;rw[if_neg hi] at hy;exact h'.2 _ x y hx hy⟩
theorem LR.take {R:V→Value→Prop} {cs:List V} {vs:List Value} (h:LR R cs vs) (n:Nat):LR R (cs.take n) (vs.take n):=
 ⟨by simp [h.1], fun i x y hx hy => by
  rw[List.getElem?_take] at hx hy
  split at hx
  ·rename_i hi;rw[if_pos hi] at hy;exact h.2 i x y hx hy
  ·cases hx⟩
theorem LR.drop {R:V→Value→Prop} {cs:List V} {vs:List Value} (h:LR R cs vs) (n:Nat):LR R (cs.drop n) (vs.drop n):=
 ⟨by simp [h.1], fun i x y hx hy => by
  rw[List.getElem?_drop] at hx hy
  exact h.2 _ x y hx hy⟩
theorem LR.mono {R R':V→Value→Prop} {cs:List V} {vs:List Value} (h:LR R cs vs) (hr:∀d u,R d u→R' d u):LR R' cs vs:=
 ⟨h.1,fun i d u hd hu=>hr _ _ (h.2 i d u hd hu)⟩
theorem LR.head {R:V→Value→Prop} {d:V} {cs:List V} {vs:List Value} (h:LR R (d::cs) vs):∃u vs',vs=u::vs'∧R d u∧LR R cs vs':=by
 cases vs with
 | nil=>have:=h.1;simp at this
 | cons u vs'=>exact⟨u,vs',rfl,h.2 0 d u rfl rfl,by have:=h.1;grind,fun i x y hx hy=>h.2 (i+1) x y (by simpa using hx) (by simpa using hy)⟩
theorem LR.map {R:V→Value→Prop} {α:Type} (f:α→V) (g:α→Value):∀l:List α,(∀x∈l,R (f x) (g x))→LR R (l.map f) (l.map g)
 | [],_=>.nil
 | x::r,h=>.cons (h x (by simp)) (LR.map f g r fun y hy=>h y (by simp[hy]))
theorem LR.get {R:V→Value→Prop} {cs:List V} {vs:List Value} (h:LR R cs vs) {i:Nat} {d:V} (hd:cs[i]? = some d):∃u,vs[i]? = some u∧R d u:=by
 have hi:i<vs.length:=by rw[←h.1];grind
 exact⟨vs[i],List.getElem?_eq_getElem hi,h.2 i d _ hd (List.getElem?_eq_getElem hi)⟩
structure RelI (κ:Cx) (ι:Nat→Nat) (st:St) (a:Act) (w:World):Prop where
 dfr:a.defers=[]
 sz:a.tmps.size=st.n
 tm:∀t,Rv st.o ι (Stable κ.D st.o ι w) w (st.get t) (a.tmps.getD t undef)
 tr:TR κ.D st.o ι w
 my:∀t,st.o.live t→κ.w0.heap.size≤ι t∨κ.X (ι t)
 kept:Kept κ.X κ.w0 w
 pin:∀t b,κ.pin t=some b→(st.o.get t).gen=0→st.o.live t→ι t=b
 gh:LR (Rv st.o ι (Stable κ.D st.o ι w) w) st.g κ.gv
def Rel (κ:Cx) (st:St) (a:Act) (w:World):Prop:=∃ι,RelI κ ι st a w
theorem RelI.eval {κ:Cx} {ι:Nat→Nat} {st:St} {a:Act} {w:World} (h:RelI κ ι st a w) (x:Operand):
  Rv st.o ι (Stable κ.D st.o ι w) w (st.eval x) (a.eval x):=by
 cases x with
 | tmp t=>exact h.tm t
 | const v=>
  simp only[St.eval,Act.eval]
  cases hv:vM v with
  | none=>exact .undef v
  | some d=>exact .pure (kO hv)
 | global g=>exact .undef _
 | func f=>exact .pure (.fn (cs:=[]) (vs:=[]) rfl (by simp))
structure To (κ:Cx) (T:Tab) (ι:Nat→Nat) (w:World) (T':Tab) (ι':Nat→Nat) (w':World):Prop where
 goes:Goes κ.D T ι w T' ι' w'
 tr:TR κ.D T' ι' w'
 my:∀t,T'.live t→κ.w0.heap.size≤ι' t∨κ.X (ι' t)
 kept:Kept κ.X κ.w0 w'
theorem To.refl {κ:Cx} {ι:Nat→Nat} {st:St} {a:Act} {w:World} (h:RelI κ ι st a w):To κ st.o ι w st.o ι w:=
 ⟨Goes.refl _ _ _ _,h.tr,h.my,h.kept⟩
def St.set (st:St) (dst:Option Nat) (v:V):Option St:=
 match dst with
 | none=>some st
 | some d=>if d<st.n then some { st with t:=jQ d v st.t } else none
theorem RelI.set {κ:Cx} {ι ι':Nat→Nat} {st st':St} {T':Tab} {a:Act} {w w':World} (h:RelI κ ι st a w) (ht:To κ st.o ι w T' ι' w')
  {dst:Option Nat} {v:V} {cv:Value} (hs:{ st with o:=T' }.set dst v=some st') (hv:Rv T' ι' (Stable κ.D T' ι' w') w' v cv):RelI κ ι' st' (a.put dst cv) w':=by
 have htm:∀t,Rv T' ι' (Stable κ.D T' ι' w') w' (st.get t) (a.tmps.getD t undef):=fun t=>(h.tm t).mono ht.goes
 have hpin:∀t b,κ.pin t=some b→(T'.get t).gen=0→T'.live t→ι' t=b:=fun t b hp hg hl=>by
  have h1:=ht.goes.gen t
  have h2:=ht.goes.same t hl (by omega)
  rw[h2.2]
  exact h.pin t b hp (by omega) h2.1
 cases dst with
 | none=>
  simp[St.set] at hs;subst hs
  exact⟨h.dfr,h.sz,htm,ht.tr,ht.my,ht.kept,hpin,h.gh.mono fun d u hd=>hd.mono ht.goes⟩
 | some d=>
  simp only[St.set] at hs
  split at hs
  ·rename_i hd
   injection hs with hs;subst hs
   refine⟨h.dfr,by simp[Act.put,h.sz],fun t=>?_,ht.tr,ht.my,ht.kept,hpin,h.gh.mono fun d u hd=>hd.mono ht.goes⟩
   simp only[St.get,jz,Act.put]
   by_cases hdt:d=t
   ·subst hdt
    have:(a.tmps.setIfInBounds d cv).getD d undef=cv:=by
     have hd':d<a.tmps.size:=by rw[h.sz];exact hd
     simp[Array.getElem?_setIfInBounds_self_of_lt hd']
    grind
   ·have:(a.tmps.setIfInBounds d cv).getD t undef=a.tmps.getD t undef:=by simp[Array.getElem?_setIfInBounds_ne hdt]
    rw[this,if_neg hdt];exact htm t
  ·cases hs
theorem To.new {κ:Cx} {ι:Nat→Nat} {st:St} {a:Act} {w w1:World} (h:RelI κ ι st a w) (hw1:w1.heap=w.heap) (ho:w1.os=w.os) (ht:w1.tape=w.tape) (hout:w1.output=w.output)
  (s:Nat) (ob:Obj) (k:OK)
  (hob:∀T' ι' w',Goes κ.D st.o ι w T' ι' w'→w'.heap[w.heap.size]? = some ob→ObRel T' ι' (Stable κ.D T' ι' w') w' w.heap.size k):
  To κ st.o ι w (st.o.put s ⟨(st.o.get s).gen+1,k⟩) (fun t=>if s=t then w.heap.size else ι t) (w1.alloc ob):=by
 have hsz:(w1.alloc ob).heap.size=w.heap.size+1:=by simp[hw1]
 have hk:∀i,i≠w.heap.size→i<w.heap.size→(w1.alloc ob).heap[i]? = w.heap[i]?:=fun i _ hi=>by
  grind[heap_alloc_old]
 have hnew:(w1.alloc ob).heap[w.heap.size]? = some ob:=by grind[heap_alloc_new]
 have H:=Goes.site h.tr s w.heap.size ⟨(st.o.get s).gen+1,k⟩ (w':=w1.alloc ob) (.inr (Nat.le_refl _)) (by omega) hk (Nat.le_succ _) (fun e _=>absurd e (Nat.succ_ne_self _)) (fun e hl=>absurd (h.tr.lt s hl) (by omega)) (fun _ _ _ _ _ e=>absurd e (Nat.succ_ne_self _)) (fun _ _ _ _ _ e=>absurd e (Nat.succ_ne_self _))
 refine⟨H,TR.site h.tr s w.heap.size _ (.inr (Nat.le_refl _)) (by omega) (by omega) hk H (hob _ _ _ H hnew),fun t hl=>?_,?_⟩
 ·simp only[Tab.live,Tab.get_put] at hl
  by_cases hst:s=t
  ·simp only[if_pos hst];exact .inl h.kept.size
  ·rw[if_neg hst] at hl;simp only[if_neg hst];exact h.my t hl
 ·exact h.kept.trans ⟨ho,ht,hout,by omega,fun i hi _=>hk i (by omega) hi,fun i hi=>.same (hk i (by omega) hi)⟩
theorem To.turn {κ:Cx} {ι:Nat→Nat} {st:St} {a:Act} {w w':World} (h:RelI κ ι st a w) (s:Nat) (hs:st.o.live s) (o:Ob)
  (ho:w'.os=w.os) (ht:w'.tape=w.tape) (hout:w'.output=w.output) (hsz:w'.heap.size=w.heap.size) (hk:∀i,i≠ι s→w'.heap[i]? = w.heap[i]?)
  (hgen:(st.o.get s).gen≤o.gen)
  (hfz:∀p:Addr,p.block=ι s→(st.o.get s).k.fzAt p.off→o.k.fzAt p.off∧w'.cell? p=w.cell? p)
  (hrow : ∀ ty sz fz' cs', o.k = .row ty sz fz' cs' → o.gen = (st.o.get s).gen → (∃ ty' fz cs, (st.o.get s).k = .row ty' sz fz cs) ∧
   ∀arr ty1 fz,w.heap[ι s]? = some (.cells arr ty1 fz)→∃arr' ty2 fz',w'.heap[ι s]? = some (.cells arr' ty2 fz')∧arr'.size=arr.size)
  (hob:∀T' ι',Goes κ.D st.o ι w T' ι' w'→ObRel T' ι' (Stable κ.D T' ι' w') w' (ι s) o.k)
  (hnrow : ∀ ty fz nl L, o.k = .nrow ty fz nl L → o.gen = (st.o.get s).gen → (∃ ty0 fz0 nl0 L0, (st.o.get s).k = .nrow ty0 fz0 nl0 L0 ∧ L0.e = L.e ∧ L0.l.length = L.l.length ∧ nl0 = nl) ∧ (¬ (nl = true ∧ L.l = []) →
   ∀arr ty1 fz,w.heap[ι s]? = some (.cells arr ty1 fz)→∃arr' ty2 fz',w'.heap[ι s]? = some (.cells arr' ty2 fz')∧arr'.size=arr.size):=by intro _ _ _ _ e;cases e)
  (hsh:Shape w w' (ι s)):To κ st.o ι w (st.o.put s o) ι w':=by
 have hι:(fun t=>if s=t then ι s else ι t)=ι:=by grind
 have H:=Goes.site h.tr s (ι s) o (w':=w') (.inl ⟨hs,rfl⟩) (by omega) (fun i hi _=>hk i hi) hgen (fun _ _=>⟨hs,rfl⟩) (fun _ _=>hfz) hrow hnrow
 have htr:=TR.site h.tr s (ι s) o (w':=w') (.inl ⟨hs,rfl⟩) (by omega) (by have:=h.tr.lt s hs;omega) (fun i hi _=>hk i hi) H (hob _ _ H)
 rw[hι] at H htr
 refine⟨H,htr,fun t hl=>?_,?_⟩
 ·simp only[Tab.live,Tab.get_put] at hl
  by_cases hst:s=t
  ·subst hst;exact h.my s hs
  ·rw[if_neg hst] at hl;exact h.my t hl
 ·refine h.kept.then (Y:=fun i=>i=ι s) ⟨ho,ht,hout,by omega,fun i _ hi=>hk i hi,fun i hi=>if e:i=ι s then e▸hsh else .same (hk i e)⟩ fun i _ hi=>?_
  subst hi;exact h.my s hs
theorem To.drew {κ:Cx} {ι:Nat→Nat} {st:St} {a:Act} {w w':World} (h:RelI κ ι st a w) (ho:w'.os=w.os) (ht:w'.tape=w.tape) (hout:w'.output=w.output)
  (hw:w'.heap=w.heap):To κ st.o ι w st.o ι w':=by
 have H:Goes κ.D st.o ι w st.o ι w':=
  ⟨fun p hp => ⟨⟨hp.1, by rw [hw]; exact hp.2.1, hp.2.2⟩, cell_congr (by rw [hw])⟩, fun _ => Nat.le_refl _, fun _ hl _ => ⟨hl, rfl⟩,
   fun t g ty sz fz' cs' hT _=>⟨⟨ty,fz',cs',hT⟩,fun arr ty1 fz hh=>⟨arr,ty1,fz,by grind,rfl⟩⟩,
   fun t g ty fz nl L hT _=>⟨⟨ty,fz,nl,L,hT,rfl,rfl,rfl⟩,fun _ arr ty1 fz hh=>⟨arr,ty1,fz,by grind,rfl⟩⟩⟩
 refine⟨H,⟨fun t=>(h.tr.ob t).mono H (by rw[hw]),h.tr.inj,fun t hl=>by rw[hw];exact h.tr.lt t hl⟩,h.my,h.kept.trans ⟨ho,ht,hout,by grind,fun i _ _=>by rw[hw],fun i _=>.same (by rw[hw])⟩⟩
section
variable {T : Tab} {ι : Nat → Nat} {S : Addr → Prop} {w : World} {v : Value}
theorem Rv.int_ {k:IntKind} {n:Int} (h:Rv T ι S w (.int k n) v):v=.int k n:=by cases h with | pure h=>cases h;rfl
theorem Rv.bool_ {b:Bool} (h:Rv T ι S w (.bool b) v):v=.bool b:=by cases h with | pure h=>cases h;rfl
theorem Rv.str_ {s:List UInt8} (h:Rv T ι S w (.str s) v):∃b:ByteArray,v=.string b∧b.data.toList=s:=by cases h with | pure h=>(cases h<;>grind)
theorem Rv.snil_ (h:Rv T ι S w .snil v):v=.slice none 0 0:=by cases h with | pure h=>cases h;rfl
theorem Rv.pnil_ (h:Rv T ι S w .pnil v):v=.pointer none:=by cases h with | pure h=>cases h;rfl
theorem Rv.inil_ (h:Rv T ι S w .inil v):v=.nilIface:=by cases h with | pure h=>cases h;rfl
theorem Rv.fnil_ (h:Rv T ι S w .fnil v):v=.nilFunc:=by cases h with | pure h=>cases h;rfl
theorem Rv.agg_ {cs:List V} (h:Rv T ι S w (.agg cs) v):∃vs:List Value,v=.agg ⟨vs⟩∧cs.length=vs.length∧
  ∀(i:Nat) (d:V) (u:Value),cs[i]? = some d→vs[i]? = some u→Rv T ι S w d u:=by
 cases h with
 | pure h=>cases h with | agg hl h=>exact⟨_,rfl,hl,fun i d u hd hu=>.pure (h i d u hd hu)⟩
 | agg hl h=>grind
theorem Rv.tup_ {cs:List V} (h:Rv T ι S w (.tup cs) v):∃vs:List Value,v=.tuple ⟨vs⟩∧cs.length=vs.length∧
  ∀(i:Nat) (d:V) (u:Value),cs[i]? = some d→vs[i]? = some u→Rv T ι S w d u:=by
 cases h with
 | pure h=>cases h with | tup hl h=>exact⟨_,rfl,hl,fun i d u hd hu=>.pure (h i d u hd hu)⟩
 | tup hl h=>grind
theorem Rv.fn_ {f:Nat} {cs:List V} (h:Rv T ι S w (.fn f cs) v):∃vs:List Value,v=.func (.func f) #[] ⟨vs⟩∧cs.length=vs.length∧
  ∀(i:Nat) (d:V) (u:Value),cs[i]? = some d→vs[i]? = some u→Rv T ι S w d u:=by
 cases h with
 | pure h=>cases h with | fn hl h=>exact⟨_,rfl,hl,fun i d u hd hu=>.pure (h i d u hd hu)⟩
 | fn hl h=>grind
theorem Rv.ifc_ {t:Nat} {d:V} (h:Rv T ι S w (.ifc t d) v):∃u,v=.iface t u∧Rv T ι S w d u:=by
 cases h with
 | pure h=>cases h with | ifc h=>exact⟨_,rfl,.pure h⟩
 | ifc h=>exact⟨_,rfl,h⟩
theorem Rv.ptr_ {t g off:Nat} (h:Rv T ι S w (.ptr t g off) v) (hg:(T.get t).gen=g) (hl:T.live t):v=.pointer (some ⟨ι t,off,none⟩):=by
 cases h with
 | pure h=>cases h
 | ptr _ _ h=>exact h hg hl
theorem Rv.own_ {t g off n ty sz:Nat} {fz0:Bool} {cs:List V} (h:Rv T ι S w (.own t g off n) v) (hT:T.get t=⟨g,.row ty sz fz0 cs⟩):Own w (ι t) sz off n v:=by
 cases h with
 | pure h=>cases h
 | own _ _ h=>grind
theorem Rv.cref_ {cs:List V} (h:Rv T ι S w (.cref cs) v):∃(a:Addr) (vs:List Value),v=.pointer (some a)∧
  (∀(i:Nat) (u:Value),vs[i]? = some u→S (a.add i)∧w.cell? (a.add i)=some u)∧cs.length=vs.length∧
  ∀(i:Nat) (d:V) (u:Value),cs[i]? = some d→vs[i]? = some u→Rp S w d u:=by
 cases h with | pure h=>(cases h<;>grind)
theorem Rv.sl_ {n:Nat} {cs:List V} (h:Rv T ι S w (.sl n cs) v):(n=0∧cs=[]∧v=.slice none 0 0)∨∃(a:Addr) (c:Nat) (vs:List Value),v=.slice (some a) n c∧n≤c∧
  (∀(i:Nat) (u:Value),vs[i]? = some u→S (a.add i)∧w.cell? (a.add i)=some u)∧cs.length=vs.length∧
  ∀(i:Nat) (d:V) (u:Value),cs[i]? = some d→vs[i]? = some u→Rp S w d u:=by
 cases h with | pure h=>cases h with | sl hc hm hl h=>exact .inr ⟨_,_,_,rfl,hc,hm,hl,h⟩ | slz=>grind
end
end Go.Abs
namespace Go.Abs
open Go.RowKit
set_option linter.unusedVariables false
set_option linter.unusedSimpArgs false
def wrT (T:Tab):Option (Nat×Ob)→Tab
 | none=>T
 | some (s,o)=>T.put s o
def SemOk (κ:Cx) (ι:Nat→Nat) (T:Tab) (w:World) (s:Sem Value) (v:V) (wr:Option (Nat×Ob)):Prop:=
 ∃cv w' ι',s.run κ.P w=.ok cv w'∧To κ T ι w (wrT T wr) ι' w'∧Rv (wrT T wr) ι' (Stable κ.D (wrT T wr) ι' w') w' v cv
mutual
def V.pure:V→Bool
 | .undef | .own _ _ _ _ | .ptr _ _ _=>false
 | .agg cs=>pureL cs
 | .tup cs=>pureL cs
 | .ifc _ v=>v.pure
 | .fn _ cs=>pureL cs
 | .acc _ _ | .eptr _ _ _ _ _ | .nwin _ _ _ _ | .mp _ _=>false
 | _=>true
def pureL:List V→Bool
 | []=>true
 | v::r=>v.pure&&pureL r
end
theorem pureL_get:∀{cs:List V},pureL cs=true→∀(i:Nat) (d:V),cs[i]? = some d→d.pure=true
 | [],_,i,d,h=>by simp at h
 | v::r,hp,i,d,h=>by
  simp only[pureL,Bool.and_eq_true] at hp
  cases i with
  | zero=>simp at h;subst h;exact hp.1
  | succ i=>exact pureL_get hp.2 i d (by simpa using h)
theorem Rv.pure_ {T:Tab} {ι:Nat→Nat} {S:Addr→Prop} {w:World} {v:V} {cv:Value} (h:Rv T ι S w v cv) (hp:v.pure=true):Rp S w v cv:=by
 induction h with
 | pure h=>exact h
 | undef v=>simp[V.pure] at hp
 | own hv hg h=>simp[V.pure] at hp
 | ptr hv hg h=>simp[V.pure] at hp
 | acc hv hg h=>simp[V.pure] at hp
 | eptr hv hg h=>simp[V.pure] at hp
 | nwin hv hg h=>simp[V.pure] at hp
 | mp hv hg h=>simp[V.pure] at hp
 | agg hl h ih=>simp only[V.pure] at hp;exact .agg hl fun i d u hd hu=>ih i d u hd hu (pureL_get hp i d hd)
 | tup hl h ih=>simp only[V.pure] at hp;exact .tup hl fun i d u hd hu=>ih i d u hd hu (pureL_get hp i d hd)
 | ifc h ih=>simp only[V.pure] at hp;exact .ifc (ih hp)
 | fn hl h ih=>simp only[V.pure] at hp;exact .fn hl fun i d u hd hu=>ih i d u hd hu (pureL_get hp i d hd)
def V.leaf:V→Bool
 | .bool _ | .int _ _ | .str _ | .sl _ _ | .pnil | .inil=>true
 | .ifc _ v=>v.pure
 | _=>false
theorem V.leaf_pure {d:V} (h:d.leaf=true):d.pure=true:=by
 cases d<;>first | rfl | (simp[V.leaf] at h;done) | grind[V.leaf,V.pure]
theorem V.leaf_cellOk {d:V} (h:d.leaf=true):d.cellOk=true:=by
 cases d<;>first | rfl | grind[V.leaf]
theorem Qh:∀{cs:List V},(∀d∈cs,d.pure=true)→pureL cs=true
 | [],_=>rfl
 | v::r,h=>by simp_all[pureL,Bool.and_eq_true,Qh]
theorem zT {cs:List V} (h:∀d∈cs,d.leaf=true):(cs.headD .pnil).leaf=true:=by
 cases cs with
 | nil=>rfl
 | cons v r=>grind
theorem jY {a:Ty} {cs:List V} (h:∀d∈cs,d.leaf=true):(vOf a cs).pure=true:=by
 have h2:=V.leaf_pure (zT h)
 (unfold vOf<;>grind[vOf,V.pure,Qh,V.leaf_pure])
theorem ql:∀(t:Ty) (x:t.I) (d:V),d∈cellsV t x→d.leaf=true
 | .int _,x,d,h=>by simp only[cellsV,List.mem_singleton] at h;subst h;rfl
 | .bool,x,d,h=>by simp only[cellsV,List.mem_singleton] at h;subst h;rfl
 | .str,x,d,h=>by simp only[cellsV,List.mem_singleton] at h;subst h;rfl
 | .list _,x,d,h=>by simp only[cellsV,List.mem_singleton] at h;subst h;rfl
 | .unit,x,d,h=>by simp[cellsV] at h
 | .pair a b,x,d,h=>by
  simp only[cellsV,List.mem_append] at h
  rcases h with h | h
  ·exact ql a _ d h
  ·exact ql b _ d h
 | .agg t,x,d,h=>ql t x d h
 | .alt t a r,.inl y,d,h=>by simp only[cellsV,List.mem_singleton] at h;subst h;exact jY (ql a y)
 | .alt t a r,.inr z,d,h=>by simp only[cellsV,List.mem_singleton] at h;subst h;exact zT (ql r z)
 | .alt1 t a,x,d,h=>by simp only[cellsV,List.mem_singleton] at h;subst h;exact jY (ql a x)
 | .inil,x,d,h=>by simp only[cellsV,List.mem_singleton] at h;subst h;rfl
theorem pure_cellsV (t:Ty) (x:t.I) (d:V) (h:d∈cellsV t x):d.pure=true:=V.leaf_pure (ql t x d h)
theorem zH {S:Addr→Prop} {w:World} {d:V} {v:Value} (h:d.leaf=true) (hr:Rp S w d v):v.cells=#[v]∧v.oneCell'=true:=by
 cases hr<;>first | exact⟨rfl,rfl⟩ | (simp[V.leaf] at h;done)
theorem TL.pure_cells {L:TL} {i:Nat} {d:V} (h:L.cells[i]? = some d):d.pure=true:=by
 have hm:=List.mem_of_getElem? h
 grind[TL.cells,pure_cellsV]
section
variable {κ : Cx} {ι : Nat → Nat} {st : St} {a : Act} {w : World}
theorem SemOk.same (h:RelI κ ι st a w) {s:Sem Value} {v:V} {cv:Value} (hr:s.run κ.P w=.ok cv w) (hv:Rv st.o ι (Stable κ.D st.o ι w) w v cv):
  SemOk κ ι st.o w s v none:=⟨cv,w,ι,hr,To.refl h,hv⟩
theorem kE {P:Program} {t:TypeId} {i:TypeInfo} (h:P.info? t=some i) (w:World):(typeInfo t).run P w=.ok i w:=by
 simp[typeInfo,h]
theorem run_size {P:Program} {t:TypeId} {i:TypeInfo} (h:P.info? t=some i) (w:World):(sizeOf t).run P w=.ok i.size w:=by
 simp[sizeOf,kE h]
theorem j8 {P:Program} {t:TypeId} {i:TypeInfo} {z:Value} (h:P.info? t=some i) (hz:i.zero=some z) (w:World):(zeroValue t).run P w=.ok z w:=by
 simp[zeroValue,kE h,hz]
def kU:TypeDesc→Bool
 | .struct _ | .array _ _=>true
 | _=>false
theorem zD {P:Program} {t:TypeId} {d:TypeDesc} (h:P.underlying t=some d) (w:World):(isAgg t).run P w=.ok (kU d) w:=by
 simp only[isAgg,Sem.run_bind,run_underlying h,Result.andThen_ok]
 cases d<;>rfl
def zeroC (P:Program) (t:Nat):Option (List V):=
 match P.info? t with
 | some i=>match i.zero with
  | some z=>if z.cells.size=i.size then qB z.cells.toList else none
  | none=>none
 | none=>none
theorem qG {P:Program} {t:Nat} {cs:List V} (h:zeroC P t=some cs):∃z i,P.info? t=some i∧i.zero=some z∧z.cells.size=i.size∧(∀w,(zeroValue t).run P w=.ok z w)∧
  ∀{S:Addr→Prop} {w:World},LR (Rp S w) cs z.cells.toList:=by
 unfold zeroC at h
 split at h
 ·rename_i i hi
  split at h
  ·rename_i z hz
   split at h
   ·rename_i hs
    exact⟨z,i,hi,hz,hs,fun w=>j8 hi hz w,fun {S w}=>jH h⟩
   ·cases h
  ·cases h
 ·cases h
theorem Z1 (h:RelI κ ι st a w) (s ty:Nat) (arr:Array Value) (cs:List V) (hcs:LR (Rv st.o ι (Stable κ.D st.o ι w) w) cs arr.toList):
  To κ st.o ι w (st.o.put s ⟨(st.o.get s).gen+1,.box ty cs⟩) (fun t=>if s=t then w.heap.size else ι t) (w.alloc (.cells arr ty)):=
 To.new h rfl rfl rfl rfl s _ _ fun T' ι' w' H hn=>⟨arr,(0,0),hn,fun i _=>by simp,by simpa using hcs.1.symm,fun i d u hd hu=>(hcs.2 i d u hd hu).mono H⟩
theorem yx (h:RelI κ ι st a w) (s:Nat) (k:OK) (ι':Nat→Nat) (w':World) (hι:ι' s=w.heap.size) {S:Addr→Prop}:
  Rv (st.o.put s ⟨(st.o.get s).gen+1,k⟩) ι' S w' (.ptr s ((st.o.get s).gen+1) 0) (.pointer (some ⟨w.heap.size,0,none⟩)):=
 .ptr ⟨_,rfl⟩ (by simp[Tab.get_put]) fun _ _=>by rw[hι]
def yQ (P:Program) (T:Tab) (e d:Nat):Option (V×Option (Nat×Ob)):=
 (zeroC P e).map fun cs=>(.ptr d ((T.get d).gen+1) 0,some (d,⟨(T.get d).gen+1,.box e cs⟩))
theorem JR (h:RelI κ ι st a w) {e d:Nat} {v:V} {wr:Option (Nat×Ob)} (hx:yQ κ.P st.o e d=some (v,wr)):
  SemOk κ ι st.o w (Instr.alloc e true (.tuple #[])) v wr:=by
 unfold yQ at hx
 cases hz:zeroC κ.P e with
 | none=>simp[hz] at hx
 | some cs=>
  simp[hz] at hx
  obtain⟨rfl,rfl⟩:=hx
  obtain⟨z,i,hi,hzz,hsz,hrun,hlr⟩:=qG hz
  refine⟨_,_,_,?_,Z1 h d e z.cells cs (hlr.mono fun _ _=>.pure),yx h d _ _ _ (by simp)⟩
  simp[Instr.alloc,hrun,newVar,newRow]
def KI (T:Tab) (e d:Nat) (x:V):Option (V×Option (Nat×Ob)):=
 match x with
 | .undef=>none
 | _=>some (.ptr d ((T.get d).gen+1) 0,some (d,⟨(T.get d).gen+1,.box e x.cells⟩))
theorem Rp.sl_form {S:Addr→Prop} {n:Nat} {cs:List V} {v:Value} (h:Rp S w (.sl n cs) v):∃p n' c,v=.slice p n' c:=by
 generalize e:V.sl n cs=x at h
 cases h<;>first | cases e;done | grind
theorem Rp.cref_form {S:Addr→Prop} {cs:List V} {v:Value} (h:Rp S w (.cref cs) v):∃a,v=.pointer (some a):=by
 generalize e:V.cref cs=x at h
 cases h<;>first | cases e;done | grind
theorem Rv.acc_form {T:Tab} {S:Addr→Prop} {t g:Nat} {v:Value} (h:Rv T ι S w (.acc t g) v):∃p n' c,v=.slice p n' c:=by
 cases h with
 | pure h=>cases h
 | acc hv _ _=>exact hv
theorem Rv.acc_ {T:Tab} {S:Addr→Prop} {t g:Nat} {v:Value} (h:Rv T ι S w (.acc t g) v) {ty:Nat} {fz nl:Bool} {L:TL} (hT:T.get t=⟨g,.nrow ty fz nl L⟩):
  (nl=true∧L.l=[]∧∃p,v=.slice p 0 0)∨(¬(nl=true∧L.l=[])∧Own w (ι t) L.e.size 0 L.l.length v):=by
 cases h with
 | pure h=>cases h
 | acc _ _ h=>grind
theorem Rv.eptr_ {T:Tab} {S:Addr→Prop} {t g sz i off:Nat} {v:Value} (h:Rv T ι S w (.eptr t g sz i off) v) {ty:Nat} {fz nl:Bool} {L:TL} (hT:T.get t=⟨g,.nrow ty fz nl L⟩):
  sz=L.e.size∧i<L.l.length∧v=.pointer (some ⟨ι t,i*sz+off,none⟩):=by
 cases h with
 | pure h=>cases h
 | eptr _ _ h=>grind
theorem Rv.eptr_form {T:Tab} {S:Addr→Prop} {t g i off:Nat} {e:Nat} {v:Value} (h:Rv T ι S w (.eptr t g e i off) v):∃a,v=.pointer (some a):=by
 cases h with
 | pure h=>cases h
 | eptr hv _ _=>exact hv
theorem Rv.si_ {T:Tab} {S:Addr→Prop} {X:TX} {v:Value} (h:Rv T ι S w (.si X) v):Rp S w ((cellsV X.e X.x).headD .pnil) v:=by
 cases h with
 | pure h=>(cases h<;>grind)
theorem Rv.nwin_form {T:Tab} {S:Addr→Prop} {t g off n:Nat} {v:Value} (h:Rv T ι S w (.nwin t g off n) v):∃p n' c,v=.slice p n' c:=by
 cases h with
 | pure h=>cases h
 | nwin hv _ _=>exact hv
theorem Rv.nwin_ {T:Tab} {S:Addr→Prop} {t g off n:Nat} {v:Value} (h:Rv T ι S w (.nwin t g off n) v) {ty:Nat} {fz nl:Bool} {L:TL} (hT:T.get t=⟨g,.nrow ty fz nl L⟩):
  off+n≤L.l.length∧((nl=true∧L.l=[]∧∃p,v=.slice p 0 0)∨(¬(nl=true∧L.l=[])∧Own w (ι t) L.e.size off n v)):=by
 cases h with
 | pure h=>cases h
 | nwin _ _ h=>grind
theorem Rv.mp_form {T:Tab} {S:Addr→Prop} {t g:Nat} {v:Value} (h:Rv T ι S w (.mp t g) v):∃r,v=.map (some r):=by
 cases h with
 | pure h=>cases h
 | mp hv _ _=>exact hv
theorem Rv.mp_ {T:Tab} {S:Addr→Prop} {t g:Nat} {v:Value} (h:Rv T ι S w (.mp t g) v) (hg:(T.get t).gen=g) (hl:T.live t):v=.map (some (ι t)):=by
 cases h with
 | pure h=>cases h
 | mp _ _ h=>exact h hg hl
theorem Rv.lst_ {T:Tab} {S:Addr→Prop} {L:TL} {v:Value} (h:Rv T ι S w (.lst L) v):Rp S w (.sl L.l.length L.cells) v:=by
 cases h with | pure h=>(cases h<;>grind)
theorem Rv.eref_ {T:Tab} {S:Addr→Prop} {X:TX} {off:Nat} {v:Value} (h:Rv T ι S w (.eref X off) v):Rp S w (.cref ((cellsV X.e X.x).drop off)) v:=by
 cases h with | pure h=>(cases h<;>grind)
theorem Rv.bs_ {T:Tab} {S:Addr→Prop} {b:Bool} {v:Value} (h:Rv T ι S w (.bs b) v):v=.bool b:=by
 cases h with | pure h=>cases h with | bs h=>cases h;rfl
theorem Rv.nl_ {T:Tab} {S:Addr→Prop} {L:TL} {v:Value} (h:Rv T ι S w (.nl L) v):Rv T ι S w (.lst L) v∧∃a len cap,v=.slice (some a) len cap:=by
 cases h with | pure h=>cases h with | nl h=>exact⟨.pure h,_,_,_,rfl⟩
theorem Rv.sz_ {T:Tab} {S:Addr→Prop} {v:Value} (h:Rv T ι S w .sz v):∃p,v=.slice p 0 0:=by
 cases h with | pure h=>(cases h<;>grind)
theorem cells_lr {T:Tab} {S:Addr→Prop} {x:V} {cv:Value} (hx:x≠.undef) (h:Rv T ι S w x cv):LR (Rv T ι S w) x.cells cv.cells.toList:=by
 cases x with
 | agg cs=>
  obtain⟨vs,rfl,hl,hh⟩:=h.agg_
  exact⟨hl,hh⟩
 | undef=>grind
 | own t g off n=>
  cases h with
  | pure h=>cases h
  | own hv hg h'=>obtain⟨_,_,rfl⟩:=hv;exact .cons (.own ⟨_,_,rfl⟩ hg h') .nil
 | ptr t g off=>
  cases h with
  | pure h=>cases h
  | ptr hv hg h'=>obtain⟨_,rfl⟩:=hv;exact .cons (.ptr ⟨_,rfl⟩ hg h') .nil
 | acc t g=>
  obtain⟨_,_,_,rfl⟩:=h.acc_form
  exact .cons h .nil
 | eptr t g e i off=>
  obtain⟨_,rfl⟩:=h.eptr_form
  exact .cons h .nil
 | lst L=>
  obtain⟨_,_,_,rfl⟩:=h.lst_.sl_form
  exact .cons h .nil
 | eref X off=>
  obtain⟨_,rfl⟩:=h.eref_.cref_form
  exact .cons h .nil
 | bs b=>
  obtain rfl:=h.bs_
  exact .cons h .nil
 | si X=>
  have hcv:cv.cells=#[cv]:=(zH (zT (ql X.e X.x)) h.si_).1
  rw[hcv]
  exact .cons h .nil
 | nwin t g off n=>
  obtain⟨_,_,_,rfl⟩:=h.nwin_form
  exact .cons h .nil
 | mp t g=>
  obtain⟨_,rfl⟩:=h.mp_form
  exact .cons h .nil
 | _=>
  have hcv:cv.cells=#[cv]:=by
   cases h with
   | pure h=>cases h<;>rfl
   | _=>rfl
  rw[hcv]
  exact .cons h .nil
theorem cell_one {T:Tab} {S:Addr→Prop} {x:V} {cv:Value} (hx:x.cellOk=true) (h:Rv T ι S w x cv):cv.oneCell'=true:=by
 cases x with
 | own t g off n=>
  cases h with
  | pure h=>cases h
  | own hv hg h'=>obtain⟨_,_,rfl⟩:=hv;rfl
 | ptr t g off=>
  cases h with
  | pure h=>cases h
  | ptr hv hg h'=>obtain⟨_,rfl⟩:=hv;rfl
 | agg cs=>cases hx
 | tup cs=>cases hx
 | undef=>cases hx
 | acc t g=>obtain⟨_,_,_,rfl⟩:=h.acc_form;rfl
 | eptr t g e i off=>obtain⟨_,rfl⟩:=h.eptr_form;rfl
 | lst L=>obtain⟨_,_,_,rfl⟩:=h.lst_.sl_form;rfl
 | eref X off=>obtain⟨_,rfl⟩:=h.eref_.cref_form;rfl
 | bs b=>obtain rfl:=h.bs_;rfl
 | si X=>exact(zH (zT (ql X.e X.x)) h.si_).2
 | nwin t g off n=>obtain⟨_,_,_,rfl⟩:=h.nwin_form;rfl
 | mp t g=>obtain⟨_,rfl⟩:=h.mp_form;rfl
 | _=>
  cases h with
  | pure h=>cases h<;>rfl
  | _=>rfl
theorem KH (h:RelI κ ι st a w) {e d:Nat} {x v:V} {cv:Value} {wr:Option (Nat×Ob)} (hr:Rv st.o ι (Stable κ.D st.o ι w) w x cv) (hx:KI st.o e d x=some (v,wr)):
  SemOk κ ι st.o w (Instr.box e cv) v wr:=by
 unfold KI at hx
 split at hx
 ·cases hx
 ·rename_i hne
  simp at hx
  obtain⟨rfl,rfl⟩:=hx
  refine⟨_,_,_,?_,Z1 h d e cv.cells x.cells (cells_lr hne hr),yx h d _ _ _ (by simp)⟩
  simp[Instr.box,newVar,newRow]
theorem qk:∀(t:Ty) (x:t.I),(cellsW t x).length=t.size
 | .int _,_ | .bool,_ | .str,_ | .list _,_ | .unit,_=>rfl
 | .pair a b,x=>by simp[cellsW,Ty.size,qk a x.1,qk b x.2]
 | .agg t,x=>qk t x
 | .alt _ _ _,_ | .alt1 _ _,_ | .inil,_=>rfl
theorem yk {S:Addr→Prop} {a:Ty} {cs cs':List V} {u:Value} (hl:cs.length=cs'.length) (hh:∀(i:Nat) (d d':V) (u:Value),cs[i]? = some d→cs'[i]? = some d'→Rp S w d u→Rp S w d' u)
  (h:Rp S w (vOf a cs) u):Rp S w (vOf a cs') u:=by
 have key:Rp S w (cs.headD .pnil) u→Rp S w (cs'.headD .pnil) u:=fun h=>by
  cases cs with
  | nil=>
   grind
  | cons x r=>
   cases cs' with
   | nil=>simp at hl
   | cons y r'=>exact hh 0 x y u rfl rfl h
 unfold vOf at h ⊢
 split
 ·rename_i t
  simp only at h
  cases h with
  | agg h1 h2=>
   (refine .agg (by omega) fun i d' u hd hu=>?_<;>grind[List.getElem?_eq_some_iff,List.getElem?_eq_getElem])
 grind
theorem qE {S:Addr→Prop}:∀(t:Ty) (x:t.I) (i:Nat) (d d':V) (u:Value),(cellsV t x)[i]? = some d→(cellsW t x)[i]? = some d'→Rp S w d u→Rp S w d' u
 | .int _,x,i,d,d',u,h,h',hr=>by have:d=d':=Option.some.inj (h.symm.trans h');exact this▸hr
 | .str,x,i,d,d',u,h,h',hr=>by have:d=d':=Option.some.inj (h.symm.trans h');exact this▸hr
 | .unit,x,i,d,d',u,h,h',hr=>by simp[cellsV] at h
 | .inil,x,i,d,d',u,h,h',hr=>by have:d=d':=Option.some.inj (h.symm.trans h');exact this▸hr
 | .bool,x,i,d,d',u,h,h',hr=>by
  cases i with
  | zero=>simp[cellsV] at h;simp[cellsW] at h';subst h h';exact .bs hr
  | succ i=>simp[cellsV] at h
 | .list e,x,i,d,d',u,h,h',hr=>by
  cases i with
  | zero=>simp[cellsV] at h;simp[cellsW] at h';subst h h';exact .lst hr
  | succ i=>simp[cellsV] at h
 | .pair a b,x,i,d,d',u,h,h',hr=>by
  simp only[cellsV,cellsW,List.getElem?_append,qf,qk] at h h'
  split at h
  ·rename_i hi;rw[if_pos hi] at h';exact qE a x.1 i d d' u h h' hr
  ·rename_i hi;rw[if_neg hi] at h';exact qE b x.2 _ d d' u h h' hr
 | .agg t,x,i,d,d',u,h,h',hr=>qE t x i d d' u h h' hr
 | .alt t a r,x,i,d,d',u,h,h',hr=>by
  cases i with
  | zero=>
   simp only[cellsW,List.getElem?_cons_zero,Option.some.injEq] at h'
   subst h'
   have e:(cellsV (.alt t a r) x).headD .pnil=d:=by
    cases hc:cellsV (.alt t a r) x with
    | nil=>rw[hc] at h;simp at h
    | cons y r=>rw[hc] at h;simpa using h
   exact .si (e▸hr)
  | succ i=>simp[cellsW] at h'
 | .alt1 t a,x,i,d,d',u,h,h',hr=>by
  cases i with
  | zero=>
   simp only[cellsV,cellsW,List.getElem?_cons_zero,Option.some.injEq] at h h'
   subst h h'
   cases hr with
   | ifc h=>exact .ifc (yk (by rw[qf,qk]) (qE a x) h)
  | succ i=>simp[cellsV] at h
theorem cellsW_rp {S:Addr→Prop} (t:Ty) (x:t.I) (vs:List Value) (h:LR (Rp S w) (cellsV t x) vs):LR (Rp S w) (cellsW t x) vs:=
 ⟨by rw [qk, ← qf t x]; exact h.1, fun i d u hd hu => by
  have hi:i<(cellsV t x).length:=by grind[qf,qk,List.getElem?_eq_some_iff]
  exact qE t x i _ d u (List.getElem?_eq_getElem hi) hd (h.2 i _ u (List.getElem?_eq_getElem hi) hu)⟩
theorem xS {S:Addr→Prop} (t:Ty) (x:t.I) (off:Nat) (vs:List Value) (h:LR (Rp S w) ((cellsV t x).drop off) vs):LR (Rp S w) ((cellsW t x).drop off) vs:=
 ⟨by rw [List.length_drop, qk, ← qf t x, ← List.length_drop]; exact h.1, fun i d u hd hu => by
  rw[List.getElem?_drop] at hd
  have hi:off+i<(cellsV t x).length:=by grind[qf,qk,List.getElem?_eq_some_iff]
  exact qE t x (off+i) _ d u (List.getElem?_eq_getElem hi) hd (h.2 i _ u (by grind) hu)⟩
theorem xg (e:Ty):∀(l:List e.I) (i:Nat),i<l.length→((l.flatMap (cellsV e)).drop (i*e.size)).take e.size=cellsV e (l.getD i e.dflt)
 | [],i,h=>by simp at h
 | x::r,0,h=>by
  simp only[List.flatMap_cons,Nat.zero_mul,List.drop_zero,List.getD_cons_zero]
  rw[←qf e x,List.take_left]
 | x::r,i+1,h=>by
  simp only[List.flatMap_cons,List.getD_cons_succ]
  have:(i+1)*e.size=(cellsV e x).length+i*e.size:=by rw[qf,Nat.succ_mul];omega
  rw[this,←List.drop_drop,List.drop_left]
  exact xg e r i (by simpa using h)
def xF (T:Tab):V→Option (List V)
 | .ptr s g off=>if (T.get s).gen=g then(match (T.get s).k with
  | .box _ cs | .row _ _ _ cs=>if off≤cs.length then some (cs.drop off) else none
  | _=>none) else none
 | .cref cs=>some cs
 | .eref X off=>some ((cellsW X.e X.x).drop off)
 | .eptr s g _ i off=>if (T.get s).gen=g then(match (T.get s).k with
  | .nrow _ _ _ L=>some ((cellsW L.e (L.l.getD i L.e.dflt)).drop off)
  | _=>none) else none
 | _=>none
theorem yg (h:RelI κ ι st a w) {x:V} {cv:Value} {cs:List V} (hr:Rv st.o ι (Stable κ.D st.o ι w) w x cv) (hx:xF st.o x=some cs):
  ∃ad vs,cv=.pointer (some ad)∧(∀(i:Nat) (u:Value),vs[i]? = some u→w.cell? (ad.add i)=some u)∧LR (Rv st.o ι (Stable κ.D st.o ι w) w) cs vs:=by
 unfold xF at hx
 split at hx
 ·rename_i s g off
  split at hx
  ·rename_i hg
   have hob:=h.tr.ob s
   have addl:∀i,(⟨ι s,off,none⟩:Addr).add i=⟨ι s,off+i,none⟩:=by grind[Addr.add]
   split at hx
   ·rename_i ty cs' hk
    rw[hk] at hob
    obtain⟨arr,fz,hh,_,hsz,hc⟩:=hob
    split at hx
    ·injection hx with hx;subst hx
     refine⟨_,arr.toList.drop off,hr.ptr_ hg (by simp[Tab.live,hk,OK.live]),fun i u hu=>?_,LR.drop ⟨by grind,hc⟩ off⟩
     grind[World.cell?]
    ·cases hx
   ·rename_i ty sz fz0 cs' hk
    rw[hk] at hob
    obtain⟨arr,fz,cap,hh,_,hsz,_,hle,hc⟩:=hob
    split at hx
    ·injection hx with hx;subst hx
     refine⟨_,(arr.toList.take cs'.length).drop off,hr.ptr_ hg (by simp[Tab.live,hk,OK.live]),fun i u hu=>?_,LR.drop ⟨by simp;omega,fun i d u hd hu=>?_⟩ off⟩
     ·grind[World.cell?]
     grind
    ·cases hx
   ·cases hx
  ·cases hx
 ·rename_i cs'
  injection hx with hx;subst hx
  obtain⟨ad,vs,rfl,hm,hl,hh⟩:=hr.cref_
  exact⟨ad,vs,rfl,fun i u hu=>(hm i u hu).2,hl,fun i d u hd hu=>.pure (hh i d u hd hu)⟩
 ·rename_i X off
  injection hx with hx;subst hx
  obtain⟨ad,vs,rfl,hm,hl,hh⟩:=(Rv.pure hr.eref_).cref_ (T:=st.o) (ι:=ι)
  have:=xS X.e X.x off vs ⟨hl,hh⟩
  exact⟨ad,vs,rfl,fun i u hu=>(hm i u hu).2,this.1,fun i d u hd hu=>.pure (this.2 i d u hd hu)⟩
 ·rename_i s g sz i off
  split at hx
  ·rename_i hg
   split at hx
   ·rename_i ty fz nl L hk
    injection hx with hx;subst hx
    have hT:st.o.get s=⟨g,.nrow ty fz nl L⟩:=by (cases hTs:st.o.get s<;>grind)
    obtain⟨rfl,hi,rfl⟩:=hr.eptr_ hT
    have hob:=h.tr.ob s
    rw[hk] at hob
    obtain⟨arr,fz1,cap,hh,_,hsz,h0,hle,hc⟩:=hob.resolve_left (fun⟨_,e⟩=>by grind)
    have hlr:LR (Rp (Stable κ.D st.o ι w) w) L.cells (arr.toList.take L.cells.length):=⟨by simp;omega,fun j d u hd hu=>by
     rw[List.getElem?_take] at hu
     split at hu
     ·exact(hc j d u hd hu).pure_ (TL.pure_cells hd)
     ·cases hu⟩
    have h1:=(hlr.drop (i*L.e.size)).take L.e.size
    rw[show L.cells=L.l.flatMap (cellsV L.e) from rfl,xg L.e L.l i hi] at h1
    have h2:=xS _ _ off _ (h1.drop off)
    refine⟨_,_,rfl,fun j u hu=>?_,h2.1,fun j d u hd hu=>.pure (h2.2 j d u hd hu)⟩
    have hadd:(⟨ι s,i*L.e.size+off,none⟩:Addr).add j=⟨ι s,i*L.e.size+off+j,none⟩:=by unfold Addr.add;split<;>simp_all
    grind[World.cell?]
   ·cases hx
  ·cases hx
 ·cases hx
def vR (P:Program) (t:Nat) (cs:List V):Option V:=
 match P.underlying t,P.info? t with
 | some d,some i=>if kU d then(if i.size≤cs.length then some (.agg (cs.take i.size)) else none) else cs.head?
 | _,_=>none
theorem Qr {T:Tab} {S:Addr→Prop} {t:Nat} {cs:List V} {vs:List Value} {ad:Addr} {v:V}
  (hm:∀(i:Nat) (u:Value),vs[i]? = some u→w.cell? (ad.add i)=some u) (hr:LR (Rv T ι S w) cs vs) (hx:vR κ.P t cs=some v):
  ∃cv,(loadVar t ad).run κ.P w=.ok cv w∧Rv T ι S w v cv:=by
 unfold vR at hx
 split at hx
 ·rename_i d i hd hi
  cases hag:kU d with
  | true=>
   simp only[hag,if_true] at hx
   split at hx
   ·rename_i hle
    injection hx with hx;subst hx
    have hl:(vs.take i.size).length=i.size:=by have:=hr.1;simp;omega
    have hrun:=run_loadCells_list (P:=κ.P) w ad (vs.take i.size) (fun j u hu=>by
     grind)
    rw[hl] at hrun
    refine⟨.agg (vs.take i.size).toArray,?_,?_⟩
    ·simp_all[loadVar,zD,run_size]
    ·have:=hr.take i.size
     exact .agg this.1 this.2
   ·cases hx
  | false=>
   simp only[hag,Bool.false_eq_true,if_false] at hx
   cases cs with
   | nil=>cases hx
   | cons c r=>
    simp at hx;subst hx
    obtain⟨u,vs',rfl,hu,_⟩:=hr.head
    have hc:=hm 0 u rfl
    simp_all[Addr.add,loadVar,zD]
 ·cases hx
def xk (P:Program) (T:Tab) (t:Nat) (x:V):Option (V×Option (Nat×Ob)):=
 match xF T x with
 | some cs=>(vR P t cs).map fun v=>(v,none)
 | none=>none
theorem XN (h:RelI κ ι st a w) {t:Nat} {x v:V} {cv:Value} {wr:Option (Nat×Ob)} (hr:Rv st.o ι (Stable κ.D st.o ι w) w x cv) (hx:xk κ.P st.o t x=some (v,wr)):
  SemOk κ ι st.o w (Instr.loadAt t cv) v wr:=by
 unfold xk at hx
 split at hx
 ·rename_i cs hcs
  cases hl:vR κ.P t cs with
  | none=>simp[hl] at hx
  | some u=>
   simp[hl] at hx
   obtain⟨rfl,rfl⟩:=hx
   obtain⟨ad,vs,rfl,hm,hlr⟩:=yg h hr hcs
   obtain⟨cv',hrun,hv⟩:=Qr (κ:=κ) hm hlr hl
   grind[SemOk.same,Instr.loadAt,Instr.sureAddr]
 ·cases hx
theorem run_storeCells_fz (P:Program) (g o:Nat) (t:TypeId) (fz:Nat×Nat):∀(vs:List Value) (i:Nat) (cur:Array Value) (w:World),w.heap[g]? = some (.cells cur t fz)→
  (∀j,j<cur.size→¬(fz.1≤j∧j<fz.2))→o+i+vs.length≤cur.size→(∀v∈vs,v.oneCell'=true)→
  (storeCells ⟨g,o,none⟩ vs i).run P w=.ok () (w.setRow g (cur.toList.take (o+i)++vs++cur.toList.drop (o+i+vs.length)).toArray)
 | [],i,cur,w,hg,_,_,_=>by
  simp only[storeCells,List.append_nil,List.length_nil,Nat.add_zero,List.take_append_drop,Array.toArray_toList]
  rw[setRow_self w g cur t fz hg]
  rfl
 | v::rest,i,cur,w,hg,hf,hl,h1=>by
  have hi:o+i<cur.size:=by grind
  have hadd:(⟨g,o,none⟩:Addr).add i=⟨g,o+i,none⟩:=by grind[Addr.add]
  have hcell:w.cell? ⟨g,o+i,none⟩=some cur[o+i]:=by simp[World.cell?,hg,hi]
  have hfro:w.frozen? ⟨g,o+i,none⟩=false:=by
   grind[World.frozen?]
  have hst:(store ((⟨g,o,none⟩:Addr).add i) v).run P w=.ok () (w.setRow g (cur.setIfInBounds (o+i) v)):=by
   grind[run_store,setCell_eq_setRow]
  have ih:=run_storeCells_fz P g o t fz rest (i+1) (cur.setIfInBounds (o+i) v) (w.setRow g (cur.setIfInBounds (o+i) v)) (setRow_heap w g cur _ t _ hg) (by simpa using hf) (by grind) (fun x hx=>h1 x (by simp[hx]))
  simp only[storeCells,Sem.run_bind,hst,Result.andThen_ok,ih,setRow_setRow]
  congr 3
  have e:=list_seg_step cur.toList (o+i) v rest (by grind)
  simpa [Array.toList_setIfInBounds,Nat.add_assoc] using e
end
end Go.Abs
namespace Go.Abs
open Go.RowKit
set_option linter.unusedVariables false
set_option linter.unusedSimpArgs false
def UnitOk (κ:Cx) (ι:Nat→Nat) (T:Tab) (w:World) (s:Sem Unit) (wr:Option (Nat×Ob)):Prop:=
 ∃w' ι',s.run κ.P w=.ok () w'∧To κ T ι w (wrT T wr) ι' w'
def splice (cs:List V) (off:Nat) (vs:List V):List V:=cs.take off++(vs++cs.drop (off+vs.length))
theorem LR.splice {R:V→Value→Prop} {cs:List V} {us:List Value} {vs:List V} {ws:List Value} (h:LR R cs us) (h':LR R vs ws) (off:Nat):
  LR R (splice cs off vs) (us.take off++(ws++us.drop (off+ws.length))):=by
 unfold Abs.splice
 rw[h'.1]
 exact(h.take off).append (h'.append (h.drop _))
theorem length_splice {cs vs:List V} {off:Nat} (h:off+vs.length≤cs.length):(splice cs off vs).length=cs.length:=by
 simp[splice];omega
section
variable {κ : Cx} {ι : Nat → Nat} {st : St} {a : Act} {w : World}
def V.isU:V→Bool
 | .undef=>true
 | _=>false
theorem V.isU_ne {v:V} (h:v.isU=false):v≠.undef:=by rintro rfl;cases h
theorem splice_prefix {R:V→Value→Prop} {cs vs:List V} {us ws:List Value} (hle:cs.length≤us.length)
  (h:∀(i:Nat) (d:V) (u:Value),cs[i]? = some d→us[i]? = some u→R d u) (h':LR R vs ws) {off:Nat} (hoff:off+vs.length≤cs.length):
  ∀(i:Nat) (d:V) (u:Value),(splice cs off vs)[i]? = some d→(us.take off++(ws++us.drop (off+ws.length)))[i]? = some u→R d u:=by
 intro i d u hd hu
 have hl:=h'.1
 unfold splice at hd
 rw[List.getElem?_append,List.getElem?_append] at hd hu
 have e1:(cs.take off).length=off:=by simp;omega
 have e2:(us.take off).length=off:=by simp;omega
 rw[e1] at hd
 rw[e2] at hu
 by_cases h1:i<off
 ·grind
 ·rw[if_neg h1] at hd hu
  rw[hl] at hd
  by_cases h2:i-off<ws.length
  ·rw[if_pos h2] at hd hu
   exact h'.2 _ d u hd hu
  grind
def aStore (P:Program) (T:Tab) (t:Nat) (x v:V):Option (Option (Nat×Ob)):=
 match x with
 | .ptr s g off=>
  match P.info? t with
  | some i=>
   if v.isU=false∧(T.get s).gen=g∧v.cells.length=i.size∧v.cells.all V.cellOk=true then
    match (T.get s).k with
    | .box ty cs=>if off+i.size≤cs.length then some (some (s,⟨g,.box ty (splice cs off v.cells)⟩)) else none
    | .row ty sz false cs=>if off+i.size≤cs.length then some (some (s,⟨g,.row ty sz false (splice cs off v.cells)⟩)) else none
    | _=>none
   else none
  | none=>none
 | _=>none
theorem aStore_ok (h:RelI κ ι st a w) {t:Nat} {x v:V} {cx cv:Value} {wr:Option (Nat×Ob)} (hrx:Rv st.o ι (Stable κ.D st.o ι w) w x cx)
  (hrv:Rv st.o ι (Stable κ.D st.o ι w) w v cv) (hx:aStore κ.P st.o t x v=some wr):UnitOk κ ι st.o w (Instr.storeAt t cx cv) wr:=by
 unfold aStore at hx
 split at hx
 ·rename_i s g off
  split at hx
  ·rename_i i hi
   split at hx
   ·rename_i hc
    obtain⟨hne,hg,hlen,hall⟩:=hc
    have hlr:=cells_lr (V.isU_ne hne) hrv
    have hsz:cv.cells.size=i.size:=by rw[←hlen];simpa using hlr.1.symm
    have hszl:cv.cells.toList.length=i.size:=by grind
    have hone:∀u∈cv.cells.toList,u.oneCell'=true:=by
     intro u hu
     obtain⟨j,hj⟩:=List.mem_iff_getElem?.1 hu
     have hjl:j<v.cells.length:=by grind
     exact cell_one (List.all_eq_true.1 hall _ (List.getElem_mem hjl)) (hlr.2 j _ u (List.getElem?_eq_getElem hjl) hj)
    have hob:=h.tr.ob s
    have key:∀(ty:Nat) (cs:List V) (arr:Array Value) (fz:Nat×Nat),w.heap[ι s]? = some (.cells arr ty fz)→(∀j,j<arr.size→¬(fz.1≤j∧j<fz.2))→
      cs.length≤arr.size→off+i.size≤cs.length→st.o.live s→
      (Instr.storeAt t cx cv).run κ.P w=.ok () (w.setRow (ι s) (arr.toList.take off++(cv.cells.toList++arr.toList.drop (off+cv.cells.toList.length))).toArray):=by
     intro ty cs arr fz hh hf hle hoff hl
     have hp:=hrx.ptr_ hg hl
     subst hp
     have hst:=run_storeCells_fz κ.P (ι s) off ty fz cv.cells.toList 0 arr w hh hf (by grind) hone
     simp only[Nat.add_zero,List.append_assoc] at hst
     simp only[Instr.storeAt,Instr.sureAddr,storeVar,Sem.run_bind,Sem.run_pure,Result.andThen_ok,run_size hi,hsz,ne_eq,not_true_eq_false,if_false,hst]
    split at hx
    ·rename_i ty cs hk
     rw[hk] at hob
     obtain⟨arr,fz,hh,hf,has,hc⟩:=hob
     split at hx
     ·rename_i hoff
      injection hx with hx;subst hx
      have hl:st.o.live s:=by simp[Tab.live,hk,OK.live]
      have hns:(arr.toList.take off++(cv.cells.toList++arr.toList.drop (off+cv.cells.toList.length))).toArray.size=arr.size:=by simp[hsz];omega
      refine⟨_,ι,key ty cs arr fz hh hf (by omega) hoff hl,?_⟩
      refine To.turn h s hl ⟨g,_⟩ rfl rfl rfl (by simp) (fun j hj=>setRow_other w (ι s) j _ hj) (by simp[hg]) (fun p _ hp=>by simp[hk,OK.fzAt] at hp) (fun ty' sz fz' cs' e=>by simp at e) ?_ (hsh:=Shape.of hh (setRow_heap w (ι s) arr _ ty fz hh) hns)
      intro T' ι' H
      refine⟨_,fz,setRow_heap w (ι s) arr _ ty fz hh,fun j hj=>hf j (by grind),by grind[length_splice],?_⟩
      exact splice_prefix (by simp[has]) (fun j d u hd hu=>(hc j d u hd hu).mono H) (hlr.mono fun d u hd=>hd.mono H) (by omega)
     ·cases hx
    ·rename_i ty sz cs hk
     rw[hk] at hob
     obtain⟨arr,fz,cap,hh,hf,has,hsz0,hle,hc⟩:=hob
     split at hx
     ·rename_i hoff
      injection hx with hx;subst hx
      have hl:st.o.live s:=by simp[Tab.live,hk,OK.live]
      have hns:(arr.toList.take off++(cv.cells.toList++arr.toList.drop (off+cv.cells.toList.length))).toArray.size=arr.size:=by simp[hsz];omega
      have hnew:=setRow_heap w (ι s) arr (arr.toList.take off++(cv.cells.toList++arr.toList.drop (off+cv.cells.toList.length))).toArray ty fz hh
      refine⟨_,ι,key ty cs arr fz hh (fun j hj=>hf j (.inl hj)) hle hoff hl,?_⟩
      refine To.turn h s hl ⟨g,_⟩ rfl rfl rfl (by simp) (fun j hj=>setRow_other w (ι s) j _ hj) (by simp[hg]) (fun p _ hp=>by simp[hk,OK.fzAt] at hp) (fun ty' sz' fz' cs' e _=>?_) ?_ (hsh:=Shape.of hh hnew hns)
      ·grind
      ·intro T' ι' H
       refine⟨_,fz,cap,hnew,fun j hj=>hf j (by grind),by grind,hsz0,by rw[hns,length_splice (by omega)];exact hle,?_⟩
       exact splice_prefix (by simpa using hle) (fun j d u hd hu=>(hc j d u hd hu).mono H) (hlr.mono fun d u hd=>hd.mono H) (by omega)
     ·cases hx
    ·cases hx
   ·cases hx
  ·cases hx
 ·cases hx
def aOff (x:V) (n:Nat):Option V:=
 match x with
 | .ptr t g off=>some (.ptr t g (off+n))
 | .cref cs=>if n≤cs.length then some (.cref (cs.drop n)) else none
 | .eref X off=>some (.eref X (off+n))
 | .eptr t g sz i off=>some (.eptr t g sz i (off+n))
 | _=>none
theorem aOff_ok {T:Tab} {S:Addr→Prop} {x y:V} {cx:Value} {n:Nat} (hr:Rv T ι S w x cx) (hx:aOff x n=some y):
  ∃ad,cx=.pointer (some ad)∧Rv T ι S w y (.pointer (some (ad.add n))):=by
 unfold aOff at hx
 split at hx
 ·rename_i t g off
  injection hx with hx;subst hx
  cases hr with
  | pure h=>cases h
  | ptr hv hg h=>
   obtain⟨ad,rfl⟩:=hv
   refine⟨ad,rfl,.ptr ⟨_,rfl⟩ hg fun e hl=>?_⟩
   grind[Addr.add]
 ·rename_i cs
  split at hx
  ·injection hx with hx;subst hx
   obtain⟨ad,vs,rfl,hm,hl,hh⟩:=hr.cref_
   refine⟨ad,rfl,.pure (.cref (vs:=vs.drop n) (fun i u hu=>?_) (by simp[hl]) (fun i d u hd hu=>?_))⟩
   ·grind[add_add]
   grind
  ·cases hx
 ·rename_i X off
  injection hx with hx;subst hx
  obtain⟨ad,vs,rfl,hm,hl,hh⟩:=(Rv.pure hr.eref_).cref_ (T:=T) (ι:=ι)
  refine⟨ad,rfl,.pure (.eref (.cref (vs:=vs.drop n) (fun i u hu=>?_) (by grind) (fun i d u hd hu=>?_)))⟩
  ·grind[add_add]
  grind
 ·rename_i t g sz i off
  injection hx with hx;subst hx
  cases hr with
  | pure h=>cases h
  | eptr hv hg h=>
   obtain⟨ad,rfl⟩:=hv
   refine⟨ad,rfl,.eptr ⟨_,rfl⟩ hg fun ty fz nl L hT=>?_⟩
   grind[Addr.add]
 ·cases hx
def aField (P:Program) (s:Nat) (x:V) (f:Nat):Option V:=
 match P.underlying s with
 | some (.struct fs)=>match fs[f]? with
  | some fd=>match P.info? fd.type with
   | some i=>if i.size=0 then none else aOff x fd.offset
   | none=>none
  | none=>none
 | _=>none
theorem aField_ok (h:RelI κ ι st a w) {s f:Nat} {x v:V} {cx:Value} (hr:Rv st.o ι (Stable κ.D st.o ι w) w x cx) (hx:aField κ.P s x f=some v):
  SemOk κ ι st.o w (Instr.fieldAt s cx f) v none:=by
 unfold aField at hx
 split at hx
 ·rename_i fs hs
  split at hx
  ·rename_i fd hf
   split at hx
   ·rename_i i hi
    split at hx
    ·cases hx
    ·rename_i h0
     obtain⟨ad,rfl,hv⟩:=aOff_ok hr hx
     refine SemOk.same h ?_ hv
     simp[Instr.fieldAt,run_underlying hs,hf,Instr.sureAddr,fieldPlace,run_size hi,h0]
   ·cases hx
  ·cases hx
 ·cases hx
def Xr (x:V) (size len:Nat):Bool:=match x with
 | .eptr _ _ sz 0 0=>sz==size&&len != 1
 | _=>false
def yO (T:Tab) (x:V) (size len:Nat) (i:Int):Option V:=match x with
 | .eptr s g _ 0 0=>if (T.get s).gen=g then(match (T.get s).k with
  | .nrow _ _ _ L=>if L.e.size=size∧0≤i∧i<L.l.length∧i<len then some (.eptr s g size i.toNat 0) else none
  | _=>none) else none
 | _=>none
def aIndexAddr (P:Program) (T:Tab) (t:Nat) (x ix:V):Option V:=
 match ix with
 | .int _ i=>
  match P.underlying t with
  | some (.array len e)=>match P.info? e with
   | some inf=>if Xr x inf.size len=true then yO T x inf.size len i else if 0≤i∧i<len then aOff x (i.toNat*inf.size) else none
   | none=>none
  | some (.slice e)=>match P.info? e with
   | some inf=>match x with
    | .own s g off n=>if 0≤i∧i<n∧(T.get s).gen=g then(match (T.get s).k with
      | .row _ sz _ _=>if sz=inf.size then some (.ptr s g ((off+i.toNat)*sz)) else none
      | _=>none) else none
    | .sl n cs=>if 0≤i∧i<n∧(i.toNat+1)*inf.size≤cs.length then some (.cref ((cs.drop (i.toNat*inf.size)).take inf.size)) else none
    | .lst L=>if L.e.size=inf.size then(if 0≤i∧i<L.l.length then some (.eref ⟨L.e,L.l.getD i.toNat L.e.dflt⟩ 0) else none) else none
    | .acc s g=>if (T.get s).gen=g then(match (T.get s).k with
      | .nrow _ _ _ L=>if L.e.size=inf.size then(if 0≤i∧i<L.l.length then some (.eptr s g inf.size i.toNat 0) else none) else none
      | _=>none) else none
    | _=>none
   | none=>none
  | _=>none
 | _=>none
theorem aIndexAddr_ok (h:RelI κ ι st a w) {t:Nat} {x ix v:V} {cx ci:Value} (hr:Rv st.o ι (Stable κ.D st.o ι w) w x cx) (hi:Rv st.o ι (Stable κ.D st.o ι w) w ix ci)
  (hx:aIndexAddr κ.P st.o t x ix=some v):SemOk κ ι st.o w (Instr.indexAt t cx ci) v none:=by
 unfold aIndexAddr at hx
 split at hx
 ·rename_i k i
  have:=hi.int_;subst this
  split at hx
  ·rename_i len e ht
   split at hx
   ·rename_i inf hinf
    split at hx
    ·rename_i hA
     unfold yO at hx
     split at hx
     ·rename_i s g sz
      split at hx
      ·rename_i hg
       split at hx
       ·rename_i ty fz nl L hk
        split at hx
        ·rename_i hc
         obtain⟨hsz,h0,h1,h2⟩:=hc
         injection hx with hx;subst hx
         have hT:st.o.get s=⟨g,.nrow ty fz nl L⟩:=by (cases hTs:st.o.get s<;>grind)
         obtain⟨hse,hil,rfl⟩:=hr.eptr_ hT
         refine SemOk.same h (cv:=.pointer (some ((⟨ι s,0*sz+0,none⟩:Addr).add (i.toNat*inf.size)))) ?_ ?_
         ·simp[Instr.indexAt,asIntOf,run_underlying ht,Instr.sureAddr,h0,h2,run_size hinf]
         ·refine .eptr ⟨_,rfl⟩ (by omega) fun ty' fz' nl' L' e=>?_
          rw[hT] at e
          simp at e
          obtain⟨rfl,rfl,rfl,rfl⟩:=e
          grind[Addr.add,Xr]
        ·cases hx
       ·cases hx
      ·cases hx
     ·cases hx
    split at hx
    ·rename_i hc
     obtain⟨ad,rfl,hv⟩:=aOff_ok hr hx
     refine SemOk.same h ?_ hv
     simp[Instr.indexAt,asIntOf,run_underlying ht,Instr.sureAddr,hc,run_size hinf]
    ·cases hx
   ·cases hx
  ·rename_i e ht
   split at hx
   ·rename_i inf hinf
    split at hx
    ·rename_i s g off n
     split at hx
     ·rename_i hc
      obtain⟨h0,h1,hg⟩:=hc
      split at hx
      ·rename_i ty sz fz0 cs hk
       split at hx
       ·rename_i hsz
        injection hx with hx;subst hx
        have hT:st.o.get s=⟨g,.row ty sz fz0 cs⟩:=by (cases hTs:st.o.get s<;>grind)
        obtain⟨ad,c,cap,arr,ty1,fz,rfl,hb,hh,has,hn,hcap,hpl⟩:=hr.own_ hT
        have:=hpl (by omega);subst this
        refine SemOk.same h (cv:=.pointer (some ((⟨ι s,off*sz,none⟩:Addr).add (i.toNat*inf.size)))) ?_ ?_
        ·simp[Instr.indexAt,asIntOf,run_underlying ht,h0,h1,run_size hinf]
        ·refine .ptr ⟨_,rfl⟩ (by omega) fun _ _=>?_
         grind[Addr.add]
       ·cases hx
      ·cases hx
     ·cases hx
    ·rename_i n cs
     split at hx
     ·rename_i hc
      obtain⟨h0,h1,hle⟩:=hc
      injection hx with hx;subst hx
      obtain⟨ad,c,vs,rfl,hnc,hm,hl,hh⟩:=hr.sl_.resolve_left (fun e=>by omega)
      refine SemOk.same h (cv:=.pointer (some (ad.add (i.toNat*inf.size)))) ?_ ?_
      ·simp[Instr.indexAt,asIntOf,run_underlying ht,h0,h1,run_size hinf]
      ·refine .pure (.cref (vs:=(vs.drop (i.toNat*inf.size)).take inf.size) (fun j u hu=>?_) (by simp[hl]) (fun j d u hd hu=>?_))
       ·grind[add_add]
       grind
     ·cases hx
    ·rename_i L
     split at hx
     ·rename_i hsz
      split at hx
      ·rename_i hc
       obtain⟨h0,h1⟩:=hc
       injection hx with hx;subst hx
       have hn:i.toNat<L.l.length:=by omega
       obtain⟨ad,c,vs,rfl,hnc,hm,hl,hh⟩:=(Rv.pure hr.lst_).sl_ (T:=st.o) (ι:=ι) |>.resolve_left (fun e=>by omega)
       refine SemOk.same h (cv:=.pointer (some (ad.add (i.toNat*inf.size)))) ?_ ?_
       ·simp[Instr.indexAt,asIntOf,run_underlying ht,h0,h1,run_size hinf]
       ·have hlr:LR (Rp (Stable κ.D st.o ι w) w) L.cells vs:=⟨hl,hh⟩
        have h2:=(hlr.drop (i.toNat*L.e.size)).take L.e.size
        rw[show L.cells=L.l.flatMap (cellsV L.e) from rfl,xg L.e L.l _ hn] at h2
        refine .pure (.eref (.cref (vs:=(vs.drop (i.toNat*L.e.size)).take L.e.size) (fun j u hu=>?_) (by simpa using h2.1) (by simpa using h2.2)))
        grind[add_add]
      ·cases hx
     ·cases hx
    ·rename_i s g
     split at hx
     ·rename_i hg
      split at hx
      ·rename_i ty fz nl L hk
       split at hx
       ·rename_i hsz
        split at hx
        ·rename_i hc
         obtain⟨h0,h1⟩:=hc
         injection hx with hx;subst hx
         have hT:st.o.get s=⟨g,.nrow ty fz nl L⟩:=by (cases hTs:st.o.get s<;>grind)
         obtain⟨_,ad,c,cap,arr,ty1,fz1,rfl,hb,hh,has,hn,hcap,hpl⟩:=(hr.acc_ hT).resolve_left (fun⟨_,e,_⟩=>by grind)
         have:=hpl (by omega);subst this
         refine SemOk.same h (cv:=.pointer (some ((⟨ι s,0*L.e.size,none⟩:Addr).add (i.toNat*inf.size)))) ?_ ?_
         ·simp[Instr.indexAt,asIntOf,run_underlying ht,h0,h1,run_size hinf]
         ·refine .eptr ⟨_,rfl⟩ (by omega) fun ty' fz' nl' L' e=>?_
          rw[hT] at e
          simp at e
          obtain⟨rfl,rfl,rfl,rfl⟩:=e
          grind[Addr.add]
        ·cases hx
       ·cases hx
      ·cases hx
     ·cases hx
    ·cases hx
   ·cases hx
  ·cases hx
 ·cases hx
end
end Go.Abs
namespace Go.Abs
open Go.RowKit
set_option linter.unusedVariables false
set_option linter.unusedSimpArgs false
theorem QB (off:Nat):∀(l:List Value) (k:Nat) (cells:Array Value),off+k+l.length≤cells.size→
  ((l.zipIdx k).foldl (fun(cs:Array Value) x=>cs.setIfInBounds (off+x.2) x.1) cells).toList=cells.toList.take (off+k)++(l++cells.toList.drop (off+k+l.length))
 | [],k,cells,_=>by simp
 | v::r,k,cells,h=>by
  simp only[List.zipIdx_cons,List.foldl_cons]
  rw[QB off r (k+1) _ (by simp at h ⊢;omega)]
  have e:=list_seg_step cells.toList (off+k) v r (by simp at h ⊢;omega)
  simp only[Array.toList_setIfInBounds]
  simp only[←Nat.add_assoc,List.append_assoc] at e ⊢
  exact e
def za (place:Nat→Option (Nat×Nat)):List V→List (Nat×V)→Option (List V)
 | cs,[]=>some cs
 | cs,(i,v)::rest=>
  match place i with
  | none=>none
  | some (off,size)=>if v.isU=false∧v.cells.length=size∧off+size≤cs.length then za place (splice cs off v.cells) rest else none
theorem jk {T:Tab} {ι:Nat→Nat} {S:Addr→Prop} {w:World} (place:Nat→Option (Nat×Nat)):∀(parts:List (Nat×V)) (cparts:List (Nat×Value)) (cs cs':List V) (arr:Array Value),
  LR (Rv T ι S w) cs arr.toList→parts.length=cparts.length→(∀(j i:Nat) (v:V),parts[j]? = some (i,v)→∃u,cparts[j]? = some (i,u)∧Rv T ι S w v u)→
  za place cs parts=some cs'→∃arr',Instr.fill place arr cparts=some arr'∧LR (Rv T ι S w) cs' arr'.toList
 | [],cparts,cs,cs',arr,h,hl,hp,hf=>by
  have:cparts=[]:=List.eq_nil_of_length_eq_zero (by grind)
  subst this
  simp[za] at hf;subst hf
  exact⟨arr,rfl,h⟩
 | (i,v)::rest,[],cs,cs',arr,h,hl,hp,hf=>by simp at hl
 | (i, v) :: rest, (i', u) :: crest, cs, cs', arr, h, hl, hp, hf => by
  obtain⟨u',hu',hv⟩:=hp 0 i v rfl
  simp at hu'
  obtain⟨rfl,rfl⟩:=hu'
  simp only[za] at hf
  cases hpl:place i' with
  | none=>grind
  | some os=>
   obtain⟨off,size⟩:=os
   simp only[hpl] at hf
   split at hf
   ·rename_i hc
    obtain⟨hne,hsz,hoff⟩:=hc
    have hlr:=cells_lr (V.isU_ne hne) hv
    have hu:u.cells.size=size:=by rw[←hsz];simpa using hlr.1.symm
    have harr:cs.length=arr.size:=by simpa using h.1
    have hfold:=QB off u.cells.toList 0 arr (by simp;omega)
    obtain⟨arr',h1,h2⟩:=jk place rest crest (splice cs off v.cells) cs' (u.cells.zipIdx.foldl (fun(cs:Array Value) x=>cs.setIfInBounds (off+x.2) x.1) arr)
     (by
      rw[←Array.foldl_toList,Array.toList_zipIdx,hfold]
      simpa using h.splice hlr off) (by simpa using hl)
     (fun j i v hj=>hp (j+1) i v (by simpa using hj)) hf
    grind[Instr.fill]
   ·cases hf
def repl (zs:List V) (n:Nat):List V:=(List.replicate n zs).flatten
theorem qV (zs:List V) (n:Nat):(repl zs n).length=n*zs.length:=by simp[repl]
theorem zy (zs:List V):∀(n i:Nat),i<n*zs.length→(repl zs n)[i]? = zs[i % zs.length]?
 | 0,i,h=>by simp at h
 | n+1,i,h=>by
  simp only[repl,List.replicate_succ,List.flatten_cons]
  rw[List.getElem?_append]
  split
  ·rename_i hi;rw[Nat.mod_eq_of_lt hi]
  ·rename_i hi
   have:=zy zs n (i-zs.length) (by rw[Nat.add_mul] at h;omega)
   simp only[repl] at this
   rw[this,←Nat.mod_eq_sub_mod (by omega)]
theorem LR.made {R:V→Value→Prop} {zs:List V} {z:Array Value} (h:LR R zs z.toList) (n m:Nat) (hm:m*z.size=n):LR R (repl zs m) (madeCells z n).toList:=by
  have hzl:zs.length=z.size:=by simpa using h.1
  refine⟨by simp[qV,madeCells,hzl,hm],fun i d u hd hu=>?_⟩
  have hi:i<m*zs.length:=by grind[List.getElem?_eq_some_iff,qV]
  rw[zy zs m i hi] at hd
  have hin:i<n:=by grind
  have h0 : 0 < z.size := by grind
  have hmod:i % z.size<z.size:=Nat.mod_lt _ h0
  have:(madeCells z n).toList[i]? = some z[i % z.size]:=by
    grind[madeCells]
  rw[this] at hu
  injection hu with hu;subst hu
  rw[hzl] at hd
  exact h.2 _ d _ hd (by simp[hmod])
section
variable {κ : Cx} {ι : Nat → Nat} {st : St} {a : Act} {w : World}
def St.parts (st:St) (ps:List (Nat×Operand)):List (Nat×V):=ps.map fun p=>(p.1,st.eval p.2)
theorem kL (h:RelI κ ι st a w) (ps:Array (Nat×Operand)):(st.parts ps.toList).length=(ps.map fun(i,x)=>(i,a.eval x)).toList.length∧
  ∀(j i:Nat) (v:V),(st.parts ps.toList)[j]? = some (i,v)→∃u,(ps.map fun(i,x)=>(i,a.eval x)).toList[j]? = some (i,u)∧Rv st.o ι (Stable κ.D st.o ι w) w v u:=by
 refine⟨by simp[St.parts],fun j i v hj=>?_⟩
 simp only[St.parts,List.getElem?_map] at hj
 cases hp:ps.toList[j]? with
 | none=>simp[hp] at hj
 | some p=>
  simp[hp] at hj
  obtain⟨rfl,rfl⟩:=hj
  refine⟨a.eval p.2,?_,h.eval p.2⟩
  simp only[Array.toList_map,List.getElem?_map,hp,Option.map_some]
theorem jC {α β:Type} (P:Program) (f:α→Sem β) (g:α→β) (w:World):∀(l:List α),(∀x∈l,(f x).run P w=.ok (g x) w)→(l.mapM f).run P w=.ok (l.map g) w
 | [],_=>by simp
 | x::r,h=>by
  have ih:=jC P f g w r fun y hy=>h y (by simp[hy])
  simp[List.mapM_cons,h x (by simp),ih]
theorem J9 {α β:Type} (P:Program) (f:α→Sem β) (g:α→β) (w:World) (l:Array α) (h:∀x∈l.toList,(f x).run P w=.ok (g x) w):(l.mapM f).run P w=.ok (l.map g) w:=by
 rw[Array.mapM_eq_mapM_toList,Sem.run_map,jC P f g w l.toList h]
 simp only[Result.andThen_ok]
 congr 1
 exact Array.ext' (by simp)
def qW (P:Program) (fs:Array Field) (i:Nat):Option (Nat×Nat):=
 match fs[i]? with
 | some f=>some (f.offset,((P.info? f.type).map (·.size)).getD 0)
 | none=>none
def ZE (P:Program) (t:Nat) (ps:List (Nat×V)):Option V:=
 match P.underlying t,zeroC P t with
 | some (.struct fs),some zs=>if fs.all (fun f=>(P.info? f.type).isSome)=true then(za (qW P fs) zs ps).map .agg else none
 | some (.array _ e),some zs=>match P.info? e with
  | some i=>(za (fun j=>some (j*i.size,i.size)) zs ps).map .agg
  | none=>none
 | _,_=>none
theorem JP (h:RelI κ ι st a w) {t:Nat} {ps:Array (Nat×Operand)} {v:V} (hx:ZE κ.P t (st.parts ps.toList)=some v):
  SemOk κ ι st.o w (Instr.build t (ps.map fun(i,x)=>(i,a.eval x))) v none:=by
 obtain⟨hl,hp⟩:=kL h ps
 unfold ZE at hx
 split at hx
 ·rename_i fs zs ht hz
  obtain⟨z,i,hi,hzz,hsz,hrun,hlr⟩:=qG hz
  split at hx
  ·rename_i hall
   cases hf:za (qW κ.P fs) zs (st.parts ps.toList) with
   | none=>simp[hf] at hx
   | some cs=>
    simp[hf] at hx;subst hx
    obtain⟨arr,h1,h2⟩:=jk (qW κ.P fs) _ _ zs cs z.cells (hlr.mono fun _ _=>.pure) hl hp hf
    have hmap:=J9 κ.P (fun f:Field=>(do pure (f.offset,←sizeOf f.type):Sem (Nat×Nat))) (fun f=>(f.offset,((κ.P.info? f.type).map (·.size)).getD 0)) w fs (fun f hf=>by
     have:=Array.all_eq_true_iff_forall_mem.1 hall f (by simpa using hf)
     obtain⟨i,hi⟩:=Option.isSome_iff_exists.1 this
     simp[run_size hi,hi])
    have hpl:(fun i=>(fs.map fun f=>(f.offset,((κ.P.info? f.type).map (·.size)).getD 0))[i]?)=qW κ.P fs:=by
     grind[qW]
    refine SemOk.same h (cv:=.agg arr) ?_ (.agg h2.1 h2.2)
    simp only[Instr.build,Sem.run_bind,hrun,Result.andThen_ok,run_underlying ht,hmap]
    rw[hpl,h1]
    rfl
  ·cases hx
 ·rename_i len e zs ht hz
  obtain⟨z,i,hi,hzz,hsz,hrun,hlr⟩:=qG hz
  split at hx
  ·rename_i inf hinf
   cases hf:za (fun j=>some (j*inf.size,inf.size)) zs (st.parts ps.toList) with
   | none=>simp[hf] at hx
   | some cs=>
    simp[hf] at hx;subst hx
    obtain⟨arr,h1,h2⟩:=jk _ _ _ zs cs z.cells (hlr.mono fun _ _=>.pure) hl hp hf
    refine SemOk.same h (cv:=.agg arr) ?_ (.agg h2.1 h2.2)
    simp only[Instr.build,Sem.run_bind,hrun,Result.andThen_ok,run_underlying ht,run_size hinf]
    rw[h1]
    rfl
  ·cases hx
 ·cases hx
theorem yv (h:RelI κ ι st a w) {w1:World} (hw1:w1.heap=w.heap) (ho:w1.os=w.os) (ht:w1.tape=w.tape) (hout:w1.output=w.output)
  (s ty sz cap:Nat) (fz0:Bool) (arr:Array Value) (cs:List V) (hsz:0<sz) (hcap:arr.size=cap*sz) (hle:cs.length≤arr.size)
  (hcs:∀(i:Nat) (d:V) (u:Value),cs[i]? = some d→arr.toList[i]? = some u→Rv st.o ι (Stable κ.D st.o ι w) w d u):
  To κ st.o ι w (st.o.put s ⟨(st.o.get s).gen+1,.row ty sz fz0 cs⟩) (fun t=>if s=t then w.heap.size else ι t) (w1.alloc (.cells arr ty)):=
 To.new h hw1 ho ht hout s _ _ fun T' ι' w' H hn=>⟨arr,(0,0),cap,hn,fun i _=>by simp,hcap,hsz,hle,fun i d u hd hu=>(hcs i d u hd hu).mono H⟩
theorem Ki {T:Tab} {S:Addr→Prop} {w':World} {fz0:Bool} (s g ty sz n cap:Nat) (cs:List V) (arr:Array Value) (fz:Nat×Nat) (hT:T.get s=⟨g,.row ty sz fz0 cs⟩) (hh:w'.heap[ι s]? = some (.cells arr ty fz)) (hcap:arr.size=cap*sz) (hn:n≤cap):
  Rv T ι S w' (.own s g 0 n) (.slice (some ⟨ι s,0,none⟩) n cap):=by
 refine .own ⟨_,_,rfl⟩ (by grind) fun ty' sz' fz' cs' e=>?_
 rw[hT] at e
 simp at e
 obtain⟨rfl,rfl,rfl,rfl⟩:=e
 exact⟨_,cap,cap,arr,ty,fz,rfl,rfl,hh,hcap,by omega,by omega,fun _=>by simp⟩
theorem kM (s ty sz n cap:Nat) (fz0:Bool) (cs:List V) (arr:Array Value) {w1:World} (hw1:w1.heap=w.heap) {S:Addr→Prop} {T:Tab} (hcap:arr.size=cap*sz) (hn:n≤cap):
  Rv (wrT T (some (s,⟨(T.get s).gen+1,.row ty sz fz0 cs⟩))) (fun t=>if s=t then w.heap.size else ι t) S (w1.alloc (.cells arr ty)) (.own s ((T.get s).gen+1) 0 n) (.slice (some ⟨w.heap.size,0,none⟩) n cap):=by
 have hh:(w1.alloc (.cells arr ty)).heap[(fun t=>if s=t then w.heap.size else ι t) s]? = some (.cells arr ty (0,0)):=by
  have:=heap_alloc_new w1 (.cells arr ty)
  grind
 have:=Ki (fz0:=fz0) (T:=wrT T (some (s,⟨(T.get s).gen+1,.row ty sz fz0 cs⟩))) (ι:=fun t=>if s=t then w.heap.size else ι t) (S:=S) s ((T.get s).gen+1) ty sz n cap cs arr (0,0) (by simp[wrT,Tab.get_put]) hh hcap hn
 grind
def qw (P:Program) (T:Tab) (t len:Nat) (ps:List (Nat×V)) (d:Nat):Option (V×Option (Nat×Ob)):=
 match P.underlying t with
 | some (.slice e)=>match zeroC P e with
  | some zs=>if len=0 then(if ps.isEmpty=true then some (.sz,some (d,⟨(T.get d).gen+1,.dead⟩)) else none) else if 0<zs.length∧len*zs.length≤16777216 then
    (za (fun j=>some (j*zs.length,zs.length)) (repl zs len) ps).map fun cs=>(.own d ((T.get d).gen+1) 0 len,some (d,⟨(T.get d).gen+1,.row e zs.length false cs⟩))
   else none
  | none=>none
 | _=>none
theorem zo (h:RelI κ ι st a w) {t len d:Nat} {ps:Array (Nat×Operand)} {v:V} {wr:Option (Nat×Ob)} (hx:qw κ.P st.o t len (st.parts ps.toList) d=some (v,wr)):
  SemOk κ ι st.o w (Instr.buildSlice t len (ps.map fun(i,x)=>(i,a.eval x))) v wr:=by
 obtain⟨hl,hp⟩:=kL h ps
 unfold qw at hx
 split at hx
 ·rename_i e ht
  split at hx
  ·rename_i zs hz
   obtain⟨z,i,hi,hzz,hsz,hrun,hlr⟩:=qG hz
   have hzl:zs.length=i.size:=by rw[←hsz];simpa using (hlr (S:=fun _=>False) (w:=w)).1
   split at hx
   ·rename_i hl0
    subst hl0
    split at hx
    ·rename_i hpe
     simp only[Option.some.injEq,Prod.mk.injEq] at hx
     obtain⟨rfl,rfl⟩:=hx
     have hps:ps=#[]:=by
      obtain⟨l⟩:=ps
      cases l with
      | nil=>rfl
      | cons x r=>simp[St.parts] at hpe
     subst hps
     refine⟨.slice (some ⟨w.heap.size,0,none⟩) 0 0,w.alloc (.cells #[] e),_,?_,To.new h (w1:=w) rfl rfl rfl rfl d (.cells #[] e) .dead (fun _ _ _ _ _=>trivial),.pure .sz⟩
     have hr0:(Array.range 0)=(#[]:Array Nat):=by simp
     simp[Instr.buildSlice,run_underlying ht,run_size hi,Instr.fill,newRow,hr0]
    ·cases hx
   split at hx
   ·rename_i hc
    obtain⟨h0,h24⟩:=hc
    cases hf:za (fun j=>some (j*zs.length,zs.length)) (repl zs len) (st.parts ps.toList) with
    | none=>simp[hf] at hx
    | some cs=>
     simp[hf] at hx
     obtain⟨rfl,rfl⟩:=hx
     have hmade:=(hlr (S:=Stable κ.D st.o ι w) (w:=w)).made (len*i.size) len (by rw[hsz])
     obtain⟨arr,h1,h2⟩:=jk _ _ _ (repl zs len) cs (madeCells z.cells (len*i.size)) (hmade.mono fun _ _=>.pure) hl hp hf
     have harr:arr.size=len*i.size:=by
      have hcs:∀(place:Nat→Option (Nat×Nat)) (parts:List (Nat×V)) (cs cs':List V),za place cs parts=some cs'→cs'.length=cs.length:=by
       intro place parts
       induction parts with
       | nil=>intro cs cs' hh;simp[za] at hh;rw[hh]
       | cons p r ih=>
        intro cs cs' hh
        obtain⟨j,v⟩:=p
        simp only[za] at hh
        split at hh
        ·cases hh
        ·split at hh
         ·rename_i hc'
          have:=ih _ _ hh
          rw[this,length_splice (by omega)]
         ·cases hh
      have e1:=hcs _ _ _ _ hf
      have e2:=h2.1
      rw[qV,hzl] at e1
      simp at e2
      omega
     refine⟨.slice (some ⟨w.heap.size,0,none⟩) len len,_,_,?_,yv h rfl rfl rfl rfl d e zs.length len false arr cs h0 (by rw[harr,hzl]) (by rw[h2.1];simp) (fun i d u hd hu=>h2.2 i d u hd hu),?_⟩
     ·simp only[Instr.buildSlice,Sem.run_bind,run_underlying ht,Result.andThen_ok,run_size hi]
      rw[hzl] at h24 h1
      rw[if_neg (by omega)]
      by_cases hz0:len*i.size=0
      ·simp only[hz0,if_true]
       simp only[hz0] at h1
       have hm:madeCells z.cells 0=#[]:=by simp[madeCells]
       rw[hm] at h1
       have hm':((Array.range 0).map fun(x:Nat)=>(#[]:Array Value)[x % (#[]:Array Value).size]!)=#[]:=by simp
       rw[Sem.run_bind,Sem.run_pure,Result.andThen_ok,hm',h1]
       simp[newRow]
      ·simp only[hz0,if_false]
       simp only[madeCells] at h1
       rw[Sem.run_bind,hrun,Result.andThen_ok,Sem.run_bind,Sem.run_pure,Result.andThen_ok,h1]
       simp[newRow]
     ·exact kM d e zs.length len len false cs arr rfl (by rw[harr,hzl]) (Nat.le_refl _)
   ·cases hx
  ·cases hx
 ·cases hx
end
end Go.Abs
