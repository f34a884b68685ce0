/- Slices made, cut, appended to, copied; strings gone through. -/
import Derived.Test.YtigfokfefnomjaaGreatAbsE
import Derived.Laws.AppendOwn
import Derived.Laws.StructEq
import Derived.Laws.IdiomStrings
import Derived.Laws.BytesString
import Derived.Laws.Runes
import Derived.Laws.BitsAllLaws
namespace Go.Abs
open Go.RowKit
set_option linter.unusedVariables false
set_option linter.unusedSimpArgs false
section
variable {κ : Cx} {ι : Nat → Nat} {st : St} {a : Act} {w : World}
theorem Qq {R:V→Value→Prop} {zs:List V} {z:Array Value} (h:LR R zs z.toList) (n m:Nat):
    ∀(i:Nat) (d:V) (u:Value),(repl zs m)[i]? = some d→(madeCells z n).toList[i]? = some u→R d u:=by
  intro i d u hd hu
  have hzl:zs.length=z.size:=by simpa using h.1
  have hi:i<m*zs.length:=by grind[List.getElem?_eq_some_iff,qV]
  rw[zy zs m i hi] at hd
  have hin:i<n:=by grind[madeCells]
  have h0 : 0 < z.size := by grind
  have hmod:i % z.size<z.size:=Nat.mod_lt _ h0
  have:(madeCells z n).toList[i]? = some z[i % z.size]:=by
    grind[madeCells]
  rw[this] at hu
  injection hu with hu;subst hu
  rw[hzl] at hd
  exact h.2 _ d _ hd (by simp[hmod])
def Z6 (P:Program) (T:Tab) (t:Nat) (l c:V) (d:Nat):Option (V×Option (Nat×Ob)):=
 match l,c with
 | .int _ l,.int _ c=>match P.underlying t with
  | some (.slice e)=>match zeroC P e,P.info? e with
   | some zs,some i=>if 0≤l∧l≤c∧(i.bytes:Int)*c≤140737488355328∧c≤9223372036854775807∧0<zs.length then
     some (.own d ((T.get d).gen+1) 0 l.toNat,some (d,⟨(T.get d).gen+1,.row e zs.length false (repl zs l.toNat)⟩)) else none
   | _,_=>none
  | _=>none
 | _,_=>none
theorem XL (h:RelI κ ι st a w) {t d:Nat} {l c v:V} {cl cc:Value} {wr:Option (Nat×Ob)} (hl:Rv st.o ι (Stable κ.D st.o ι w) w l cl) (hc:Rv st.o ι (Stable κ.D st.o ι w) w c cc)
  (hx:Z6 κ.P st.o t l c d=some (v,wr)):SemOk κ ι st.o w (Instr.makeSlice t cl cc) v wr:=by
 unfold Z6 at hx
 split at hx
 ·rename_i kl l kc c
  have:=hl.int_;subst this
  have:=hc.int_;subst this
  split at hx
  ·rename_i e ht
   split at hx
   ·rename_i zs i hz hi
    obtain⟨z,i',hi',hzz,hsz,hrun,hlr⟩:=qG hz
    rw[hi] at hi';injection hi' with hi';subst hi'
    split at hx
    ·rename_i hcc
     obtain⟨h0,hlc,hb,h63,hp⟩:=hcc
     simp at hx
     obtain⟨rfl,rfl⟩:=hx
     have hzl:zs.length=i.size:=by rw[←hsz];simpa using (hlr (S:=fun _=>False) (w:=w)).1
     have hrun:=run_make (P:=κ.P) w t e i z ht hi hzz kl kc l c h0 hlc (by omega) h63
     have harr:(madeCells z.cells (c.toNat*i.size)).size=c.toNat*zs.length:=by rw[size_madeCells,hzl]
     refine⟨_,_,_,hrun,yv h rfl rfl rfl rfl d e zs.length c.toNat false _ (repl zs l.toNat) hp harr ?_ ?_,kM d e zs.length _ _ false _ _ rfl harr (by omega)⟩
     ·rw[qV,harr];exact Nat.mul_le_mul_right _ (by omega)
     ·exact Qq (hlr.mono fun _ _=>.pure) _ _
    ·cases hx
   ·cases hx
  ·cases hx
 ·cases hx
def yM (P:Program) (T:Tab) (t:Nat) (x:V) (d:Nat):Option (V×Option (Nat×Ob)):=
 match P.underlying t,x with
 | some .string,.str s=>some (.ptr d ((T.get d).gen+1) 0,some (d,⟨(T.get d).gen+1,.iter s 0⟩))
 | _,_=>none
theorem JJ (h:RelI κ ι st a w) {t d:Nat} {x v:V} {cx:Value} {wr:Option (Nat×Ob)} (hr:Rv st.o ι (Stable κ.D st.o ι w) w x cx) (hx:yM κ.P st.o t x d=some (v,wr)):
  SemOk κ ι st.o w (Instr.range t cx) v wr:=by
 unfold yM at hx
 split at hx
 ·rename_i s ht
  simp at hx
  obtain⟨rfl,rfl⟩:=hx
  obtain⟨b,rfl,hb⟩:=hr.str_
  obtain⟨⟨l⟩⟩:=b
  simp at hb;subst hb
  refine⟨_,_,_,?_,To.new (w1:=w) h rfl rfl rfl rfl d (.stringIter ⟨⟨l⟩⟩ 0) (.iter l 0) fun T' ι' w' H hn=>hn,yx h d _ _ _ (by simp)⟩
  simp[Instr.range,run_underlying ht]
 ·cases hx
def aNext (T:Tab) (x:V) (isString:Bool):Option (V×Option (Nat×Ob)):=
 match x,isString with
 | .ptr s g 0,true=>if (T.get s).gen=g then(match (T.get s).k with
  | .iter l pos=>
   if pos<l.length then
    let r:=Utf8.decode ⟨⟨l⟩⟩ pos
    some (.tup [.bool true,.int .i64 pos,.int .i32 r.1],some (s,⟨g,.iter l (pos+r.2)⟩))
   else some (.tup [.bool false],none)
  | _=>none) else none
 | _,_=>none
theorem XK (h:RelI κ ι st a w) {x v:V} {isS:Bool} {ty:TypeId} {cx:Value} {wr:Option (Nat×Ob)} (hr:Rv st.o ι (Stable κ.D st.o ι w) w x cx) (hx:aNext st.o x isS=some (v,wr)):
  SemOk κ ι st.o w (Instr.next cx isS ty) v wr:=by
 unfold aNext at hx
 split at hx
 ·rename_i s g
  split at hx
  ·rename_i hg
   split at hx
   ·rename_i l pos hk
    have hob:=h.tr.ob s
    rw[hk] at hob
    have hob':w.heap[ι s]? = some (.stringIter ⟨⟨l⟩⟩ pos):=hob
    have hl:st.o.live s:=by simp[Tab.live,hk,OK.live]
    have hp:=hr.ptr_ hg hl
    subst hp
    have hgo:(getObj (ι s)).run κ.P w=.ok (.stringIter ⟨⟨l⟩⟩ pos) w:=by simp[getObj,Sem.run,hob']
    have hsz:(⟨⟨l⟩⟩:ByteArray).size=l.length:=rfl
    split at hx
    ·rename_i hpos
     simp at hx
     obtain⟨rfl,rfl⟩:=hx
     have hset:(setObj (ι s) (.stringIter ⟨⟨l⟩⟩ (pos+(Utf8.decode ⟨⟨l⟩⟩ pos).2))).run κ.P w=.ok () { w with heap:=w.heap.setIfInBounds (ι s) (.stringIter ⟨⟨l⟩⟩ (pos+(Utf8.decode ⟨⟨l⟩⟩ pos).2)) }:=by
      simp[setObj,Sem.run,hob']
     refine⟨.tuple #[.bool true,.int .i64 pos,.int .i32 (Utf8.decode ⟨⟨l⟩⟩ pos).1],_,ι,?_,To.turn (w':={ w with heap:=w.heap.setIfInBounds (ι s) (.stringIter ⟨⟨l⟩⟩ (pos+(Utf8.decode ⟨⟨l⟩⟩ pos).2)) }) h s hl ⟨g,_⟩ rfl rfl rfl (by simp) (fun j hj=>by grind) (by simp[hg]) (fun p _ hp=>by simp[hk,OK.fzAt] at hp) (fun _ _ _ _ e=>by simp at e) (fun T' ι' H=>?_) (hsh:=fun arr ty fz e=>by grind),?_⟩
     ·simp only[Instr.next,Sem.run_bind,hgo,Result.andThen_ok,hsz,hpos,if_true,hset]
      rfl
     ·grind[ObRel]
     ·exact .pure (.tup (vs:=[.bool true,.int .i64 pos,.int .i32 (Utf8.decode ⟨⟨l⟩⟩ pos).1]) rfl (LR.cons (.bool _) (.cons (.int _ _) (.cons (.int _ _) .nil))).2)
    ·rename_i hpos
     simp at hx
     obtain⟨rfl,rfl⟩:=hx
     refine SemOk.same h (cv:=.tuple #[.bool false]) ?_ (.pure (.tup (vs:=[.bool false]) rfl (LR.cons (.bool _) .nil).2))
     simp only[Instr.next,Sem.run_bind,hgo,Result.andThen_ok,hsz,hpos,if_false]
     rfl
   ·cases hx
  ·cases hx
 ·cases hx
def aBnd (o:Option V) (d:Nat):Option Nat:=
 match o with
 | none=>some d
 | some (.int _ i)=>if 0≤i then some i.toNat else none
 | _=>none
def RO (T:Tab) (ι:Nat→Nat) (S:Addr→Prop) (w:World) (o:Option V) (co:Option Value):Prop:=
 match o,co with
 | none,none=>True
 | some v,some u=>Rv T ι S w v u
 | _,_=>False
theorem jB {P:Program} (k:IntKind) (i:Int) (y:Nat) (code:BoundsCode) (h0:0≤i) (h1:i.toNat≤y):(Instr.sliceBound (.int k i) y code).run P w=.ok i.toNat w:=by
 simp_all[Instr.sliceBound,asIntOf]
theorem qp {P:Program} {T:Tab} {S:Addr→Prop} {lo hi:Option V} {clo chi:Option Value} (hlo:RO T ι S w lo clo) (hhi:RO T ι S w hi chi) (isS:Bool) (len cap l h:Nat)
  (e1:aBnd lo 0=some l) (e2:aBnd hi len=some h) (hlh:l≤h) (hc:h≤cap):(Instr.sliceBounds isS len cap clo chi none).run P w=.ok (l,h,cap) w:=by
 have main:∀(hh:Nat) (s:Sem Nat),s.run P w=.ok hh w→True:=fun _ _ _=>trivial
 have hL:∀code,clo=none∧l=0∨∃v,clo=some v∧(Instr.sliceBound v h code).run P w=.ok l w:=by
  intro code
  cases lo with
  | none=>cases clo with
   | none=>simp[aBnd] at e1;exact .inl ⟨rfl,e1.symm⟩
   | some _=>exact hlo.elim
  | some v=>cases clo with
   | none=>exact hlo.elim
   | some u=>
    have hv:Rv T ι S w v u:=hlo
    unfold aBnd at e1
    split at e1
    ·rename_i heq;cases heq
    ·rename_i k i heq
     injection heq with heq;subst heq
     split at e1
     ·rename_i h0
      injection e1 with e1
      have:=hv.int_;subst this
      exact .inr ⟨_,rfl,by rw[←e1];exact jB k i h code h0 (by omega)⟩
     ·cases e1
    ·cases e1
 have hH:∀code,chi=none∧h=len∨∃v,chi=some v∧(Instr.sliceBound v cap code).run P w=.ok h w:=by
  intro code
  cases hi with
  | none=>cases chi with
   | none=>simp[aBnd] at e2;exact .inl ⟨rfl,e2.symm⟩
   | some _=>exact hhi.elim
  | some v=>cases chi with
   | none=>exact hhi.elim
   | some u=>
    have hv:Rv T ι S w v u:=hhi
    unfold aBnd at e2
    split at e2
    ·rename_i heq;cases heq
    ·rename_i k i heq
     injection heq with heq;subst heq
     split at e2
     ·rename_i h0
      injection e2 with e2
      have:=hv.int_;subst this
      exact .inr ⟨_,rfl,by rw[←e2];exact jB k i cap code h0 (by omega)⟩
     ·cases e2
    ·cases e2
 rcases hL .sliceB with⟨rfl,rfl⟩ | ⟨u,rfl,hu⟩<;>rcases hH (if isS then .sliceAcap else .sliceAlen) with⟨rfl,rfl⟩ | ⟨u',rfl,hu'⟩
 ·simp[Instr.sliceBounds]
 ·simp[Instr.sliceBounds,hu']
 ·simp[Instr.sliceBounds,hu]
 ·simp[Instr.sliceBounds,hu',hu]
theorem zg (e:Ty):∀(l:List e.I) (n:Nat),(l.take n).flatMap (cellsV e)=(l.flatMap (cellsV e)).take (n*e.size)
 | [],n=>by simp
 | x::r,0=>by simp
 | x::r,n+1=>by
  have:(n+1)*e.size=(cellsV e x).length+n*e.size:=by rw[qf,Nat.succ_mul];omega
  simp only[List.take_succ_cons,List.flatMap_cons,this,List.take_length_add_append,zg e r n]
theorem zh (e:Ty):∀(l:List e.I) (n:Nat),(l.drop n).flatMap (cellsV e)=(l.flatMap (cellsV e)).drop (n*e.size)
 | [],n=>by simp
 | x::r,0=>by simp
 | x::r,n+1=>by
  have:(n+1)*e.size=(cellsV e x).length+n*e.size:=by rw[qf,Nat.succ_mul];omega
  simp only[List.drop_succ_cons,List.flatMap_cons,this,List.drop_length_add_append,zh e r n]
theorem kY (e:Ty) (l:List e.I) (a b:Nat):((l.take b).drop a).flatMap (cellsV e)=((l.flatMap (cellsV e)).take (b*e.size)).drop (a*e.size):=by
 rw[zh,zg]
def bndT:Option V→Option (Option Int)
 | none=>some none
 | some (.int _ i)=>some (some i)
 | _=>none
def loOk:Option Int→Bool
 | none=>true
 | some i=>decide (0≤i)
def loOf (d:Nat):Option Int→Nat
 | none=>d
 | some i=>i.toNat
theorem bndT_ok {o:Option V} {r:Option Int} {d:Nat} (h:bndT o=some r) (hb:loOk r=true):aBnd o d=some (loOf d r):=by
 unfold bndT at h
 grind[loOk,aBnd,loOf]
def zB (T:Tab) (v:V):Option (Nat×Nat×Nat×Nat×Nat×Bool×Bool×TL):=
 match v with
 | .acc s g=>if (T.get s).gen=g then(match (T.get s).k with
  | .nrow ty fz nl L=>some (s,g,0,L.l.length,ty,fz,nl,L)
  | _=>none) else none
 | .nwin s g off n=>if (T.get s).gen=g then(match (T.get s).k with
  | .nrow ty fz nl L=>some (s,g,off,n,ty,fz,nl,L)
  | _=>none) else none
 | _=>none
theorem jW {T:Tab} {S:Addr→Prop} {v:V} {cv:Value} {s g off n ty:Nat} {fz nl:Bool} {L:TL} (hx:zB T v=some (s,g,off,n,ty,fz,nl,L)) (hr:Rv T ι S w v cv):
  T.get s=⟨g,.nrow ty fz nl L⟩∧(∃p n' c,cv=.slice p n' c)∧off+n≤L.l.length∧((nl=true∧L.l=[]∧∃p,cv=.slice p 0 0)∨(¬(nl=true∧L.l=[])∧Own w (ι s) L.e.size off n cv)):=by
 unfold zB at hx
 split at hx
 ·rename_i s' g'
  split at hx
  ·rename_i hg
   split at hx
   ·rename_i ty' fz' nl' L' hk
    injection hx with hx
    simp only[Prod.mk.injEq] at hx
    obtain⟨rfl,rfl,rfl,rfl,rfl,rfl,rfl,rfl⟩:=hx
    have hT:T.get s'=⟨g',.nrow ty' fz' nl' L'⟩:=by (cases hq:T.get s'<;>grind)
    exact⟨hT,hr.acc_form,by omega,hr.acc_ hT⟩
   ·cases hx
  ·cases hx
 ·rename_i s' g' off' n'
  split at hx
  ·rename_i hg
   split at hx
   ·rename_i ty' fz' nl' L' hk
    injection hx with hx
    simp only[Prod.mk.injEq] at hx
    obtain⟨rfl,rfl,rfl,rfl,rfl,rfl,rfl,rfl⟩:=hx
    have hT:T.get s'=⟨g',.nrow ty' fz' nl' L'⟩:=by (cases hq:T.get s'<;>grind)
    have:=hr.nwin_ hT
    exact⟨hT,hr.nwin_form,this.1,this.2⟩
   ·cases hx
  ·cases hx
 ·cases hx
def cutT (o n len:Nat) (l h:Option Int):List Bool×Nat×Nat:=
 match h with
 | none=>([decide (0≤l.getD 0),decide (l.getD 0≤(n:Int))],(l.getD 0).toNat,n)
 | some h=>([decide (0≤l.getD 0),decide (l.getD 0≤h),decide ((o:Int)+h≤(len:Int))],(l.getD 0).toNat,h.toNat)
def qO (P:Program) (T:Tab) (t:Nat) (x:V) (lo hi:Option V):Option (List Bool×V):=
 match P.underlying t with
 | some (.slice e)=>match P.info? e,zB T x,bndT lo,bndT hi with
  | some inf,some (s,g,off,n,_,_,_,L),some l,some h=>if L.e.size=inf.size then
    some ((cutT off n L.l.length l h).1,.nwin s g (off+(cutT off n L.l.length l h).2.1) ((cutT off n L.l.length l h).2.2-(cutT off n L.l.length l h).2.1)) else none
  | _,_,_,_=>none
 | _=>none
theorem JE {o:Option V} (h:bndT o=some none):o=none:=by
 (unfold bndT at h<;>grind[bndT])
theorem vw (h:RelI κ ι st a w) {t:Nat} {x v:V} {cx:Value} {lo hi:Option V} {clo chi:Option Value} {bs:List Bool} (hr:Rv st.o ι (Stable κ.D st.o ι w) w x cx)
  (hlo:RO st.o ι (Stable κ.D st.o ι w) w lo clo) (hhi:RO st.o ι (Stable κ.D st.o ι w) w hi chi) (hx:qO κ.P st.o t x lo hi=some (bs,v)) (hbs:bs.all id=true):
  SemOk κ ι st.o w (Instr.sliceAt t cx clo chi none) v none:=by
 unfold qO at hx
 split at hx
 case h_2=>cases hx
 rename_i e ht
 split at hx
 case h_2=>cases hx
 rename_i inf s g off n ty fz nl L l hh hinf hw hl hh'
 split at hx
 case isFalse=>cases hx
 rename_i hsz
 injection hx with hx
 simp only[Prod.mk.injEq] at hx
 obtain⟨rfl,rfl⟩:=hx
 obtain⟨hT,⟨p0,n0,c0,hcx⟩,hle,hor⟩:=jW hw hr
 have hl0:0≤l.getD 0:=by
  unfold cutT at hbs
  grind
 have e1:aBnd lo 0=some (l.getD 0).toNat:=by
  have:=bndT_ok (d:=0) hl (by (cases l<;>grind[loOk]))
  cases l<;>exact this
 have key:∃hv,(cutT off n L.l.length l hh).2.2=hv∧aBnd hi n=some hv∧(l.getD 0).toNat≤hv∧off+hv≤L.l.length:=by
  cases hh with
  | none=>
   have:=JE hh'
   subst this
   simp only[cutT,List.all_cons,List.all_nil,Bool.and_eq_true,id,decide_eq_true_eq] at hbs
   exact⟨n,rfl,rfl,by omega,hle⟩
  | some i=>
   simp only[cutT,List.all_cons,List.all_nil,Bool.and_eq_true,id,decide_eq_true_eq] at hbs
   have:=bndT_ok (d:=n) hh' (by simp[loOk];omega)
   exact⟨i.toNat,rfl,this,by omega,by omega⟩
 obtain⟨hv,ehv,e2,hlh,hvl⟩:=key
 have ecut:(cutT off n L.l.length l hh).2.1=(l.getD 0).toNat:=by cases hh<;>rfl
 rw[ehv,ecut]
 generalize (l.getD 0).toNat=lv at *
 rcases hor with⟨hnl,hnil,p,rfl⟩ | ⟨hn,ad,c,cap,arr,ty1,fz1,rfl,hb,hmem,has,hnc,hcap,hpl⟩
 ·have hlen:L.l.length=0:=by rw[hnil];rfl
  have hlv:lv=0:=by omega
  have hhv:hv=0:=by omega
  have hn0:n=0:=by omega
  subst hlv hhv hn0
  have hb2:=qp (P:=κ.P) hlo hhi true 0 0 0 0 e1 e2 (by omega) (by omega)
  refine SemOk.same h (cv:=.slice p 0 0) ?_ (.nwin ⟨_,_,_,rfl⟩ (by grind) fun ty' fz' nl' L' e=>?_)
  ·simp_all[Instr.sliceAt,Instr.slice,run_underlying,run_size]
  grind
 ·have hob:=h.tr.ob s
  rw[hT] at hob
  obtain⟨arr2,fz2,cap2,h1,h2,h3,h4,h5,h6⟩:=hob.resolve_left hn
  rw[hmem] at h1
  injection h1 with h1;injection h1 with q1 q2 q3;subst q1
  have hcl:=L.cells_length
  have hcc:L.l.length≤cap:=by
   rw[hcl,has] at h5
   exact Nat.le_of_mul_le_mul_right h5 h4
  have hb2:=qp (P:=κ.P) hlo hhi true n c lv hv e1 e2 hlh (by omega)
  refine SemOk.same h (cv:=.slice (some (if c=lv then ad else ad.add (lv*inf.size))) (hv-lv) (c-lv)) ?_ ?_
  ·simp only[Instr.sliceAt,Instr.slice,Sem.run_bind,run_underlying ht,Result.andThen_ok,hb2,run_size hinf]
   by_cases hcl:c=lv<;>simp[hcl]
  ·refine .nwin ⟨_,_,_,rfl⟩ (by grind) fun ty' fz' nl' L' e=>?_
   rw[hT] at e
   simp at e
   obtain⟨rfl,rfl,rfl,rfl⟩:=e
   refine⟨by omega,.inr ⟨hn,_,c-lv,cap,arr,ty1,fz1,rfl,?_,hmem,has,by omega,by omega,fun hne=>?_⟩⟩
   ·grind[block_add]
   ·rw[if_neg (by omega)]
    grind[Addr.add,Nat.add_mul]
def aSlice (P:Program) (T:Tab) (t:Nat) (x:V) (lo hi:Option V):Option V:=
 match P.underlying t with
 | some .string=>match x with
  | .str s=>match aBnd lo 0,aBnd hi s.length with
   | some l,some h=>if l≤h∧h≤s.length then some (.str ((s.take h).drop l)) else none
   | _,_=>none
  | _=>none
 | some (.slice e)=>match P.info? e with
  | some i=>match x with
   | .snil=>match aBnd lo 0,aBnd hi 0 with
    | some l,some h=>if l=0∧h=0 then some .snil else none
    | _,_=>none
   | .own s g off n=>match aBnd lo 0,aBnd hi n with
    | some l,some h=>if l≤h∧h≤n∧(T.get s).gen=g then(match (T.get s).k with
     | .row _ sz _ _=>if sz=i.size then some (.own s g (off+l) (h-l)) else none
     | _=>none) else none
    | _,_=>none
   | .sl n cs=>match aBnd lo 0,aBnd hi n with
    | some l,some h=>if l≤h∧h≤n∧cs.length=n*i.size then some (.sl (h-l) ((cs.take (h*i.size)).drop (l*i.size))) else none
    | _,_=>none
   | .lst L=>if L.e.size=i.size then(match aBnd lo 0,aBnd hi L.l.length with
    | some l,some h=>if l≤h∧h≤L.l.length then some (.lst ⟨L.e,(L.l.take h).drop l⟩) else none
    | _,_=>none) else none
   | x=>match qO P T t x lo hi with
    | some r=>if r.1.all id=true then some r.2 else none
    | none=>none
  | none=>none
 | _=>none
theorem JI (h:RelI κ ι st a w) {t:Nat} {x v:V} {cx:Value} {lo hi:Option V} {clo chi:Option Value} (hr:Rv st.o ι (Stable κ.D st.o ι w) w x cx)
  (hlo:RO st.o ι (Stable κ.D st.o ι w) w lo clo) (hhi:RO st.o ι (Stable κ.D st.o ι w) w hi chi) (hx:aSlice κ.P st.o t x lo hi=some v):
  SemOk κ ι st.o w (Instr.sliceAt t cx clo chi none) v none:=by
 unfold aSlice at hx
 split at hx
 ·rename_i ht
  split at hx
  ·rename_i s
   split at hx
   ·rename_i l hh e1 e2
    split at hx
    ·rename_i hc
     injection hx with hx;subst hx
     obtain⟨b,rfl,hb⟩:=hr.str_
     have hbl:b.size=s.length:=by rw[←hb,Array.length_toList];rfl
     have hb2:=qp (P:=κ.P) hlo hhi false b.size b.size l hh e1 (by grind) hc.1 (by omega)
     refine SemOk.same h (cv:=.string (b.extract l hh)) ?_ (.pure (.str _ _ ?_))
     ·simp[Instr.sliceAt,Instr.slice,run_underlying ht,hb2]
     simp_all[ByteArray.data_extract,List.extract_eq_take_drop,List.drop_take]
    ·cases hx
   ·cases hx
  ·cases hx
 ·rename_i e ht
  split at hx
  ·rename_i i hi
   split at hx
   ·split at hx
    ·rename_i l hh e1 e2
     split at hx
     ·rename_i hc
      obtain⟨rfl,rfl⟩:=hc
      injection hx with hx;subst hx
      have:=hr.snil_;subst this
      have hb2:=qp (P:=κ.P) hlo hhi true 0 0 0 0 e1 e2 (by omega) (by omega)
      refine SemOk.same h (cv:=.slice none 0 0) ?_ (.pure .snil)
      simp[Instr.sliceAt,Instr.slice,run_underlying ht,hb2,run_size hi]
     ·cases hx
    ·cases hx
   ·rename_i s g off n
    split at hx
    ·rename_i l hh e1 e2
     split at hx
     ·rename_i hc
      obtain⟨hlh,hhn,hg⟩:=hc
      split at hx
      ·rename_i ty sz fz0 cs hk
       split at hx
       ·rename_i hsz
        injection hx with hx;subst hx
        have hT:st.o.get s=⟨g,.row ty sz fz0 cs⟩:=by (cases hTs:st.o.get s<;>grind)
        obtain⟨ad,c,cap,arr,ty1,fz,rfl,hb,hmem,has,hn,hcap,hpl⟩:=hr.own_ hT
        have hb2:=qp (P:=κ.P) hlo hhi true n c l hh e1 e2 hlh (by omega)
        refine SemOk.same h (cv:=.slice (some (if c=l then ad else ad.add (l*i.size))) (hh-l) (c-l)) ?_ ?_
        ·simp only[Instr.sliceAt,Instr.slice,Sem.run_bind,run_underlying ht,Result.andThen_ok,hb2,run_size hi]
         by_cases hcl:c=l<;>simp[hcl]
        ·refine .own ⟨_,_,rfl⟩ (by omega) fun ty' sz' fz' cs' e=>?_
         rw[hT] at e
         simp at e
         obtain⟨rfl,rfl,rfl,rfl⟩:=e
         refine⟨_,c-l,cap,arr,ty1,fz,rfl,?_,hmem,has,by omega,by omega,fun hne=>?_⟩
         ·grind[block_add]
         grind[Addr.add]
       ·cases hx
      ·cases hx
     ·cases hx
    ·cases hx
   ·rename_i n cs
    split at hx
    ·rename_i l hh e1 e2
     split at hx
     ·rename_i hc
      obtain⟨hlh,hhn,hcl⟩:=hc
      injection hx with hx;subst hx
      rcases hr.sl_ with⟨rfl,rfl,rfl⟩ | ⟨ad,c,vs,rfl,hnc,hm,hl,hrp⟩
      ·have h0:l=0∧hh=0:=by omega
       obtain⟨rfl,rfl⟩:=h0
       have hb2:=qp (P:=κ.P) hlo hhi true 0 0 0 0 e1 e2 (by omega) (by omega)
       refine SemOk.same h (cv:=.slice none 0 0) ?_ (by grind)
       simp[Instr.sliceAt,Instr.slice,run_underlying ht,hb2,run_size hi]
      have hb2:=qp (P:=κ.P) hlo hhi true n c l hh e1 e2 hlh (by omega)
      refine SemOk.same h (cv:=.slice (some (if c=l then ad else ad.add (l*i.size))) (hh-l) (c-l)) ?_ ?_
      ·simp only[Instr.sliceAt,Instr.slice,Sem.run_bind,run_underlying ht,Result.andThen_ok,hb2,run_size hi]
       by_cases hcl:c=l<;>simp[hcl]
      ·refine .pure (.sl (vs:=(vs.take (hh*i.size)).drop (l*i.size)) (by omega) (fun j u hu=>?_) (by simp[hl]) (fun j d u hd hu=>?_))
       ·rw[List.getElem?_drop,List.getElem?_take] at hu
        split at hu
        ·rename_i hj
         have hcl':c≠l:=by
          grind
         simp_all[if_neg,add_add]
        ·cases hu
       grind
     ·cases hx
    ·cases hx
   ·rename_i L
    split at hx
    ·rename_i hsz
     split at hx
     ·rename_i l hh e1 e2
      split at hx
      ·rename_i hc
       obtain⟨hlh,hhn⟩:=hc
       injection hx with hx;subst hx
       have hcl:=L.cells_length
       have hcut:(⟨L.e,(L.l.take hh).drop l⟩:TL).cells=(L.cells.take (hh*i.size)).drop (l*i.size):=by
        rw[←hsz];exact kY L.e L.l l hh
       have hlen:((L.l.take hh).drop l).length=hh-l:=by simp;omega
       rcases (Rv.pure hr.lst_).sl_ (T:=st.o) (ι:=ι) with⟨e0,e3,rfl⟩ | ⟨ad,c,vs,rfl,hnc,hm,hl,hrp⟩
       ·have h0:l=0∧hh=0:=by omega
        obtain⟨rfl,rfl⟩:=h0
        have hb2:=qp (P:=κ.P) hlo hhi true 0 0 0 0 e1 (by grind) (by omega) (by omega)
        refine SemOk.same h (cv:=.slice none 0 0) ?_ (.pure (.lst ?_))
        ·simp[Instr.sliceAt,Instr.slice,run_underlying ht,hb2,run_size hi]
        ·simp only[hlen,hcut,e3];simpa using .slz
       ·have hb2:=qp (P:=κ.P) hlo hhi true L.l.length c l hh e1 e2 hlh (by omega)
        refine SemOk.same h (cv:=.slice (some (if c=l then ad else ad.add (l*i.size))) (hh-l) (c-l)) ?_ (.pure (.lst ?_))
        ·simp only[Instr.sliceAt,Instr.slice,Sem.run_bind,run_underlying ht,Result.andThen_ok,hb2,run_size hi]
         by_cases hcl:c=l<;>simp[hcl]
        ·simp only[hlen,hcut]
         refine .sl (vs:=(vs.take (hh*i.size)).drop (l*i.size)) (by omega) (fun j u hu=>?_) (by simp[hl]) (fun j d u hd hu=>?_)
         ·rw[List.getElem?_drop,List.getElem?_take] at hu
          split at hu
          ·rename_i hj
           have hcl':c≠l:=by
            grind
           simp_all[if_neg,add_add]
          ·cases hu
         grind
      ·cases hx
     ·cases hx
    ·cases hx
   grind[vw]
  ·cases hx
 ·cases hx
theorem JW {P:Program} {T:Tab} {t:Nat} {x:V} {lo hi:Option V} {r:List Bool×V} (h:qO P T t x lo hi=some r):∃e,P.underlying t=some (.slice e):=by
 grind[qO]
theorem XJ {P:Program} {T:Tab} {t:Nat} {x:V} {lo hi:Option V} {r:List Bool×V} (h:qO P T t x lo hi=some r) (hb:r.1.all id=true):aSlice P T t x lo hi=some r.2:=by
 have h0:=h
 unfold qO at h
 split at h
 case h_2=>cases h
 rename_i e ht
 split at h
 case h_2=>cases h
 rename_i inf s g off n ty fz nl L l hh hinf hw hl hh'
 have hx:(∃s g,x=.acc s g)∨∃s g o n,x=.nwin s g o n:=by
  unfold zB at hw
  grind
 rcases hx with⟨s1,g1,rfl⟩ | ⟨s1,g1,o1,n1,rfl⟩
 ·grind[aSlice]
 grind[aSlice]
def Zy (P:Program) (T:Tab) (t:Nat) (x:V):Option V:=
 match P.underlying t,x with
 | some .string,.str s=>some (.int .i64 s.length)
 | some (.slice _),.snil=>some (.int .i64 0)
 | some (.slice _),.sl n _=>some (.int .i64 n)
 | some (.slice _),.own _ _ _ n=>some (.int .i64 n)
 | some (.slice _),.lst L=>some (.int .i64 L.l.length)
 | some (.slice _),.sz=>some (.int .i64 0)
 | some (.slice _),.acc s g=>if (T.get s).gen=g then(match (T.get s).k with
  | .nrow _ _ _ L=>some (.int .i64 L.l.length)
  | _=>none) else none
 | some (.array n _),_=>some (.int .i64 n)
 | _,_=>none
theorem KG (h:RelI κ ι st a w) {t ty:Nat} {x v:V} {cx:Value} {ts:Array TypeId} (hts:ts[0]? = some t) (hr:Rv st.o ι (Stable κ.D st.o ι w) w x cx) (hx:Zy κ.P st.o t x=some v):
  SemOk κ ι st.o w (Builtin.len_ ts ty #[cx]) v none:=by
 have hts':∀(h0:0<ts.size),ts[0]=t:=fun h0=>by grind
 unfold Zy at hx
 split at hx
 ·rename_i s ht
  injection hx with hx;subst hx
  obtain⟨b,rfl,hb⟩:=hr.str_
  have hbl:b.size=s.length:=by rw[←hb,Array.length_toList];rfl
  refine SemOk.same h (cv:=.int .i64 b.size) ?_ (by rw[hbl];exact .pure (.int _ _))
  simp only[Builtin.len_,hts]
  simp[run_underlying ht,goInt]
 ·rename_i e ht
  injection hx with hx;subst hx
  have:=hr.snil_;subst this
  refine SemOk.same h (cv:=.int .i64 0) ?_ (.pure (.int _ _))
  simp only[Builtin.len_,hts]
  simp[run_underlying ht,goInt]
 ·rename_i e n cs ht
  injection hx with hx;subst hx
  rcases hr.sl_ with⟨rfl,rfl,rfl⟩ | ⟨ad,c,vs,rfl,_⟩
  ·refine SemOk.same h (cv:=.int .i64 0) ?_ (.pure (.int _ _))
   simp only[Builtin.len_,hts]
   simp[run_underlying ht,goInt]
  refine SemOk.same h (cv:=.int .i64 n) ?_ (.pure (.int _ _))
  simp only[Builtin.len_,hts]
  simp[run_underlying ht,goInt]
 ·rename_i e s g off n ht
  injection hx with hx;subst hx
  have:∃ad c,cx=.slice (some ad) n c:=by
   cases hr with
   | pure h=>cases h
   | own hv _ _=>exact hv
  obtain⟨ad,c,rfl⟩:=this
  refine SemOk.same h (cv:=.int .i64 n) ?_ (.pure (.int _ _))
  simp only[Builtin.len_,hts]
  simp[run_underlying ht,goInt]
 ·rename_i e L ht
  injection hx with hx;subst hx
  have:∃p c,cx=.slice p L.l.length c:=by
   rcases (Rv.pure hr.lst_).sl_ (T:=st.o) (ι:=ι) with⟨e0,_,rfl⟩ | ⟨ad,c,vs,rfl,_⟩
   ·grind
   grind
  obtain⟨p,c,rfl⟩:=this
  refine SemOk.same h (cv:=.int .i64 L.l.length) ?_ (.pure (.int _ _))
  simp only[Builtin.len_,hts]
  simp[run_underlying ht,goInt]
 ·rename_i e ht
  injection hx with hx;subst hx
  obtain⟨p,rfl⟩:=hr.sz_
  refine SemOk.same h (cv:=.int .i64 0) ?_ (.pure (.int _ _))
  simp only[Builtin.len_,hts]
  simp[run_underlying ht,goInt]
 ·rename_i e s g ht
  split at hx
  ·rename_i hg
   split at hx
   ·rename_i ty1 fz nl L hk
    injection hx with hx;subst hx
    have hT:st.o.get s=⟨g,.nrow ty1 fz nl L⟩:=by (cases hTs:st.o.get s<;>grind)
    have:∃p c,cx=.slice p L.l.length c:=by
     rcases hr.acc_ hT with⟨_,e0,p,rfl⟩ | ⟨_,ad,c,_,_,_,_,rfl,_⟩
     ·grind
     grind
    obtain⟨p,c,rfl⟩:=this
    refine SemOk.same h (cv:=.int .i64 L.l.length) ?_ (.pure (.int _ _))
    simp only[Builtin.len_,hts]
    simp[run_underlying ht,goInt]
   ·cases hx
  ·cases hx
 ·rename_i n e ht
  injection hx with hx;subst hx
  refine SemOk.same h (cv:=.int .i64 n) ?_ (.pure (.int _ _))
  simp only[Builtin.len_,hts]
  simp[run_underlying ht,goInt]
 ·cases hx
end
end Go.Abs
namespace Go.Abs
open Go.RowKit
set_option linter.unusedVariables false
set_option linter.unusedSimpArgs false
def isSrcD:TypeDesc→Bool
 | .slice _ | .string=>true
 | _=>false
theorem vT {d:TypeDesc} (h:isSrcD d=true):(∃e,d=.slice e)∨d=.string:=by
 cases d<;>simp_all [isSrcD]
section
variable {κ : Cx} {ι : Nat → Nat} {st : St} {a : Act} {w : World}
def qM (T:Tab) (size:Nat) (x:V):Option (Nat×List V):=
 match x with
 | .snil=>some (0,[])
 | .sz=>some (0,[])
 | .lst L=>if L.e.size=size then some (L.l.length,L.cells) else none
 | .acc s g=>if (T.get s).gen=g then(match (T.get s).k with
  | .nrow _ _ _ L=>if L.e.size=size then some (L.l.length,L.cells) else none
  | _=>none) else none
 | .sl n cs=>if cs.length=n*size then some (n,cs) else none
 | .own s g off n=>if (T.get s).gen=g then(match (T.get s).k with
  | .row _ sz _ cs=>if sz=size∧(off+n)*sz≤cs.length then some (n,(cs.take ((off+n)*sz)).drop (off*sz)) else none
  | _=>none) else none
 | .nwin s g off n=>if (T.get s).gen=g then(match (T.get s).k with
  | .nrow _ _ _ L=>if L.e.size=size then some (((L.l.take (off+n)).drop off).length,(⟨L.e,(L.l.take (off+n)).drop off⟩:TL).cells) else none
  | _=>none) else none
 | .str s=>if size=1 then some (s.length,s.map fun b=>.int .u8 b.toNat) else none
 | _=>none
theorem qF (h:RelI κ ι st a w) {size m:Nat} {x:V} {cx:Value} {xs:List V} (hr:Rv st.o ι (Stable κ.D st.o ι w) w x cx) (hx:qM st.o size x=some (m,xs)):
  (∀w',(Builtin.lenOf cx).run κ.P w'=.ok m w')∧xs.length=m*size∧
  ∃news:List Value,LR (Rv st.o ι (Stable κ.D st.o ι w) w) xs news∧(∀k w',k≤m→w'.heap=w.heap→(Builtin.firstCells size k cx).run κ.P w'=.ok (news.take (k*size)).toArray w'):=by
 have qB:∀(ad:Addr) (n c:Nat) (vs:List Value),vs.length=n*size→(∀(i:Nat) (u:Value),vs[i]? = some u→w.cell? (ad.add i)=some u)→
   ∀k w',k≤n→w'.heap=w.heap→(Builtin.firstCells size k (.slice (some ad) n c)).run κ.P w'=.ok (vs.take (k*size)).toArray w':=by
  grind[Nat.mul_le_mul_right,run_firstCells_some,cell_congr]
 unfold qM at hx
 split at hx
 ·simp at hx
  obtain⟨rfl,rfl⟩:=hx
  have:=hr.snil_;subst this
  exact⟨fun w'=>by simp[Builtin.lenOf],by simp,[],.nil,fun k w' hk _=>by simp[Builtin.firstCells]⟩
 ·simp at hx
  obtain⟨rfl,rfl⟩:=hx
  obtain⟨p,rfl⟩:=hr.sz_
  exact⟨fun w'=>by simp[Builtin.lenOf],by simp,[],.nil,fun k w' hk hw=>by
   obtain rfl:k=0:=by omega
   cases p with
   | none=>simp[Builtin.firstCells]
   | some a=>simp_all[qB,Nat.le_refl]⟩
 ·rename_i L
  split at hx
  ·rename_i hsz
   simp at hx
   obtain⟨rfl,rfl⟩:=hx
   have hcl:=L.cells_length
   rw[hsz] at hcl
   rcases (Rv.pure hr.lst_).sl_ (T:=st.o) (ι:=ι) with⟨e0,e1,rfl⟩ | ⟨ad,c,vs,rfl,hnc,hm,hlv,hrp⟩
   ·exact⟨fun w'=>by simp[Builtin.lenOf,e0],hcl,[],by rw[e1];exact .nil,fun k w' hk _=>by simp[Builtin.firstCells]⟩
   ·exact⟨fun w'=>by simp[Builtin.lenOf],hcl,vs,⟨hlv,fun i d u hd hu=>.pure (hrp i d u hd hu)⟩,qB ad _ c vs (by omega) fun i u hu=>(hm i u hu).2⟩
  ·cases hx
 ·rename_i s g
  split at hx
  ·rename_i hg
   split at hx
   ·rename_i ty fz nl L hk
    split at hx
    ·rename_i hsz
     simp at hx
     obtain⟨rfl,rfl⟩:=hx
     have hT:st.o.get s=⟨g,.nrow ty fz nl L⟩:=by (cases hTs:st.o.get s<;>grind)
     have hcl:=L.cells_length
     rw[hsz] at hcl
     rcases hr.acc_ hT with⟨_,e0,p,rfl⟩ | ⟨hn,ad,c,cap,arr,ty1,fz1,rfl,hb,hmem,has,hn',hcap,hpl⟩
     ·have e1:L.l.length=0:=by rw[e0];rfl
      have e2:L.cells=[]:=by simp[TL.cells,e0]
      exact⟨fun w'=>by simp[Builtin.lenOf,e1],hcl,[],by rw[e2];exact .nil,fun k w' hk hw=>by
       obtain rfl:k=0:=by omega
       cases p with
       | none=>simp[Builtin.firstCells]
       | some a=>grind⟩
     ·have hob:=h.tr.ob s
      rw[hk] at hob
      obtain⟨arr2,fz2,cap2,hh2,_,has2,hsz0,hle2,hc2⟩:=hob.resolve_left hn
      rw[hmem] at hh2
      injection hh2 with hh2;injection hh2 with e1 e2 e3;subst e1
      refine⟨fun w'=>by simp[Builtin.lenOf],hcl,arr.toList.take L.cells.length,⟨by simp;omega,fun i d u hd hu=>?_⟩,qB ad _ c _ (by simp;omega) fun i u hu=>?_⟩
      ·grind
      grind[Addr.add,World.cell?]
    ·cases hx
   ·cases hx
  ·cases hx
 ·rename_i n cs
  split at hx
  ·rename_i hl
   simp at hx
   obtain⟨rfl,rfl⟩:=hx
   rcases hr.sl_ with⟨rfl,rfl,rfl⟩ | ⟨ad,c,vs,rfl,hnc,hm,hlv,hrp⟩
   ·exact⟨fun w'=>by simp[Builtin.lenOf],by simp,[],.nil,fun k w' hk _=>by simp[Builtin.firstCells]⟩
   exact⟨fun w'=>by simp[Builtin.lenOf],hl,vs,⟨hlv,fun i d u hd hu=>.pure (hrp i d u hd hu)⟩,qB ad n c vs (by omega) fun i u hu=>(hm i u hu).2⟩
  ·cases hx
 ·rename_i s g off n
  split at hx
  ·rename_i hg
   split at hx
   ·rename_i ty sz fz0 cs hk
    split at hx
    ·rename_i hc
     obtain⟨hsz,hle⟩:=hc
     simp at hx
     obtain⟨rfl,rfl⟩:=hx
     have hT:st.o.get s=⟨g,.row ty sz fz0 cs⟩:=by (cases hTs:st.o.get s<;>grind)
     obtain⟨ad,c,cap,arr,ty1,fz,rfl,hb,hmem,has,hn,hcap,hpl⟩:=hr.own_ hT
     have hob:=h.tr.ob s
     rw[hk] at hob
     obtain⟨arr2,fz2,cap2,hh2,_,has2,hsz0,hle2,hc2⟩:=hob
     rw[hmem] at hh2
     injection hh2 with hh2;injection hh2 with e1 e2 e3;subst e1
     have hml:(off+n)*sz≤arr.size:=by grind
     have hmul:(off+n)*sz=off*sz+n*sz:=Nat.add_mul _ _ _
     refine⟨fun w'=>by simp[Builtin.lenOf],by subst hsz;simp;omega,(arr.toList.take ((off+n)*sz)).drop (off*sz),?_,?_⟩
     ·exact LR.drop ⟨by simp;omega,fun i d u hd hu=>by
       grind⟩ _
     ·refine qB ad n c _ (by subst hsz;simp;omega) fun i u hu=>?_
      rw[List.getElem?_drop,List.getElem?_take] at hu
      split at hu
      ·rename_i hi
       have hn0:n≠0:=by rintro rfl;omega
       grind[Addr.add,World.cell?]
      ·cases hu
    ·cases hx
   ·cases hx
  ·cases hx
 ·rename_i s g off n
  split at hx
  ·rename_i hg
   split at hx
   ·rename_i ty fz nl L hk
    split at hx
    ·rename_i hsz
     have hT:st.o.get s=⟨g,.nrow ty fz nl L⟩:=by (cases hTs:st.o.get s<;>grind)
     have hcl:=L.cells_length
     obtain⟨hle0,hr'⟩:=hr.nwin_ hT
     have hwl:((L.l.take (off+n)).drop off).length=n:=by simp;omega
     have hwc:(⟨L.e,(L.l.take (off+n)).drop off⟩:TL).cells=(L.cells.take ((off+n)*L.e.size)).drop (off*L.e.size):=kY L.e L.l off (off+n)
     rw[hwl,hwc] at hx
     simp at hx
     obtain⟨rfl,rfl⟩:=hx
     have hmul:(off+n)*L.e.size=off*L.e.size+n*L.e.size:=Nat.add_mul _ _ _
     subst hsz
     rcases hr' with⟨_,e0,p,rfl⟩ | ⟨hn,ad,c,cap,arr,ty1,fz1,rfl,hb,hmem,has,hn',hcap,hpl⟩
     ·have e1:L.l.length=0:=by rw[e0];rfl
      have e2:L.cells=[]:=by simp[TL.cells,e0]
      have e3:n=0:=by omega
      subst e3
      refine⟨fun w'=>by simp[Builtin.lenOf],by simp[e2],[],by rw[e2];simp only[List.take_nil,List.drop_nil];exact .nil,fun k w' hk hw=>?_⟩
      obtain rfl:k=0:=by omega
      cases p with
      | none=>simp[Builtin.firstCells]
      | some a=>grind
     ·have hob:=h.tr.ob s
      rw[hk] at hob
      obtain⟨arr2,fz2,cap2,hh2,_,has2,hsz0,hle2,hc2⟩:=hob.resolve_left hn
      rw[hmem] at hh2
      injection hh2 with hh2;injection hh2 with e1 e2 e3;subst e1
      have hin:(off+n)*L.e.size≤L.cells.length:=by rw[hcl];exact Nat.mul_le_mul_right _ hle0
      have hml:(off+n)*L.e.size≤arr.size:=by omega
      refine⟨fun w'=>by simp[Builtin.lenOf],by simp;omega,(arr.toList.take ((off+n)*L.e.size)).drop (off*L.e.size),?_,?_⟩
      ·exact LR.drop ⟨by simp;omega,fun i d u hd hu=>by
        grind⟩ _
      ·refine qB ad n c _ (by simp;omega) fun i u hu=>?_
       rw[List.getElem?_drop,List.getElem?_take] at hu
       split at hu
       ·rename_i hi
        have hn0:n≠0:=by grind
        have:=hpl (by omega);subst this
        have:(⟨ι s,off*L.e.size,none⟩:Addr).add i=⟨ι s,off*L.e.size+i,none⟩:=by unfold Addr.add;split<;>simp_all
        grind[World.cell?]
       ·cases hu
    ·cases hx
   ·cases hx
  ·cases hx
 ·rename_i s
  split at hx
  ·rename_i hs
   simp at hx
   obtain⟨rfl,rfl⟩:=hx
   subst hs
   obtain⟨b,rfl,hb⟩:=hr.str_
   have hbl:b.size=s.length:=by rw[←hb,Array.length_toList];rfl
   refine⟨fun w'=>by simp[Builtin.lenOf,hbl],by simp,s.map fun b=>.int .u8 b.toNat,LR.map _ _ s fun x _=>.pure (.int _ _),fun k w' hk _=>?_⟩
   simp only[Builtin.firstCells,Sem.run_pure,ByteArray.data_extract]
   (congr 1<;>grind[Array.ext',List.extract_eq_take_drop,List.map_take])
  ·cases hx
 ·cases hx
theorem qt {P:Program} {t tx ty e:TypeId} {i:TypeInfo} {dx:TypeDesc} (ht:P.underlying t=some (.slice e)) (hi:P.info? e=some i) (htx:P.underlying tx=some dx) (hdx:isSrcD dx=true)
  {base:Option Addr} {n cap m:Nat} {cx:Value} {news:List Value} (hlen:∀w',(Builtin.lenOf cx).run P w'=.ok m w')
  (hnew:∀w',w'.heap=w.heap→(Builtin.firstCells i.size m cx).run P w'=.ok news.toArray w'):
  (n + m ≤ cap → (Builtin.append_ #[t, tx] ty #[.slice base n cap, cx]).run P w =
   match base with
   | some ad=>((storeCells (ad.add (n*i.size)) news).run P w).andThen fun _ w'=>.ok (.slice base (n+m) cap) w'
   | none=>.ok (.slice base (n+m) cap) w)∧
  (∀ (z : Value) (olds : Array Value), ¬ n + m ≤ cap → i.zero = some z → 0 < i.bytes → (n + m) * i.bytes ≤ 140737488355328 →
   (∀w',w'.heap=w.heap→(Builtin.firstCells i.size n (.slice base n cap)).run P w'=.ok olds w')→
   (Builtin.append_ #[t, tx] ty #[.slice base n cap, cx]).run P w = .ok (.slice (some ⟨w.heap.size, 0, none⟩) (n + m) (grownCap w (n + m) cap e))
    (w.drew.alloc (.cells (olds++news.toArray++Builtin.zeroCells z.cells (grownCap w (n+m) cap e-(n+m))) e))):=by
 refine⟨fun hroom=>?_,fun z olds hno hz hb0 hbytes hold=>?_⟩
 ·have h1:=hnew w rfl
  rcases vT hdx with⟨e',rfl⟩ | rfl<;>cases base <;>
   simp[Builtin.append_,run_underlying ht,run_size hi,run_underlying htx,hlen,hroom,h1]
 ·have hnx:=nextslicecap_le (need:=n+m) (old:=cap) (by omega)
  have hbig:¬(281474976710656<Builtin.nextslicecap (n+m) cap*i.bytes):=by
   have:Builtin.nextslicecap (n+m) cap*i.bytes≤2*(n+m)*i.bytes:=Nat.mul_le_mul_right _ hnx
   grind
  have hb0':¬i.bytes=0:=by omega
  have h2:=hold w.drew rfl
  have h3:=hnew w.drew rfl
  have hch:(choose (.appendCap (n+m) cap e)).run P w=.ok (grownCap w (n+m) cap e) w.drew:=by
   simp[grownCap,Question.forced]
  rcases vT hdx with⟨e',rfl⟩ | rfl <;>
  simp[Builtin.append_,run_underlying ht,run_size hi,kE hi,run_underlying htx,hlen,hno,hbig,hb0',h2,h3,-run_choose,hch,j8 hi hz,newRow]
def qJ (P:Program) (T:Tab) (t tx:Nat) (s x:V) (d:Nat):Option (V×Option (Nat×Ob)):=
 match P.underlying t,P.underlying tx with
 | some (.slice e),some dx=>match zeroC P e,P.info? e with
  | some zs,some i=>match qM T i.size x with
   | some (m,xs)=>
    if isSrcD dx=true∧0<i.size∧0<i.bytes∧xs.all V.cellOk=true then
     match s with
     | .snil=>if m=0 then some (.snil,none) else
       if m*i.bytes≤140737488355328 then some (.own d ((T.get d).gen+1) 0 m,some (d,⟨(T.get d).gen+1,.row e i.size false xs⟩)) else none
     | .own s g 0 n=>if (T.get s).gen=g∧(n+m)*i.bytes≤140737488355328 then(match (T.get s).k with
      | .row ty sz fz cs=>if ty=e∧sz=i.size∧cs.length=n*sz then some (.own s (g+1) 0 (n+m),some (s,⟨g+1,.row ty sz fz (cs++xs)⟩)) else none
      | _=>none) else none
     | _=>none
    else none
   | none=>none
  | _,_=>none
 | _,_=>none
theorem Qz (h:RelI κ ι st a w) {e s n m:Nat} {i:TypeInfo} {z:Value} (cap:Nat) (fz0:Bool) (olds news:List Value) (cs:List V) (hzs:z.cells.size=i.size) (h0:0<i.size)
  (holds:olds.length=n*i.size) (hnews:news.length=m*i.size) (hcs:LR (Rv st.o ι (Stable κ.D st.o ι w) w) cs (olds++news)):
  To κ st.o ι w (st.o.put s ⟨(st.o.get s).gen+1,.row e i.size fz0 cs⟩) (fun t=>if s=t then w.heap.size else ι t)
   (w.drew.alloc (.cells (olds.toArray++news.toArray++Builtin.zeroCells z.cells (grownCap w (n+m) cap e-(n+m))) e))∧
  ∀{S:Addr→Prop},Rv (wrT st.o (some (s,⟨(st.o.get s).gen+1,.row e i.size fz0 cs⟩))) (fun t=>if s=t then w.heap.size else ι t) S
   (w.drew.alloc (.cells (olds.toArray++news.toArray++Builtin.zeroCells z.cells (grownCap w (n+m) cap e-(n+m))) e))
   (.own s ((st.o.get s).gen+1) 0 (n+m)) (.slice (some ⟨w.heap.size,0,none⟩) (n+m) (grownCap w (n+m) cap e)):=by
 have hge:=grownCap_ge w (n+m) cap e
 have hsz:(olds.toArray++news.toArray++Builtin.zeroCells z.cells (grownCap w (n+m) cap e-(n+m))).size=grownCap w (n+m) cap e*i.size:=by
  simp only[Array.size_append,List.size_toArray,size_zeroCells,hzs,holds,hnews,←Nat.add_mul]
  grind
 refine⟨yv h (w1:=w.drew) rfl rfl rfl rfl s e i.size _ fz0 _ cs h0 hsz ?_ ?_,kM (w:=w) (w1:=w.drew) s e i.size _ _ fz0 cs _ rfl hsz hge⟩
 ·rw[hsz,hcs.1,List.length_append,holds,hnews,←Nat.add_mul];grind
 ·intro j d u hd hu
  refine hcs.2 j d u hd ?_
  have hj:j<(olds++news).length:=by rw[←hcs.1];grind
  grind
theorem ZG (h:RelI κ ι st a w) {t tx ty d:Nat} {s x v:V} {cs cx:Value} {wr:Option (Nat×Ob)} (hs:Rv st.o ι (Stable κ.D st.o ι w) w s cs) (hr:Rv st.o ι (Stable κ.D st.o ι w) w x cx)
  (hx:qJ κ.P st.o t tx s x d=some (v,wr)):SemOk κ ι st.o w (Builtin.append_ #[t,tx] ty #[cs,cx]) v wr:=by
 unfold qJ at hx
 split at hx
 ·rename_i e dx ht htx
  split at hx
  ·rename_i zs i hz hi
   obtain⟨z,i',hi',hzz,hsz,hrun,hlr⟩:=qG hz
   rw[hi] at hi';injection hi' with hi';subst hi'
   split at hx
   ·rename_i m xs hsrc
    obtain⟨hlen,hxl,news,hnews,hfirst⟩:=qF h hr hsrc
    have hnl:news.length=m*i.size:=by rw[←hnews.1];exact hxl
    have hfirst':∀w',w'.heap=w.heap→(Builtin.firstCells i.size m cx).run κ.P w'=.ok news.toArray w':=fun w' hw'=>by
     grind
    split at hx
    ·rename_i hc
     obtain⟨hdx,h0,hb0,hall⟩:=hc
     have gen:=fun base n cap=>qt (w:=w) (P:=κ.P) (ty:=ty) ht hi htx hdx (base:=base) (n:=n) (cap:=cap) hlen hfirst'
     split at hx
     ·-- nil
      have:=hs.snil_;subst this
      split at hx
      ·rename_i hm
       simp at hx
       obtain⟨rfl,rfl⟩:=hx
       grind[SemOk.same,pure]
      ·rename_i hm
       split at hx
       ·rename_i hb
        simp at hx
        obtain⟨rfl,rfl⟩:=hx
        have hrun:=(gen none 0 0).2 z #[] (by omega) hzz hb0 (by simpa using hb) (fun w' _=>by simp[Builtin.firstCells])
        obtain⟨hto,hv⟩:=Qz h (s:=d) (e:=e) (n:=0) (m:=m) (i:=i) (z:=z) 0 false [] news xs hsz h0 (by simp) hnl (by simpa using hnews)
        simp only[Nat.zero_add] at hrun hto hv
        exact⟨_,_,_,hrun,hto,hv⟩
       ·cases hx
     ·rename_i s g n
      split at hx
      ·rename_i hc
       obtain⟨hg,hb⟩:=hc
       split at hx
       ·rename_i ty1 sz fz0 cells hk
        split at hx
        ·rename_i hc2
         obtain⟨hty,hszs,hcl⟩:=hc2
         simp at hx
         obtain⟨rfl,rfl⟩:=hx
         subst hszs hty
         have hT:st.o.get s=⟨g,.row ty1 i.size fz0 cells⟩:=by (cases hTs:st.o.get s<;>grind)
         have hl:st.o.live s:=by simp[Tab.live,hk,OK.live]
         have hself:qM st.o i.size (.own s g 0 n)=some (n,cells):=by
          grind[qM]
         obtain⟨_,_,olds,holds,hofirst⟩:=qF h hs hself
         have hol:olds.length=n*i.size:=by rw[←holds.1];exact hcl
         obtain⟨ad,c,cap,arr,ty2,fz,rfl,hbk,hmem,has,hn,hcap,hpl⟩:=hs.own_ hT
         have hcc:c=cap:=by omega
         subst hcc
         have hob:=h.tr.ob s
         rw[hk] at hob
         obtain⟨arr2,fz2,cap2,hh2,hf2,has2,_,hle2,hc2⟩:=hob
         rw[hmem] at hh2
         injection hh2 with hh2;injection hh2 with e1 e2 e3;subst e1 e2 e3
         by_cases hroom:n+m≤c
         ·have hrun:=(gen (some ad) n c).1 hroom
          have hone:∀u∈news,u.oneCell'=true:=by
           intro u hu
           obtain⟨j,hj⟩:=List.mem_iff_getElem?.1 hu
           have hjl:j<xs.length:=by grind
           exact cell_one (List.all_eq_true.1 hall _ (List.getElem_mem hjl)) (hnews.2 j _ u (List.getElem?_eq_getElem hjl) hj)
          have hfit:n*i.size+m*i.size≤arr.size:=by rw[has,←Nat.add_mul];exact Nat.mul_le_mul_right _ hroom
          have hstore:∃w',(storeCells (ad.add (n*i.size)) news).run κ.P w=.ok () w'∧w'=w.setRow (ι s) (arr.toList.take (n*i.size)++(news++arr.toList.drop (n*i.size+news.length))).toArray:=by
           by_cases hc0:c=0
           ·have hm0:m=0:=by omega
            have hn0:n=0:=by omega
            have:news=[]:=List.eq_nil_of_length_eq_zero (by rw[hnl,hm0];simp)
            subst this
            refine⟨w,by simp[storeCells],?_⟩
            simp only[List.length_nil,Nat.add_zero,List.nil_append,List.take_append_drop,Array.toArray_toList]
            exact(setRow_self w (ι s) arr _ fz hmem).symm
           ·have:=hpl hc0;subst this
            have hst:=run_storeCells_fz κ.P (ι s) (n*i.size) ty2 fz news 0 arr w hmem (fun j hj=>hf2 j (.inl hj)) (by omega) hone
            have hadd:(⟨ι s,0*i.size,none⟩:Addr).add (n*i.size)=⟨ι s,n*i.size,none⟩:=by unfold Addr.add;split<;>simp_all
            grind
          obtain⟨w',hst,rfl⟩:=hstore
          simp only[hst,Result.andThen_ok] at hrun
          have hns:(arr.toList.take (n*i.size)++(news++arr.toList.drop (n*i.size+news.length))).toArray.size=arr.size:=by simp;omega
          have hnew:=setRow_heap w (ι s) arr (arr.toList.take (n*i.size)++(news++arr.toList.drop (n*i.size+news.length))).toArray ty2 fz hmem
          refine⟨_,_,ι,hrun,To.turn h s hl ⟨g+1,.row ty2 i.size fz0 (cells++xs)⟩ rfl rfl rfl (by simp) (fun j hj=>setRow_other w (ι s) j _ hj) (by simp[hg]) (fun p hp hf=>?_) (fun _ _ _ _ _ e=>by simp[hg] at e) ?_ (hsh:=Shape.of hmem hnew hns),?_⟩
          ·-- the cells of a row that was handed on stay as they are
           rw[hk] at hf
           cases fz0 with
           | false=>simp[OK.fzAt] at hf
           | true=>
            grind[OK.fzAt,World.cell?]
          ·intro T' ι' H
           refine⟨_,fz,c,hnew,fun j hj=>hf2 j (by rw[hns] at hj;exact hj),by rw[hns];exact has,h0,by grind,?_⟩
           intro j d u hd hu
           rw[List.getElem?_append] at hd hu
           have e1:(arr.toList.take (n*i.size)).length=n*i.size:=by simp;omega
           rw[e1] at hu
           rw[hcl] at hd
           by_cases h1:j<n*i.size
           ·rw[if_pos h1] at hd
            rw[if_pos h1,List.getElem?_take,if_pos h1] at hu
            exact(hc2 j d u hd hu).mono H
           ·rw[if_neg h1] at hd hu
            have h2:j-n*i.size<news.length:=by grind
            rw[List.getElem?_append_left h2] at hu
            exact(hnews.2 _ d u hd hu).mono H
          ·refine .own ⟨_,_,rfl⟩ (by simp[wrT,Tab.get_put]) fun ty' sz' fz' cs' e=>?_
           simp[wrT,Tab.get_put] at e
           obtain⟨rfl,rfl,rfl,rfl⟩:=e
           exact⟨ad,c,c,_,ty2,fz,rfl,hbk,hnew,by rw[hns];exact has,by omega,by omega,hpl⟩
         ·have hrun:=(gen (some ad) n c).2 z olds.toArray hroom hzz hb0 hb (fun w' hw'=>by grind)
          obtain⟨hto,hv⟩:=Qz h (s:=s) (e:=ty2) (n:=n) (m:=m) (i:=i) (z:=z) c fz0 olds news (cells++xs) hsz h0 hol hnl (holds.append hnews)
          rw[hg] at hto hv
          exact⟨_,_,_,hrun,hto,hv⟩
        ·cases hx
       ·cases hx
      ·cases hx
     ·cases hx
    ·cases hx
   ·cases hx
  ·cases hx
 ·cases hx
end
end Go.Abs
namespace Go.Abs
open Go.RowKit
set_option linter.unusedVariables false
set_option linter.unusedSimpArgs false
def castL {e e':Ty} (h:e'=e) (l:List e'.I):List e.I:=h▸l
def impN {α:Type} (f:List V→Option (α×List V)):Nat→List V→Option (List α×List V)
 | 0,r=>some ([],r)
 | n+1,r=>match f r with
  | some (x,r1)=>match impN f n r1 with
   | some (l,r2)=>some (x::l,r2)
   | none=>none
  | none=>none
def castX {e e':Ty} (h:e'=e) (x:e'.I):e.I:=h▸x
def isAggT:Ty→Bool
 | .agg _=>true
 | _=>false
def isAggV:V→Bool
 | .agg _=>true
 | _=>false
def isOneT:Ty→Bool
 | .int _ | .bool | .str | .list _ | .alt _ _ _ | .alt1 _ _ | .inil=>true
 | _=>false
def jO {α:Type} (a:Ty) (f:List V→Option (α×List V)) (v:V):Option α:=
 if (isAggT a&&isAggV v)||(isOneT a&&!isAggV v) then
  match f v.cells with
  | some (x,[])=>some x
  | _=>none
 else none
def impC:(t:Ty)→List V→Option (t.I×List V)
 | .int k,cs=>match cs with
  | .int k' n::r=>if k'=k then some (n,r) else none
  | _=>none
 | .bool,cs=>match cs with
  | .bs b::r=>some (b,r)
  | .bool b::r=>some (b,r)
  | _=>none
 | .str,cs=>match cs with
  | .str s::r=>some (s,r)
  | _=>none
 | .list e,cs=>match cs with
  | .lst L::r=>if h:L.e=e then some (castL h L.l,r) else none
  | .nl L::r=>if h:L.e=e then some (castL h L.l,r) else none
  | .snil::r=>some ([],r)
  | .sz::r=>some ([],r)
  | .sl n cs::r=>match impN (impC e) n cs with
   | some (l,[])=>some (l,r)
   | _=>none
  | _=>none
 | .unit,r=>some ((),r)
 | .pair a b,r=>match impC a r with
  | some (x,r1)=>match impC b r1 with
   | some (y,r2)=>some ((x,y),r2)
   | none=>none
  | none=>none
 | .agg t,r=>impC t r
 | .alt t a q,cs=>match cs with
  | .si X::r=>if h:X.e=.alt t a q then some (castX h X.x,r) else none
  | .ifc t' u::r=>if t'=t then(match jO a (impC a) u with
    | some y=>some (.inl y,r)
    | none=>none) else(match impC q [.ifc t' u] with
    | some (z,[])=>some (.inr z,r)
    | _=>none)
  | .inil::r=>match impC q [.inil] with
    | some (z,[])=>some (.inr z,r)
    | _=>none
  | _=>none
 | .alt1 t a,cs=>match cs with
  | .ifc t' u::r=>if t'=t then(match jO a (impC a) u with
    | some y=>some (y,r)
    | none=>none) else none
  | _=>none
 | .inil,cs=>match cs with
  | .inil::r=>some ((),r)
  | _=>none
section
variable {T : Tab} {ι : Nat → Nat} {S : Addr → Prop} {w : World}
theorem impN_rv {e:Ty} (ih:∀(cs r:List V) (x:e.I) (us:List Value),impC e cs=some (x,r)→LR (Rv T ι S w) cs us→LR (Rv T ι S w) (cellsV e x++r) us):
  ∀(n:Nat) (cs r:List V) (l:List e.I) (us:List Value),impN (impC e) n cs=some (l,r)→LR (Rv T ι S w) cs us→l.length=n∧LR (Rv T ι S w) (l.flatMap (cellsV e)++r) us
 | 0,cs,r,l,us,h,hr=>by simp[impN] at h;obtain⟨rfl,rfl⟩:=h;exact⟨rfl,by simpa using hr⟩
 | n+1,cs,r,l,us,h,hr=>by
  simp only[impN] at h
  split at h
  ·rename_i x r1 hx
   split at h
   ·rename_i l2 r2 hl
    simp at h
    obtain⟨rfl,rfl⟩:=h
    have h1:=ih _ _ _ _ hx hr
    have h2:=h1.take (cellsV e x).length
    have h3:=h1.drop (cellsV e x).length
    simp only[List.take_left,List.drop_left] at h2 h3
    obtain⟨h4,h5⟩:=impN_rv ih n r1 r2 l2 _ hl h3
    refine⟨by simp[h4],?_⟩
    have:=h2.append h5
    rw[List.take_append_drop] at this
    simpa [List.append_assoc] using this
   ·cases h
  ·cases h
theorem lr_pure {cs:List V} {us:List Value} (hp:∀d∈cs,d.pure=true) (h:LR (Rv T ι S w) cs us):LR (Rp S w) cs us:=
 ⟨h.1,fun i d u hd hu=>(h.2 i d u hd hu).pure_ (hp d (List.mem_of_getElem? hd))⟩
theorem flat_pure {e:Ty} {l:List e.I}:∀d∈l.flatMap (cellsV e),d.pure=true:=by grind[pure_cellsV]
theorem ju {a:Ty} (ih:∀(cs r:List V) (x:a.I) (us:List Value),impC a cs=some (x,r)→LR (Rv T ι S w) cs us→LR (Rv T ι S w) (cellsV a x++r) us)
  {v:V} {y:a.I} {u:Value} (h:jO a (impC a) v=some y) (hr:Rv T ι S w v u):Rv T ι S w (vOf a (cellsV a y)) u:=by
 unfold jO at h
 split at h
 ·rename_i hc
  split at h
  ·rename_i x hx
   injection h with h;subst h
   by_cases hv:isAggV v=true
   ·cases v with
    | agg cs=>
     obtain⟨vs,rfl,hl,hh⟩:=hr.agg_
     have:=ih _ _ _ _ hx ⟨hl,hh⟩
     rw[List.append_nil] at this
     cases a with
     | agg t=>exact .agg this.1 this.2
     | _=>simp[isAggT,isAggV,isOneT] at hc
    | _=>simp[isAggV] at hv
   ·have hcell:v.cells=[v]:=by cases v<;>first | rfl | simp[isAggV] at hv
    rw[hcell] at hx
    have:=ih _ _ _ _ hx (.cons hr .nil)
    rw[List.append_nil] at this
    have e:vOf a (cellsV a x)=(cellsV a x).headD .pnil:=by
     cases a<;>first | rfl | grind[isAggT,isOneT]
    rw[e]
    cases hcs:cellsV a x with
    | nil=>rw[hcs] at this;have:=this.1;simp at this
    | cons d r=>rw[hcs] at this;exact this.2 0 d u rfl rfl
  ·cases h
 ·cases h
theorem impC_rv:∀(t:Ty) (cs r:List V) (x:t.I) (us:List Value),impC t cs=some (x,r)→LR (Rv T ι S w) cs us→LR (Rv T ι S w) (cellsV t x++r) us:=by
 intro t
 induction t with
 | int k=>
  intro cs r x us h hr
  simp only[impC] at h
  split at h
  ·split at h
   ·rename_i e;subst e;simp at h;obtain⟨rfl,rfl⟩:=h;exact hr
   ·cases h
  ·cases h
 | bool=>
  intro cs r x us h hr
  simp only[impC] at h
  split at h
  ·simp at h;obtain⟨rfl,rfl⟩:=h
   obtain⟨u,us',rfl,hu,hr'⟩:=hr.head
   exact .cons (by rw[hu.bs_];exact .pure (.bool _)) hr'
  ·simp at h;obtain⟨rfl,rfl⟩:=h;exact hr
  ·cases h
 | str=>
  intro cs r x us h hr
  simp only[impC] at h
  split at h
  ·simp at h;obtain⟨rfl,rfl⟩:=h;exact hr
  ·cases h
 | unit=>
  intro cs r x us h hr
  simp only[impC] at h
  simp at h;obtain rfl:=h;simpa [cellsV] using hr
 | pair a b iha ihb=>
  intro cs r x us h hr
  simp only[impC] at h
  split at h
  ·rename_i y r1 hy
   split at h
   ·rename_i z r2 hz
    simp at h
    obtain⟨rfl,rfl⟩:=h
    have h1:=iha _ _ _ _ hy hr
    have h2:=h1.take (cellsV a y).length
    have h3:=h1.drop (cellsV a y).length
    simp only[List.take_left,List.drop_left] at h2 h3
    have h4:=h2.append (ihb _ _ _ _ hz h3)
    rw[List.take_append_drop] at h4
    simpa [cellsV,List.append_assoc] using h4
   ·cases h
  ·cases h
 | agg t ih=>
  intro cs r x us h hr
  simp only[impC] at h
  exact ih _ _ _ _ h hr
 | list e ih=>
  intro cs r x us h hr
  simp only[impC] at h
  split at h
  ·rename_i L _
   split at h
   ·rename_i he
    obtain⟨e',l⟩:=L
    simp only at he
    subst he
    simp[castL] at h
    obtain⟨rfl,rfl⟩:=h
    obtain⟨u,us',rfl,hu,hr'⟩:=hr.head
    exact .cons (.pure hu.lst_) hr'
   ·cases h
  ·rename_i L _
   split at h
   ·rename_i he
    obtain⟨e',l⟩:=L
    simp only at he
    subst he
    simp[castL] at h
    obtain⟨rfl,rfl⟩:=h
    obtain⟨u,us',rfl,hu,hr'⟩:=hr.head
    exact .cons (.pure hu.nl_.1.lst_) hr'
   ·cases h
  ·simp at h;obtain⟨rfl,rfl⟩:=h
   obtain⟨u,us',rfl,hu,hr'⟩:=hr.head
   exact .cons (by rw[hu.snil_];exact .pure .slz) hr'
  ·simp at h;obtain⟨rfl,rfl⟩:=h
   obtain⟨u,us',rfl,hu,hr'⟩:=hr.head
   obtain⟨p,rfl⟩:=hu.sz_
   refine .cons (.pure ?_) hr'
   cases p with
   | none=>exact .slz
   | some a=>exact .sl (vs:=[]) (Nat.le_refl _) (by simp) rfl (by simp)
  ·rename_i n cs' r'
   split at h
   ·rename_i l hl
    simp at h
    obtain⟨rfl,rfl⟩:=h
    obtain⟨u,us',rfl,hu,hr'⟩:=hr.head
    refine .cons (.pure ?_) hr'
    rcases hu.sl_ with⟨rfl,rfl,rfl⟩ | ⟨a,c,vs,rfl,hc,hm,hl',hh⟩
    ·simp[impN] at hl
     subst hl
     exact .slz
    ·obtain⟨h1,h2⟩:=impN_rv ih n cs' [] l vs hl ⟨hl',fun i d u hd hu=>.pure (hh i d u hd hu)⟩
     rw[List.append_nil] at h2
     have h3:=lr_pure flat_pure h2
     rw[h1]
     exact .sl hc hm h3.1 h3.2
   ·cases h
  ·cases h
 | alt t a q iha ihq=>
  intro cs r x us h hr
  simp only[impC] at h
  have single:∀(v:V) (z:q.I) (us:List Value),impC q [v]=some (z,[])→LR (Rv T ι S w) (v::r) us→LR (Rv T ι S w) ((cellsV q z).headD .pnil::r) us:=by
   intro v z us hz hr
   obtain⟨u,us',rfl,hu,hr'⟩:=hr.head
   have:=ihq _ _ _ _ hz (.cons hu .nil)
   rw[List.append_nil] at this
   refine .cons ?_ hr'
   cases hcs:cellsV q z with
   | nil=>rw[hcs] at this;have:=this.1;simp at this
   | cons d r=>rw[hcs] at this;exact this.2 0 d u rfl rfl
  split at h
  ·rename_i X r'
   split at h
   ·rename_i he
    obtain⟨e',x'⟩:=X
    simp only at he
    subst he
    simp[castX] at h
    obtain⟨rfl,rfl⟩:=h
    obtain⟨u,us',rfl,hu,hr'⟩:=hr.head
    have h2:=hu.si_
    have e:cellsV (.alt t a q) x'=[(cellsV (.alt t a q) x').headD .pnil]:=by
     cases x'<;>rfl
    rw[e]
    exact .cons (.pure h2) hr'
   ·cases h
  ·rename_i t' u' r'
   split at h
   ·rename_i e
    subst e
    split at h
    ·rename_i y hy
     simp at h
     obtain⟨rfl,rfl⟩:=h
     obtain⟨u,us',rfl,hu,hr'⟩:=hr.head
     obtain⟨u2,rfl,hu2⟩:=hu.ifc_
     exact .cons (.ifc (ju iha hy hu2)) hr'
    ·cases h
   ·split at h
    ·rename_i z hz
     simp at h
     obtain⟨rfl,rfl⟩:=h
     exact single _ _ _ hz hr
    ·cases h
  ·split at h
   ·rename_i z hz
    simp at h
    obtain⟨rfl,rfl⟩:=h
    exact single _ _ _ hz hr
   ·cases h
  ·cases h
 | alt1 t a iha=>
  intro cs r x us h hr
  simp only[impC] at h
  split at h
  ·split at h
   ·rename_i e
    subst e
    split at h
    ·rename_i y hy
     simp at h
     obtain⟨rfl,rfl⟩:=h
     obtain⟨u,us',rfl,hu,hr'⟩:=hr.head
     obtain⟨u2,rfl,hu2⟩:=hu.ifc_
     exact .cons (.ifc (ju iha hy hu2)) hr'
    ·cases h
   ·cases h
  ·cases h
 | inil=>
  intro cs r x us h hr
  simp only[impC] at h
  split at h
  ·simp at h;obtain rfl:=h;exact hr
  ·cases h
theorem vt (t:Ty) (x:t.I) (d:V) (h:d∈cellsV t x):d.cellOk=true:=V.leaf_cellOk (ql t x d h)
theorem xQ {e:Ty} {l:List e.I}:∀d∈l.flatMap (cellsV e),d.cellOk=true:=by grind[vt]
end
section
variable {κ : Cx} {ι : Nat → Nat} {st : St} {a : Act} {w : World}
def symSrc (T:Tab) (e:Ty) (x:V):Option (List e.I):=
 match x with
 | .lst L=>if h:L.e=e then some (castL h L.l) else none
 | .acc s g=>if (T.get s).gen=g then(match (T.get s).k with
  | .nrow _ _ _ L=>if h:L.e=e then some (castL h L.l) else none
  | _=>none) else none
 | .nwin s g off n=>if (T.get s).gen=g then(match (T.get s).k with
  | .nrow _ _ _ L=>if h:L.e=e then some (castL h ((L.l.take (off+n)).drop off)) else none
  | _=>none) else none
 | .str s=>if h:Ty.int .u8=e then some (castL (e':=.int .u8) h (s.map fun b=>(b.toNat:Int))) else none
 | x=>match qM T e.size x with
  | some (m,xs)=>match impN (impC e) m xs with
   | some (l,[])=>some l
   | _=>none
  | none=>none
theorem vG (h:RelI κ ι st a w) {e:Ty} {x:V} {cx:Value} {l:List e.I} (hr:Rv st.o ι (Stable κ.D st.o ι w) w x cx) (hx:symSrc st.o e x=some l):
  (∀w',(Builtin.lenOf cx).run κ.P w'=.ok l.length w')∧
  ∃news:List Value,LR (Rv st.o ι (Stable κ.D st.o ι w) w) (l.flatMap (cellsV e)) news∧(∀k w',k≤l.length→w'.heap=w.heap→(Builtin.firstCells e.size k cx).run κ.P w'=.ok (news.take (k*e.size)).toArray w'):=by
 unfold symSrc at hx
 split at hx
 ·rename_i L
  split at hx
  ·rename_i he
   obtain⟨e',l'⟩:=L
   subst he
   simp[castL] at hx;subst hx
   obtain⟨h1,_,h2⟩:=qF h (size:=e'.size) (m:=l'.length) (xs:=(⟨e',l'⟩:TL).cells) hr (by simp[qM])
   exact⟨h1,h2⟩
  ·cases hx
 ·rename_i s g
  split at hx
  ·rename_i hg
   split at hx
   ·rename_i ty fz nl L hk
    split at hx
    ·rename_i he
     obtain⟨e',l'⟩:=L
     subst he
     simp[castL] at hx;subst hx
     obtain⟨h1,_,h2⟩:=qF h (size:=e'.size) (m:=l'.length) (xs:=(⟨e',l'⟩:TL).cells) hr (by simp[qM,hg,hk])
     exact⟨h1,h2⟩
    ·cases hx
   ·cases hx
  ·cases hx
 ·rename_i s g off n
  split at hx
  ·rename_i hg
   split at hx
   ·rename_i ty fz nl L hk
    split at hx
    ·rename_i he
     obtain⟨e',l'⟩:=L
     subst he
     simp[castL] at hx;subst hx
     obtain⟨h1,_,h2⟩:=qF h (size:=e'.size) (m:=((l'.take (off+n)).drop off).length) (xs:=(⟨e',(l'.take (off+n)).drop off⟩:TL).cells) hr (by grind[qM])
     exact⟨h1,h2⟩
    ·cases hx
   ·cases hx
  ·cases hx
 ·rename_i s
  split at hx
  ·rename_i he
   subst he
   simp only[castL,Option.some.injEq] at hx
   subst hx
   obtain⟨h1,_,news,h2,h3⟩:=qF h (size:=1) (m:=s.length) (xs:=s.map fun b=>.int .u8 b.toNat) hr (by simp[qM])
   have e1:(s.map fun b=>(b.toNat:Int)).length=s.length:=List.length_map _
   have e2:∀l:List UInt8,(l.map fun b=>(b.toNat:Int)).flatMap (cellsV (.int .u8))=l.map fun b=>V.int .u8 b.toNat:=by
    intro l
    induction l with
    | nil=>rfl
    | cons x r ih=>rw[List.map_cons,List.flatMap_cons,ih];rfl
   refine⟨fun w'=>?_,news,?_,fun k w' hk hw=>?_⟩
   ·grind
   ·grind
   ·rw[e1] at hk;exact h3 k w' hk hw
  ·cases hx
 ·split at hx
  ·rename_i m xs hs
   split at hx
   ·rename_i l' hl
    injection hx with hx;subst hx
    obtain⟨h1,h2,news,h3,h4⟩:=qF h hr hs
    (obtain⟨h5,h6⟩:=impN_rv (impC_rv e) m xs [] l' news hl h3<;>grind[impN_rv,impC_rv])
   ·cases hx
  ·cases hx
theorem To.virt (h:RelI κ ι st a w) (s ty:Nat) (fz:Bool) (L:TL) (hL:L.l=[]):To κ st.o ι w (st.o.put s ⟨(st.o.get s).gen+1,.nrow ty fz true L⟩) ι w:=by
 have hlive:∀t,(st.o.put s ⟨(st.o.get s).gen+1,.nrow ty fz true L⟩).live t→s≠t∧st.o.live t:=fun t hl=>by
  simp only[Tab.live,Tab.get_put] at hl
  by_cases e:s=t
  ·grind[OK.live]
  ·rw[if_neg e] at hl;exact⟨e,hl⟩
 have H:Goes κ.D st.o ι w (st.o.put s ⟨(st.o.get s).gen+1,.nrow ty fz true L⟩) ι w:=by
  refine⟨fun p hp=>⟨⟨hp.1,hp.2.1,fun t hl=>?_⟩,rfl⟩,fun t=>?_,fun t hl hg=>?_,fun t g ty' sz fz' cs' hT hg=>?_,fun t g ty' fz' nl' L' hT hg=>?_⟩
  ·obtain⟨h1,h2⟩:=hlive t hl
   rw[Tab.get_put,if_neg h1]
   exact hp.2.2 t h2
  ·rw[Tab.get_put];grind
  ·grind
  ·rw[Tab.get_put] at hT
   grind
  ·rw[Tab.get_put] at hT
   grind
 refine⟨H,⟨fun t=>?_,fun t u ht hu=>h.tr.inj t u (hlive t ht).2 (hlive u hu).2,fun t ht=>h.tr.lt t (hlive t ht).2⟩,fun t ht=>h.my t (hlive t ht).2,h.kept⟩
 rw[Tab.get_put]
 split
 ·exact .inl ⟨rfl,hL⟩
 ·exact(h.tr.ob t).mono H rfl
def xK (T:Tab) (x:V):Option TL:=match x with
 | .lst L=>some L
 | .acc s g=>if (T.get s).gen=g then(match (T.get s).k with
  | .nrow _ _ _ L=>some L
  | _=>none) else none
 | .nwin s g off n=>if (T.get s).gen=g then(match (T.get s).k with
  | .nrow _ _ _ L=>some ⟨L.e,(L.l.take (off+n)).drop off⟩
  | _=>none) else none
 | _=>none
theorem Jc {T:Tab} {x:V} {L:TL} (h:xK T x=some L) {size:Nat} (hs:L.e.size=size):qM T size x=some (L.l.length,L.cells):=by
 unfold xK at h
 grind[qM]
def sAppend (P:Program) (T:Tab) (t tx:Nat) (s x:V) (d:Nat):Option (V×Option (Nat×Ob)):=
 match P.underlying t,P.underlying tx with
 | some (.slice et),some dx=>match zeroC P et,P.info? et with
  | some _,some i=>if isSrcD dx=true∧0<i.size∧0<i.bytes then
    match s with
    | .acc q g=>if (T.get q).gen=g then(match (T.get q).k with
     | .nrow ty fz nl L=>if ty=et∧L.e.size=i.size then(match symSrc T L.e x with
      | some l=>if (L.l.length+l.length)*i.bytes≤140737488355328 then some (.acc q (g+1),some (q,⟨g+1,.nrow ty fz nl ⟨L.e,L.l++l⟩⟩)) else none
      | none=>none) else none
     | _=>none) else none
    | .snil | .sz=>match xK T x with
     | some L=>if L.e.size=i.size then(if L.l.length*i.bytes≤140737488355328 then some (.acc d ((T.get d).gen+1),some (d,⟨(T.get d).gen+1,.nrow et false true L⟩)) else none) else none
     | _=>none
    | _=>none
   else none
  | _,_=>none
 | _,_=>none
theorem xy (h:RelI κ ι st a w) {et s n m:Nat} {i:TypeInfo} {z:Value} (cap:Nat) (fz nl:Bool) (olds news:List Value) (L:TL) (hLi:L.e.size=i.size) (hn:¬(nl=true∧L.l=[])) (hl:L.l.length=n+m)
  (hzs:z.cells.size=i.size) (h0:0<i.size) (holds:olds.length=n*i.size) (hnews:news.length=m*i.size) (hcs:LR (Rv st.o ι (Stable κ.D st.o ι w) w) L.cells (olds++news)):
  To κ st.o ι w (st.o.put s ⟨(st.o.get s).gen+1,.nrow et fz nl L⟩) (fun t=>if s=t then w.heap.size else ι t)
   (w.drew.alloc (.cells (olds.toArray++news.toArray++Builtin.zeroCells z.cells (grownCap w (n+m) cap et-(n+m))) et))∧
  ∀{S:Addr→Prop},Rv (wrT st.o (some (s,⟨(st.o.get s).gen+1,.nrow et fz nl L⟩))) (fun t=>if s=t then w.heap.size else ι t) S
   (w.drew.alloc (.cells (olds.toArray++news.toArray++Builtin.zeroCells z.cells (grownCap w (n+m) cap et-(n+m))) et))
   (.acc s ((st.o.get s).gen+1)) (.slice (some ⟨w.heap.size,0,none⟩) (n+m) (grownCap w (n+m) cap et)):=by
 have hge:=grownCap_ge w (n+m) cap et
 have hsz:(olds.toArray++news.toArray++Builtin.zeroCells z.cells (grownCap w (n+m) cap et-(n+m))).size=grownCap w (n+m) cap et*L.e.size:=by
  simp only[Array.size_append,List.size_toArray,size_zeroCells,hzs,holds,hnews,←Nat.add_mul,hLi]
  grind
 have hcl:L.cells.length=(n+m)*L.e.size:=by rw[L.cells_length,hl]
 generalize hA:(olds.toArray++news.toArray++Builtin.zeroCells z.cells (grownCap w (n+m) cap et-(n+m)))=A at *
 constructor
 ·refine To.new h (w1:=w.drew) rfl rfl rfl rfl s _ _ fun T' ι' w' H hnew=>.inr ⟨A,(0,0),_,hnew,fun i _=>by simp,hsz,by grind,by grind,fun j d u hd hu=>?_⟩
  (refine(hcs.2 j d u hd ?_).mono H<;>grind[List.getElem?_eq_some_iff,Array.toList_append,List.getElem?_append_left])
 ·intro S
  refine .acc ⟨_,_,_,rfl⟩ (by simp[wrT,Tab.get_put]) fun ty' fz' nl' L' e=>?_
  simp[wrT,Tab.get_put] at e
  obtain⟨rfl,rfl,rfl,rfl⟩:=e
  refine .inr ⟨hn,_,grownCap w (n+m) cap et,grownCap w (n+m) cap et,A,et,(0,0),by rw[hl],by simp,?_,hsz,by omega,by omega,fun _=>by simp⟩
  have:=heap_alloc_new w.drew (.cells A et)
  simpa using this
theorem ky (h:RelI κ ι st a w) {t tx ty d:Nat} {s x v:V} {cs cx:Value} {wr:Option (Nat×Ob)} (hs:Rv st.o ι (Stable κ.D st.o ι w) w s cs) (hr:Rv st.o ι (Stable κ.D st.o ι w) w x cx)
  (hx:sAppend κ.P st.o t tx s x d=some (v,wr)):SemOk κ ι st.o w (Builtin.append_ #[t,tx] ty #[cs,cx]) v wr:=by
 unfold sAppend at hx
 split at hx
 ·rename_i et dx ht htx
  split at hx
  ·rename_i zs i hz hi
   obtain⟨z,i',hi',hzz,hsz,hrun,hlr⟩:=qG hz
   rw[hi] at hi';injection hi' with hi';subst hi'
   split at hx
   ·rename_i hc
    obtain⟨hdx,h0,hb0⟩:=hc
    have fresh:∀{p:Option Addr} {L:TL},cs=.slice p 0 0→xK st.o x=some L→L.e.size=i.size→L.l.length*i.bytes≤140737488355328→
      SemOk κ ι st.o w (Builtin.append_ #[t,tx] ty #[cs,cx]) (.acc d ((st.o.get d).gen+1)) (some (d,⟨(st.o.get d).gen+1,.nrow et false true L⟩)):=by
     rintro p L rfl hxL hLi hb
     obtain⟨hlen,hxl,news,hnews,hfirst⟩:=qF h (size:=i.size) (m:=L.l.length) (xs:=L.cells) hr (Jc hxL hLi)
     have hnl:news.length=L.l.length*i.size:=by rw[←hnews.1];exact hxl
     have hfirst':∀w',w'.heap=w.heap→(Builtin.firstCells i.size L.l.length cx).run κ.P w'=.ok news.toArray w':=fun w' hw'=>by
      grind
     have gen:=qt (w:=w) (P:=κ.P) (ty:=ty) ht hi htx hdx (base:=p) (n:=0) (cap:=0) hlen hfirst'
     by_cases hm:L.l=[]
     ·have hm0:L.l.length=0:=by rw[hm];rfl
      have hrun:=gen.1 (by omega)
      have hn0:news=[]:=List.eq_nil_of_length_eq_zero (by rw[hnl,hm0];simp)
      subst hn0
      rw[hm0] at hrun
      refine⟨.slice p 0 0,w,ι,?_,To.virt h d et false L hm,.acc ⟨_,_,_,rfl⟩ (by simp[wrT,Tab.get_put]) fun ty' fz' nl' L' e=>?_⟩
      ·cases p with
       | none=>exact hrun
       | some ad=>simpa [storeCells] using hrun
      ·simp[wrT,Tab.get_put] at e
       grind
     ·have hpos:¬0+L.l.length≤0:=by
       grind
      have hrun:=gen.2 z #[] hpos hzz hb0 (by simpa using hb) (fun w' _=>by
       cases p with
       | none=>simp[Builtin.firstCells]
       | some ad=>grind[run_firstCells_some])
      obtain⟨hto,hv⟩:=xy h (s:=d) (et:=et) (n:=0) (m:=L.l.length) (i:=i) (z:=z) 0 false true [] news L hLi (fun e=>hm e.2) (by omega) hsz h0 (by simp) hnl (by simpa using hnews)
      simp only[Nat.zero_add] at hrun hto hv
      exact⟨_,_,_,hrun,hto,hv⟩
    split at hx
    ·rename_i q g
     split at hx
     ·rename_i hg
      split at hx
      ·rename_i ty1 fz nl L hk
       split at hx
       ·rename_i hc2
        obtain⟨rfl,hLi⟩:=hc2
        split at hx
        ·rename_i l hl
         split at hx
         ·rename_i hb
          simp at hx
          obtain⟨rfl,rfl⟩:=hx
          obtain⟨hlen,news,hnews,hfirst⟩:=vG h hr hl
          rw[hLi] at hfirst
          have hnl:news.length=l.length*i.size:=by rw[←hnews.1,qn,hLi]
          have hfirst':∀w',w'.heap=w.heap→(Builtin.firstCells i.size l.length cx).run κ.P w'=.ok news.toArray w':=fun w' hw'=>by
           grind
          have gen:=fun base n cap=>qt (w:=w) (P:=κ.P) (ty:=ty) ht hi htx hdx (base:=base) (n:=n) (cap:=cap) hlen hfirst'
          have hT:st.o.get q=⟨g,.nrow ty1 fz nl L⟩:=by (cases hTs:st.o.get q<;>grind)
          have hcat:(⟨L.e,L.l++l⟩:TL).cells=L.cells++l.flatMap (cellsV L.e):=by simp[TL.cells]
          rcases hs.acc_ hT with⟨hnl1,hl0,p,rfl⟩ | ⟨hn,ad,c,cap,arr,ty2,fz2,rfl,hbk,hmem,has,hn',hcap,hpl⟩
          ·-- nothing there yet
           have e1:L.l.length=0:=by rw[hl0];rfl
           by_cases hm:l=[]
           ·have hm0:l.length=0:=by rw[hm];rfl
            have hrun:=(gen p 0 0).1 (by omega)
            have hn0:news=[]:=List.eq_nil_of_length_eq_zero (by rw[hnl,hm0];simp)
            subst hn0
            rw[hm0] at hrun
            subst hnl1
            have hv:=To.virt h q ty1 fz ⟨L.e,L.l++l⟩ (by simp[hl0,hm])
            rw[hg] at hv
            refine⟨.slice p 0 0,w,ι,?_,hv,.acc ⟨_,_,_,rfl⟩ (by simp[wrT,Tab.get_put]) fun ty' fz' nl' L' e=>?_⟩
            ·(cases p<;>simp_all[storeCells])
            ·simp[wrT,Tab.get_put] at e
             grind
           ·have hpos:¬0+l.length≤0:=by
             grind
            have hrun:=(gen p 0 0).2 z #[] hpos hzz hb0 (by rw[e1] at hb;exact hb) (fun w' _=>by
             cases p with
             | none=>simp[Builtin.firstCells]
             | some ad=>grind[run_firstCells_some])
            obtain⟨hto,hv⟩:=xy h (s:=q) (et:=ty1) (n:=0) (m:=l.length) (i:=i) (z:=z) 0 fz nl [] news ⟨L.e,L.l++l⟩ hLi (fun e=>hm (by simpa [hl0] using e.2)) (by simp[e1]) hsz h0 (by simp) hnl
             (by rw[hcat];simpa [TL.cells,hl0] using hnews)
            rw[hg] at hto hv
            simp only[Nat.zero_add] at hrun hto hv
            exact⟨_,_,_,hrun,hto,hv⟩
          ·have hlv:st.o.live q:=by simp only[Tab.live,hk,OK.live];exact hn
           have hself:qM st.o i.size (.acc q g)=some (L.l.length,L.cells):=by simp[qM,hT,hLi]
           obtain⟨_,hcl0,olds,holds,hofirst⟩:=qF h hs hself
           have hol:olds.length=L.l.length*i.size:=by rw[←holds.1];exact hcl0
           have hcc:c=cap:=by omega
           subst hcc
           have hob:=h.tr.ob q
           rw[hk] at hob
           obtain⟨arr2,fz3,cap2,hh2,hf2,has2,_,hle2,hc2⟩:=hob.resolve_left hn
           rw[hmem] at hh2
           injection hh2 with hh2;injection hh2 with e1 e2 e3;subst e1 e2 e3
           have hcl:=L.cells_length
           by_cases hroom:L.l.length+l.length≤c
           ·have hrun:=(gen (some ad) L.l.length c).1 hroom
            have hone:∀u∈news,u.oneCell'=true:=by
             intro u hu
             obtain⟨j,hj⟩:=List.mem_iff_getElem?.1 hu
             have hjl:j<(l.flatMap (cellsV L.e)).length:=by rw[hnews.1];grind
             exact cell_one (xQ _ (List.getElem_mem hjl)) (hnews.2 j _ u (List.getElem?_eq_getElem hjl) hj)
            have hfit:L.l.length*i.size+l.length*i.size≤arr.size:=by rw[has,hLi,←Nat.add_mul];exact Nat.mul_le_mul_right _ hroom
            have hstore:∃w',(storeCells (ad.add (L.l.length*i.size)) news).run κ.P w=.ok () w'∧w'=w.setRow (ι q) (arr.toList.take (L.l.length*i.size)++(news++arr.toList.drop (L.l.length*i.size+news.length))).toArray:=by
             by_cases hc0:c=0
             ·have hm0:l.length=0:=by omega
              have hn0:L.l.length=0:=by omega
              have:news=[]:=List.eq_nil_of_length_eq_zero (by rw[hnl,hm0];simp)
              subst this
              refine⟨w,by simp[storeCells],?_⟩
              simp only[List.length_nil,Nat.add_zero,List.nil_append,List.take_append_drop,Array.toArray_toList]
              exact(setRow_self w (ι q) arr _ fz2 hmem).symm
             ·have:=hpl hc0;subst this
              have hst:=run_storeCells_fz κ.P (ι q) (L.l.length*i.size) ty2 fz2 news 0 arr w hmem (fun j hj=>hf2 j (.inl hj)) (by omega) hone
              have hadd:(⟨ι q,0*L.e.size,none⟩:Addr).add (L.l.length*i.size)=⟨ι q,L.l.length*i.size,none⟩:=by unfold Addr.add;split<;>simp_all
              grind
            obtain⟨w',hst,rfl⟩:=hstore
            simp only[hst,Result.andThen_ok] at hrun
            have hns:(arr.toList.take (L.l.length*i.size)++(news++arr.toList.drop (L.l.length*i.size+news.length))).toArray.size=arr.size:=by simp;omega
            have hnew:=setRow_heap w (ι q) arr (arr.toList.take (L.l.length*i.size)++(news++arr.toList.drop (L.l.length*i.size+news.length))).toArray ty2 fz2 hmem
            have hnn:¬(nl=true∧L.l++l=[]):=fun e=>hn ⟨e.1,(List.append_eq_nil_iff.1 e.2).1⟩
            refine⟨_,_,ι,hrun,To.turn h q hlv ⟨g+1,.nrow ty2 fz nl ⟨L.e,L.l++l⟩⟩ rfl rfl rfl (by simp) (fun j hj=>setRow_other w (ι q) j _ hj) (by simp[hg]) (fun p hp hf=>?_) (fun _ _ _ _ e=>by cases e) ?_ (fun _ _ _ _ _ e=>by simp[hg] at e) (hsh:=Shape.of hmem hnew hns),?_⟩
            ·rw[hk] at hf
             cases fz with
             | false=>simp[OK.fzAt] at hf
             | true=>
              have hf':p.off<L.l.length*L.e.size:=by simpa [OK.fzAt] using hf
              refine⟨by simp[OK.fzAt,Nat.add_mul];omega,?_⟩
              grind[World.cell?]
            ·intro T' ι' H
             refine .inr ⟨_,fz2,c,hnew,fun j hj=>hf2 j (by rw[hns] at hj;exact hj),by rw[hns];exact has,by simp only;rw[hLi];exact h0,by rw[hns,hcat,List.length_append,hcl,qn,hLi];exact hfit,?_⟩
             intro j d' u hd hu
             rw[hcat] at hd
             simp only at hu
             rw[List.getElem?_append] at hd hu
             have e1:(arr.toList.take (L.l.length*i.size)).length=L.l.length*i.size:=by simp;omega
             rw[e1] at hu
             rw[hcl,hLi] at hd
             by_cases h1:j<L.l.length*i.size
             ·rw[if_pos h1] at hd
              rw[if_pos h1,List.getElem?_take,if_pos h1] at hu
              exact(hc2 j d' u hd hu).mono H
             ·rw[if_neg h1] at hd hu
              have h2:j-L.l.length*i.size<news.length:=by rw[←hnews.1];grind
              rw[List.getElem?_append_left h2] at hu
              exact(hnews.2 _ d' u hd hu).mono H
            ·refine .acc ⟨_,_,_,rfl⟩ (by simp[wrT,Tab.get_put]) fun ty' fz' nl' L' e=>?_
             simp[wrT,Tab.get_put] at e
             obtain⟨rfl,rfl,rfl,rfl⟩:=e
             exact .inr ⟨hnn,ad,c,c,_,ty2,fz2,by simp,hbk,hnew,by rw[hns];exact has,by simp;omega,by omega,hpl⟩
           ·have hrun:=(gen (some ad) L.l.length c).2 z olds.toArray hroom hzz hb0 hb (fun w' hw'=>by rw[hofirst _ w' (Nat.le_refl _) hw',←hol,List.take_length])
            have hnn:¬(nl=true∧L.l++l=[]):=fun e=>hn ⟨e.1,(List.append_eq_nil_iff.1 e.2).1⟩
            obtain⟨hto,hv⟩:=xy h (s:=q) (et:=ty2) (n:=L.l.length) (m:=l.length) (i:=i) (z:=z) c fz nl olds news ⟨L.e,L.l++l⟩ hLi hnn (by simp) hsz h0 hol hnl (by rw[hcat];exact holds.append hnews)
            rw[hg] at hto hv
            exact⟨_,_,_,hrun,hto,hv⟩
         ·cases hx
        ·cases hx
       ·cases hx
      ·cases hx
     ·cases hx
    ·split at hx
     ·rename_i L hxL
      split at hx
      ·rename_i hLi
       split at hx
       ·rename_i hb
        simp at hx
        obtain⟨rfl,rfl⟩:=hx
        exact fresh hs.snil_ hxL hLi hb
       ·cases hx
      ·cases hx
     ·cases hx
    ·split at hx
     ·rename_i L hxL
      split at hx
      ·rename_i hLi
       split at hx
       ·rename_i hb
        simp at hx
        obtain⟨rfl,rfl⟩:=hx
        (obtain⟨p,hp⟩:=hs.sz_<;>grind)
       ·cases hx
      ·cases hx
     ·cases hx
    ·cases hx
   ·cases hx
  ·cases hx
 ·cases hx
end
def putL {α:Type} (l mid:List α) (p:Nat):List α:=l.take p++(mid++l.drop (p+mid.length))
theorem putL_length {α:Type} {l mid:List α} {p:Nat} (h:p+mid.length≤l.length):(putL l mid p).length=l.length:=by simp[putL];omega
theorem je {α:Type} {l mid:List α} {p i:Nat} (h:p+mid.length≤l.length):(putL l mid p)[i]? = if i<p then l[i]? else if i<p+mid.length then mid[i-p]? else l[i]?:=by
 grind[putL]
theorem Jo {e:Ty} (l mid:List e.I) (p:Nat) (h:p+mid.length≤l.length):(putL l mid p).flatMap (cellsV e)=putL (l.flatMap (cellsV e)) (mid.flatMap (cellsV e)) (p*e.size):=by
 grind[putL,zg,zh,qn,Nat.add_mul]
theorem Xb {R:V→Value→Prop} {e:Ty} {l mid:List e.I} {p:Nat} {arr news:List Value} (hp:p+mid.length≤l.length)
  (hc:∀(j:Nat) (d:V) (u:Value),(l.flatMap (cellsV e))[j]? = some d→arr[j]? = some u→R d u) (hn:LR R (mid.flatMap (cellsV e)) news) (hle:l.length*e.size≤arr.length):
  ∀(j:Nat) (d:V) (u:Value),((putL l mid p).flatMap (cellsV e))[j]? = some d→(putL arr news (p*e.size))[j]? = some u→R d u:=by
 intro j d u hd hu
 have hnl:news.length=mid.length*e.size:=by rw[←hn.1,qn]
 have h1:p*e.size+mid.length*e.size≤l.length*e.size:=by rw[←Nat.add_mul];exact Nat.mul_le_mul_right _ hp
 rw[Jo l mid p hp,je (by grind[qn]),qn] at hd
 rw[je (by omega),hnl] at hu
 split at hd
 ·grind
 ·rename_i hj
  rw[if_neg hj] at hu
  split at hd
  ·rename_i hj2;rw[if_pos hj2] at hu;exact hn.2 _ d u hd hu
  grind
section
variable {κ : Cx} {ι : Nat → Nat} {st : St} {a : Act} {w : World}
theorem To.putRow (h:RelI κ ι st a w) {s g ty:Nat} {nl:Bool} {L:TL} (hT:st.o.get s=⟨g,.nrow ty false nl L⟩) (hn:¬(nl=true∧L.l=[])) {arr:Array Value} {ty':Nat} {fz:Nat×Nat}
  (hh:w.heap[ι s]? = some (.cells arr ty' fz)) (mid:List L.e.I) (p:Nat) (hp:p+mid.length≤L.l.length) {news:List Value}
  (hnews:LR (Rv st.o ι (Stable κ.D st.o ι w) w) (mid.flatMap (cellsV L.e)) news) {A:Array Value} (hA:A.toList=putL arr.toList news (p*L.e.size)):
  To κ st.o ι w (st.o.put s ⟨g,.nrow ty false nl ⟨L.e,putL L.l mid p⟩⟩) ι (w.setRow (ι s) A):=by
 have hk:(st.o.get s).k=.nrow ty false nl L:=by rw[hT]
 have hl:st.o.live s:=by grind[Tab.live,OK.live]
 have hob:=h.tr.ob s
 rw[hk] at hob
 obtain⟨arr2,fz2,cap,b1,b2,b3,b4,b5,b6⟩:=hob.resolve_left hn
 rw[hh] at b1
 injection b1 with b1;injection b1 with e1 e2 e3;subst e1 e2 e3
 have hnl:news.length=mid.length*L.e.size:=by rw[←hnews.1,qn]
 have hin:p*L.e.size+mid.length*L.e.size≤L.l.length*L.e.size:=by rw[←Nat.add_mul];exact Nat.mul_le_mul_right _ hp
 have hcl:=L.cells_length
 have hAs:A.size=arr.size:=by
  grind[putL_length]
 have hnew:=setRow_heap w (ι s) arr A ty' fz hh
 have hns:(putL L.l mid p).length=L.l.length:=putL_length hp
 refine To.turn (w':=w.setRow (ι s) A) h s hl ⟨g,.nrow _ false nl ⟨L.e,putL L.l mid p⟩⟩ rfl rfl rfl (by simp) (fun j hj=>setRow_other w (ι s) j _ hj) (by grind)
  (fun q _ hf=>by rw[hk] at hf;exact hf.elim) (fun _ _ _ _ e=>by cases e) (fun T' ι' H=>?_) (fun ty2 fz2 nl2 L2 e _=>?_) (hsh:=Shape.of hh hnew hAs)
 ·refine .inr ⟨A,fz,cap,hnew,fun j hj=>b2 j (by grind),by grind,b4,?_,fun j d u hd hu=>?_⟩
  ·grind[TL.cells_length,putL]
  ·rw[hA] at hu
   exact Xb (R:=Rv T' ι' (Stable κ.D T' ι' (w.setRow (ι s) A)) (w.setRow (ι s) A)) hp (fun j d u hd hu=>(b6 j d u hd hu).mono H) (hnews.mono fun d u hd=>hd.mono H) (by simp;omega) j d u hd hu
 grind
end
section
variable {κ : Cx} {ι : Nat → Nat} {st : St} {a : Act} {w : World}
def jf (P:Program) (T:Tab) (t:Nat) (x v:V):Option (Option (Nat×Ob)):=
 match x with
 | .eptr s g sz i off=>match P.info? t with
  | some inf=>if v.isU=false∧(T.get s).gen=g∧v.cells.length=inf.size∧v.cells.all V.cellOk=true then
    match (T.get s).k with
    | .nrow ty false nl L=>if off+inf.size≤L.e.size then
      match impC L.e (splice (cellsW L.e (L.l.getD i L.e.dflt)) off v.cells) with
      | some (y,[])=>some (some (s,⟨g,.nrow ty false nl ⟨L.e,putL L.l [y] i⟩⟩))
      | _=>none
      else none
    | _=>none
   else none
  | none=>none
 | _=>none
theorem Zg {α:Type} (l vs:List α) (o off n:Nat) (h:off+vs.length≤n) (hn:o+n≤l.length):putL l (putL ((l.drop o).take n) vs off) o=l.take (o+off)++(vs++l.drop (o+off+vs.length)):=by
 have e1:((l.drop o).take n).length=n:=by simp;omega
 have e2:(putL ((l.drop o).take n) vs off).length=n:=by grind[putL_length]
 apply List.ext_getElem?
 intro i
 rw[je (by rw[e2];omega),e2]
 have r:(l.take (o+off)++(vs++l.drop (o+off+vs.length)))[i]? = if i<o+off then l[i]? else if i<o+off+vs.length then vs[i-(o+off)]? else l[i]?:=je (by omega)
 rw[r]
 by_cases h1:i<o
 ·grind
 ·rw[if_neg h1]
  by_cases h2:i<o+n
  ·rw[if_pos h2,je (by omega)]
   have e3:((l.drop o).take n)[i-o]? = l[i]?:=by
    rw[List.getElem?_take,if_pos (show i-o<n by omega),List.getElem?_drop,show o+(i-o)=i from by omega]
   grind
  grind
theorem vQ (h:RelI κ ι st a w) {t:Nat} {x v:V} {cx cv:Value} {wr:Option (Nat×Ob)} (hrx:Rv st.o ι (Stable κ.D st.o ι w) w x cx)
  (hrv:Rv st.o ι (Stable κ.D st.o ι w) w v cv) (hx:jf κ.P st.o t x v=some wr):UnitOk κ ι st.o w (Instr.storeAt t cx cv) wr:=by
 unfold jf at hx
 split at hx
 case h_2=>cases hx
 rename_i s g sz i off
 split at hx
 case h_2=>cases hx
 rename_i inf hi
 split at hx
 case isFalse=>cases hx
 rename_i hc
 obtain⟨hne,hg,hlen,hall⟩:=hc
 split at hx
 case h_2=>cases hx
 rename_i ty nl L hk
 split at hx
 case isFalse=>cases hx
 rename_i hoff
 split at hx
 case h_2=>cases hx
 rename_i y hy
 injection hx with hx;subst hx
 have hT:st.o.get s=⟨g,.nrow ty false nl L⟩:=by (cases hq:st.o.get s<;>grind)
 obtain⟨hsz,hil,hcx⟩:=hrx.eptr_ hT
 subst hsz hcx
 have hn:¬(nl=true∧L.l=[]):=fun e=>by grind
 have hlr:=cells_lr (V.isU_ne hne) hrv
 have hsz:cv.cells.size=inf.size:=by rw[←hlen];simpa using hlr.1.symm
 have hszl:cv.cells.toList.length=inf.size:=by grind
 have hone:∀u∈cv.cells.toList,u.oneCell'=true:=by
  intro u hu
  obtain⟨j,hj⟩:=List.mem_iff_getElem?.1 hu
  have hjl:j<v.cells.length:=by grind
  exact cell_one (List.all_eq_true.1 hall _ (List.getElem_mem hjl)) (hlr.2 j _ u (List.getElem?_eq_getElem hjl) hj)
 have hob:=h.tr.ob s
 rw[hk] at hob
 obtain⟨arr,fz,cap,b1,b2,b3,b4,b5,b6⟩:=hob.resolve_left hn
 have hcl:=L.cells_length
 have hend:i*L.e.size+L.e.size≤L.l.length*L.e.size:=by rw[←Nat.succ_mul];exact Nat.mul_le_mul_right _ hil
 have hst:=run_storeCells_fz κ.P (ι s) (i*L.e.size+off) ty fz cv.cells.toList 0 arr w b1 (fun j hj=>b2 j (.inl hj)) (by grind) hone
 simp only[Nat.add_zero,List.append_assoc] at hst
 have hrun:(Instr.storeAt t (.pointer (some ⟨ι s,i*L.e.size+off,none⟩)) cv).run κ.P w=.ok () (w.setRow (ι s) (arr.toList.take (i*L.e.size+off)++(cv.cells.toList++arr.toList.drop (i*L.e.size+off+cv.cells.toList.length))).toArray):=by
  simp only[Instr.storeAt,Instr.sureAddr,storeVar,Sem.run_bind,Sem.run_pure,Result.andThen_ok,run_size hi,hsz,ne_eq,not_true_eq_false,if_false,hst]
 let us:=(arr.toList.drop (i*L.e.size)).take L.e.size
 have husl:us.length=L.e.size:=by simp[us];omega
 have helem:LR (Rv st.o ι (Stable κ.D st.o ι w) w) (cellsV L.e (L.l.getD i L.e.dflt)) us:=by
  rw[←xg L.e L.l i hil]
  refine⟨by rw[husl,List.length_take,List.length_drop,qn];omega,fun j d u hd hu=>?_⟩
  rw[List.getElem?_take,List.getElem?_drop] at hd hu
  split at hd
  ·rename_i hj;rw[if_pos hj] at hu;exact b6 _ d u hd hu
  ·cases hd
 have helemW:LR (Rv st.o ι (Stable κ.D st.o ι w) w) (cellsW L.e (L.l.getD i L.e.dflt)) us:=
  (cellsW_rp _ _ _ (lr_pure (fun d hd=>pure_cellsV _ _ d hd) helem)).mono fun d u hd=>.pure hd
 have hspl:=LR.splice helemW hlr off
 have hnew:=impC_rv L.e _ [] y _ hy hspl
 rw[List.append_nil] at hnew
 have hpe:us.take off++(cv.cells.toList++us.drop (off+cv.cells.toList.length))=putL us cv.cells.toList off:=rfl
 rw[hpe] at hnew
 have hput:=Zg arr.toList cv.cells.toList (i*L.e.size) off L.e.size (by omega) (by simp;omega)
 refine⟨_,ι,hrun,To.putRow h hT hn b1 [y] i (by simp;omega) (news:=putL us cv.cells.toList off) (by simpa using hnew) ?_⟩
 grind
end
end Go.Abs
namespace Go.Abs
open Go.RowKit
set_option linter.unusedVariables false
set_option linter.unusedSimpArgs false
def lo:IntKind→Int
 | .i8=>-128 | .i16=>-32768 | .i32=>-2147483648 | .i64=>-9223372036854775808
 | _=>0
def hi:IntKind→Int
 | .i8=>127 | .i16=>32767 | .i32=>2147483647 | .i64=>9223372036854775807
 | .u8=>255 | .u16=>65535 | .u32=>4294967295 | .u64=>18446744073709551615
def wr (k:IntKind) (n:Int):Int:=if lo k≤n∧n≤hi k then n else k.wrap n
theorem wr_eq (k:IntKind) (n:Int):wr k n=k.wrap n:=by
 unfold wr
 split
 ·rename_i h
  cases k<;>simp[lo,hi] at h<;>simp[IntKind.wrap,IntKind.bits,IntKind.signed]<;>omega
 ·rfl
def intBin (op:BinOp) (k:IntKind) (x y:Int):Option V:=
 match op with
 | .add=>some (.int k (wr k (x+y)))
 | .sub=>some (.int k (wr k (x-y)))
 | .mul=>some (.int k (wr k (x*y)))
 | .quo=>if y=0 then none else some (.int k (wr k (x.tdiv y)))
 | .rem=>if y=0 then none else some (.int k (x.tmod y))
 | .and=>some (.int k (wr k (BitVec.ofInt k.bits x &&& BitVec.ofInt k.bits y).toNat))
 | .or=>some (.int k (wr k (BitVec.ofInt k.bits x ||| BitVec.ofInt k.bits y).toNat))
 | .xor=>some (.int k (wr k (BitVec.ofInt k.bits x ^^^ BitVec.ofInt k.bits y).toNat))
 | .andNot=>some (.int k (wr k (BitVec.ofInt k.bits x &&& ~~~ BitVec.ofInt k.bits y).toNat))
 | .eql=>some (.bool (decide (x=y)))
 | .neq=>some (.bool (decide (x≠y)))
 | .lss=>some (.bool (decide (x<y)))
 | .leq=>some (.bool (decide (x≤y)))
 | .gtr=>some (.bool (decide (y<x)))
 | .geq=>some (.bool (decide (y≤x)))
 | _=>none
def strBin (op:BinOp) (x y:List UInt8):Option V:=
 match op with
 | .add=>if x.length+y.length≤9223372036854775807 then some (.str (x++y)) else none
 | .eql=>some (.bool (x==y))
 | .neq=>some (.bool (!(x==y)))
 | .lss=>some (.bool (Op.bytesLess x y))
 | .leq=>some (.bool (Op.bytesLess x y||x==y))
 | .gtr=>some (.bool (!(Op.bytesLess x y||x==y)))
 | .geq=>some (.bool (!Op.bytesLess x y))
 | _=>none
def flatFields (P:Program):List Field→Nat→Bool
 | [],_=>true
 | f :: r, i => f.name != "_" && f.offset == i && (match P.underlying f.type with | some (.int _) | some .bool | some .string => true | _ => false) && flatFields P r (i + 1)
def eqCell (P:Program) (t:Nat) (x y:V):Option Bool:=
 match P.underlying t,x,y with
 | some (.int _),.int k a,.int k' b=>if k=k' then some (decide (a=b)) else none
 | some .bool,.bool a,.bool b=>some (a==b)
 | some .string,.str a,.str b=>some (a==b)
 | some .bool,.bs a,.bs b=>some (a==b)
 | some .bool,.bs a,.bool b=>some (a==b)
 | some .bool,.bool a,.bs b=>some (a==b)
 | _,_,_=>none
def eqFields (P:Program):List Field→List V→List V→Option Bool
 | [],[],[]=>some true
 | f::fs,x::xs,y::ys=>match eqCell P f.type x y with
  | some true=>eqFields P fs xs ys
  | some false=>some false
  | none=>none
 | _,_,_=>none
def eqStruct (P:Program) (t:Nat) (x y:List V):Option Bool:=
 match P.underlying t with
 | some (.struct fs)=>if flatFields P fs.toList 0=true∧P.stoodInHeld t=false∧P.eqGuardType P.depth t=false then eqFields P fs.toList x y else none
 | _=>none
def eqNil (P:Program) (t:Nat) (cst:Bool) (x y:V):Option Bool:=
 match P.underlying t,x,y with
 | some (.slice _),.snil,.snil=>some true
 | some (.slice _),.snil,.sl (_+1) _=>some false
 | some (.slice _),.snil,.own _ _ _ _=>some false
 | some (.slice _),.sl (_+1) _,.snil=>some false
 | some (.slice _),.own _ _ _ _,.snil=>some false
 | some (.slice _),.nl _,.snil=>some false
 | some (.interface _),.inil,.inil=>if cst then some true else none
 | some (.interface _),.inil,.ifc _ _=>some false
 | some (.interface _),.ifc _ _,.inil=>some false
 | some (.pointer _),.pnil,.pnil=>some true
 | some (.pointer _),.ptr _ _ _,.pnil=>some false
 | some (.pointer _),.cref _,.pnil=>some false
 | some (.pointer _),.pnil,.ptr _ _ _=>some false
 | some (.pointer _),.pnil,.cref _=>some false
 | some (.func _ _ _),.fnil,.fnil=>some true
 | some (.func _ _ _),.fn _ _,.fnil=>some false
 | some (.func _ _ _),.fnil,.fn _ _=>some false
 | some .bool,.bool a,.bool b=>some (a==b)
 | _,.agg xs,.agg ys=>eqStruct P t xs ys
 | _,_,_=>none
def qD:Operand→Bool
 | .const _=>true
 | _=>false
def aBin (P:Program) (op:BinOp) (t:Nat) (ox oy:Operand) (x y:V):Option V:=
 match x,y with
 | .int k m,.int k' n=>match op with
  | .shl=>if n<0 then none else some (.int k (wr k (m*2 ^ (min n.toNat k.bits))))
  | .shr=>if n<0 then none else some (.int k (m.fdiv (2 ^ (min n.toNat k.bits))))
  | _=>if k=k' then intBin op k m n else none
 | .str a,.str b=>strBin op a b
 | x,y=>match op with
  | .eql=>(eqNil P t (qD ox||qD oy) x y).map .bool
  | .neq=>(eqNil P t (qD ox||qD oy) x y).map fun b=>.bool (!b)
  | _=>none
section
variable {κ : Cx} {ι : Nat → Nat} {st : St} {a : Act} {w : World}
def sv:V→Value
 | .int k n=>.int k n
 | .bool b=>.bool b
 | .str s=>.string ⟨⟨s⟩⟩
 | _=>undef
def Kt:V→Bool
 | .int _ _ | .bool _ | .str _=>true
 | _=>false
theorem Vj {S:Addr→Prop} {v:V} (h:Kt v=true):Rp S w v (sv v):=by
 cases v<;>first | exact .int _ _ | exact .bool _ | exact .str _ _ rfl | cases h
theorem Zd {P:Program} {op:BinOp} {t:TypeId} {k:IntKind} {m n:Int} {v:V} (hs:op≠.shl) (hs':op≠.shr) (hx:intBin op k m n=some v):
    (binOp op t (.int k m) (.int k n)).run P w=.ok (sv v) w∧Kt v=true:=by
  cases op<;>simp only[intBin] at hx<;>first
    | exact absurd rfl hs
    | exact absurd rfl hs'
    | cases hx;done
    | (split at hx
       · cases hx
       · rename_i h0
         injection hx with hx;subst hx
         refine⟨?_,rfl⟩
         simp[binOp,Op.intDiv,h0,sv,wr_eq])
    | (injection hx with hx; subst hx
       refine⟨?_,rfl⟩
       simp[binOp,Op.intArith,Op.intBits,Op.intCmp,sv,wr_eq,bne]<;>(grind))
theorem Zc {P:Program} {op:BinOp} {t:TypeId} {x y:ByteArray} {v:V} (hx:strBin op x.data.toList y.data.toList=some v):
    (binOp op t (.string x) (.string y)).run P w=.ok (sv v) w∧Kt v=true:=by
  have e1:x.toList=x.data.toList:=ByteArray.toList_eq x
  have e2:y.toList=y.data.toList:=ByteArray.toList_eq y
  have e3:x.size=x.data.toList.length:=rfl
  have e4:y.size=y.data.toList.length:=rfl
  cases op<;>simp only[strBin] at hx<;>first
    | cases hx;done
    | (split at hx
       · rename_i h0
         injection hx with hx;subst hx
         refine⟨?_,rfl⟩
         have h1:¬(9223372036854775807<(x.size:Int)+(y.size:Int)):=by grind
         have h2:x++y=⟨⟨x.data.toList++y.data.toList⟩⟩:=by
           obtain⟨⟨x⟩⟩:=x;obtain⟨⟨y⟩⟩:=y
           apply ByteArray.ext
           simp[ByteArray.data_append]
         simp[binOp,Op.stringOp,IntKind.max,IntKind.bits,IntKind.signed,h1,sv,h2]
       · cases hx)
    | (injection hx with hx; subst hx
       refine⟨?_,rfl⟩
       simp[binOp,Op.stringOp,sv,e1,e2])
theorem Ze {P:Program} {T:Tab} {S:Addr→Prop} {t d:Nat} {x y:V} {cx cy:Value} {b:Bool} (hx:Rv T ι S w x cx) (hy:Rv T ι S w y cy) (h:eqCell P t x y=some b):
  (Op.equalIn (d+1) t cx cy).run P w=.ok b w:=by
 unfold eqCell at h
 split at h
 ·rename_i k m k' n ht
  split at h
  ·rename_i hk
   injection h with h;subst h hk
   rw[hx.int_,hy.int_,run_equalIn_int w d t _ _ m n ht]
   congr 1
  ·cases h
 ·rename_i p q ht
  injection h with h;subst h
  rw[hx.bool_,hy.bool_,run_equalIn_bool' w d t p q ht]
 ·rename_i p q ht
  injection h with h;subst h
  obtain⟨b1,rfl,h1⟩:=hx.str_
  obtain⟨b2,rfl,h2⟩:=hy.str_
  grind[run_equalIn_string,ByteArray.toList_eq]
 ·rename_i p q ht
  injection h with h;subst h
  rw[hx.bs_,hy.bs_,run_equalIn_bool' w d t p q ht]
 ·rename_i p q ht
  injection h with h;subst h
  rw[hx.bs_,hy.bool_,run_equalIn_bool' w d t p q ht]
 ·rename_i p q ht
  injection h with h;subst h
  rw[hx.bool_,hy.bs_,run_equalIn_bool' w d t p q ht]
 ·cases h
theorem j9 {P:Program} {T:Tab} {S:Addr→Prop} {d:Nat} {vx vy:Array Value}:∀(fs:List Field) (i:Nat) (xs ys:List V) (b:Bool),flatFields P fs i=true→
  LR (Rv T ι S w) xs (vx.toList.drop i)→LR (Rv T ι S w) ys (vy.toList.drop i)→eqFields P fs xs ys=some b→(Op.eqFields (d+1) vx vy fs).run P w=.ok b w
 | [],i,xs,ys,b,_,hx,hy,h=>by
  unfold eqFields at h
  split at h<;>first | (injection h with h;subst h;simp[Op.eqFields]) | cases h | simp_all
 | f::fs,i,xs,ys,b,hf,hx,hy,h=>by
  simp only[flatFields,Bool.and_eq_true] at hf
  obtain⟨⟨⟨hn,ho⟩,hk⟩,hr⟩:=hf
  have hne : f.name ≠ "_" := by simpa using hn
  have hoff:f.offset=i:=by simpa using ho
  cases xs with
  | nil=>simp[eqFields] at h
  | cons x xs=>
   cases ys with
   | nil=>simp[eqFields] at h
   | cons y ys=>
    obtain⟨cx,vx',ex,hcx,hxr⟩:=hx.head
    obtain⟨cy,vy',ey,hcy,hyr⟩:=hy.head
    have hpart:∀(v:Array Value) (c:Value) (v':List Value),v.toList.drop i=c::v'→(part f.type v f.offset).run P w=.ok c w:=by
     intro v c v' e
     have h0:v[i]? = some c:=by
      have:(v.toList.drop i)[0]? = some c:=by rw[e];rfl
      rw[List.getElem?_drop] at this
      simpa using this
     have hag:(isAgg f.type).run P w=.ok false w:=by
      cases hu:P.underlying f.type with
      | none=>rw[hu] at hk;simp at hk
      | some dd=>
       rw[zD hu]
       rw[hu] at hk
       cases dd<;>first | rfl | simp at hk
     rw[hoff]
     simp[part,hag,h0]
    have hdrop:∀(v:Array Value) (c:Value) (v':List Value),v.toList.drop i=c::v'→v.toList.drop (i+1)=v':=by
     intro v c v' e
     have:(v.toList.drop i).drop 1=v':=by rw[e];rfl
     rwa [List.drop_drop] at this
    simp only[eqFields] at h
    simp only[Op.eqFields,hne,ne_eq,not_false_eq_true,if_true,Sem.run_bind,hpart vx cx vx' ex,hpart vy cy vy' ey,Result.andThen_ok]
    cases hc:eqCell P f.type x y with
    | none=>simp[hc] at h
    | some r=>
     rw[Ze (d:=d) hcx hcy hc]
     cases r with
     | false=>simp[hc] at h;subst h;simp
     | true=>
      simp[hc] at h
      simp
      exact j9 fs (i+1) xs ys b hr (by rw[hdrop vx cx vx' ex];exact hxr) (by rw[hdrop vy cy vy' ey];exact hyr) h
theorem yr {P:Program} {T:Tab} {S:Addr→Prop} {t:Nat} {xs ys:List V} {cx cy:Value} {b:Bool} (hx:Rv T ι S w (.agg xs) cx) (hy:Rv T ι S w (.agg ys) cy) (h:eqStruct P t xs ys=some b):
  (∀(op:BinOp) (ox oy:Operand),(eqGuard op t ox oy cx cy).run P w=.ok () w)∧(Op.equal t cx cy).run P w=.ok b w∧∃vx vy,cx=.agg vx∧cy=.agg vy:=by
 unfold eqStruct at h
 split at h
 ·rename_i fs ht
  split at h
  ·rename_i hc
   obtain⟨hf,hp,hg⟩:=hc
   obtain⟨vx,rfl,hlx,hrx⟩:=hx.agg_
   obtain⟨vy,rfl,hly,hry⟩:=hy.agg_
   have hfo:P.fieldsOf t=fs:=by simp[Program.fieldsOf,ht]
   refine⟨fun op ox oy=>?_,?_,_,_,rfl,rfl⟩
   ·simp_all[eqGuard]
   ·unfold Op.equal
    rw[show Op.maxDepth=9999+1 from rfl,run_equalIn_struct w 9999 t _ _ (by grind) hp,hfo]
    exact j9 (d:=9998) fs.toList 0 xs ys b hf ⟨hlx,hrx⟩ ⟨hly,hry⟩ h
  ·cases h
 ·cases h
theorem qe {P:Program} {op:BinOp} {t:Nat} {ox oy:Operand} {cx cy:Value} (h1:¬(cx=.nilIface∧cy=.nilIface)) (h2:¬((∃a,cx=.agg a)∧∃b,cy=.agg b)):
  (eqGuard op t ox oy cx cy).run P w=.ok () w:=by
 simp_all[eqGuard]
theorem vK {P:Program} {T:Tab} {S:Addr→Prop} {op:BinOp} {t:Nat} {ox oy:Operand} {x y:V} {cx cy:Value} {b:Bool} (hx:Rv T ι S w x cx) (hy:Rv T ι S w y cy)
  (h:eqNil P t (qD ox||qD oy) x y=some b):
  (eqGuard op t ox oy cx cy).run P w = .ok () w ∧ (Op.equal t cx cy).run P w = .ok b w ∧ (∀ k n, cx ≠ .int k n) ∧ (∀ k n, cy ≠ .int k n) ∧ (∀ s, cx ≠ .string s) ∧ (∀ s, cy ≠ .string s) ∧
   (∀k n,cx≠.float k n)∧(∀k n m,cx≠.complex k n m):=by
 have ownv:∀{s g o n:Nat} {c:Value},Rv T ι S w (.own s g o n) c→∃a c',c=.slice (some a) n c':=by
  intro s g o n c hc
  cases hc with
  | pure h=>cases h
  | own hv _ _=>exact hv
 have ptrv:∀{s g o:Nat} {c:Value},Rv T ι S w (.ptr s g o) c→∃a,c=.pointer (some a):=by
  intro s g o c hc
  cases hc with
  | pure h=>cases h
  | ptr hv _ _=>exact hv
 obtain⟨dd,hdd⟩:∃d,Op.maxDepth=d+1:=⟨9999,rfl⟩
 unfold Op.equal
 rw[hdd]
 unfold eqNil at h
 split at h
 ·rename_i e ht;injection h with h;subst h
  have:=hx.snil_;subst this;have:=hy.snil_;subst this
  exact⟨qe (by simp) (by simp),by simp[Op.equalIn,run_underlying ht],by simp,by simp,by simp,by simp,by simp,by simp⟩
 ·rename_i e n cs ht;injection h with h;subst h
  have:=hx.snil_;subst this;obtain⟨_,_,_,rfl,_⟩:=hy.sl_.resolve_left (fun e=>by omega)
  exact⟨qe (by simp) (by simp),by simp[Op.equalIn,run_underlying ht],by simp,by simp,by simp,by simp,by simp,by simp⟩
 ·rename_i e _ _ _ _ ht;injection h with h;subst h
  have:=hx.snil_;subst this;obtain⟨_,_,rfl⟩:=ownv hy
  exact⟨qe (by simp) (by simp),by simp[Op.equalIn,run_underlying ht],by simp,by simp,by simp,by simp,by simp,by simp⟩
 ·rename_i e n cs ht;injection h with h;subst h
  have:=hy.snil_;subst this;obtain⟨_,_,_,rfl,_⟩:=hx.sl_.resolve_left (fun e=>by omega)
  exact⟨qe (by simp) (by simp),by simp[Op.equalIn,run_underlying ht],by simp,by simp,by simp,by simp,by simp,by simp⟩
 ·rename_i e _ _ _ _ ht;injection h with h;subst h
  have:=hy.snil_;subst this;obtain⟨_,_,rfl⟩:=ownv hx
  exact⟨qe (by simp) (by simp),by simp[Op.equalIn,run_underlying ht],by simp,by simp,by simp,by simp,by simp,by simp⟩
 ·rename_i e _ ht;injection h with h;subst h
  have:=hy.snil_;subst this;obtain⟨_,_,_,_,rfl⟩:=hx.nl_
  exact⟨qe (by simp) (by simp),by simp[Op.equalIn,run_underlying ht],by simp,by simp,by simp,by simp,by simp,by simp⟩
 ·rename_i ms ht
  split at h
  ·rename_i hc
   injection h with h;subst h
   have:=hx.inil_;subst this;have:=hy.inil_;subst this
   refine⟨?_,by simp[Op.equalIn,run_underlying ht],by simp,by simp,by simp,by simp,by simp,by simp⟩
   unfold eqGuard
   cases ox<;>cases oy<;>simp[qD] at hc<;>cases op<;>simp
  ·cases h
 ·rename_i ms t' v ht;injection h with h;subst h
  have:=hx.inil_;subst this;obtain⟨_,rfl,_⟩:=hy.ifc_
  exact⟨qe (by simp) (by simp),by simp[Op.equalIn,run_underlying ht],by simp,by simp,by simp,by simp,by simp,by simp⟩
 ·rename_i ms t' v ht;injection h with h;subst h
  have:=hy.inil_;subst this;obtain⟨_,rfl,_⟩:=hx.ifc_
  exact⟨qe (by simp) (by simp),by simp[Op.equalIn,run_underlying ht],by simp,by simp,by simp,by simp,by simp,by simp⟩
 ·rename_i e ht;injection h with h;subst h
  have:=hx.pnil_;subst this;have:=hy.pnil_;subst this
  exact⟨qe (by simp) (by simp),by simp[Op.equalIn,run_underlying ht],by simp,by simp,by simp,by simp,by simp,by simp⟩
 ·rename_i e _ _ _ ht;injection h with h;subst h
  have:=hy.pnil_;subst this;obtain⟨_,rfl⟩:=ptrv hx
  exact⟨qe (by simp) (by simp),by simp[Op.equalIn,run_underlying ht],by simp,by simp,by simp,by simp,by simp,by simp⟩
 ·rename_i e _ ht;injection h with h;subst h
  have:=hy.pnil_;subst this;obtain⟨_,_,rfl,_⟩:=hx.cref_
  exact⟨qe (by simp) (by simp),by simp[Op.equalIn,run_underlying ht],by simp,by simp,by simp,by simp,by simp,by simp⟩
 ·rename_i e _ _ _ ht;injection h with h;subst h
  have:=hx.pnil_;subst this;obtain⟨_,rfl⟩:=ptrv hy
  exact⟨qe (by simp) (by simp),by simp[Op.equalIn,run_underlying ht],by simp,by simp,by simp,by simp,by simp,by simp⟩
 ·rename_i e _ ht;injection h with h;subst h
  have:=hx.pnil_;subst this;obtain⟨_,_,rfl,_⟩:=hy.cref_
  exact⟨qe (by simp) (by simp),by simp[Op.equalIn,run_underlying ht],by simp,by simp,by simp,by simp,by simp,by simp⟩
 ·rename_i ht;injection h with h;subst h
  have:=hx.fnil_;subst this;have:=hy.fnil_;subst this
  exact⟨qe (by simp) (by simp),by simp[Op.equalIn,run_underlying ht],by simp,by simp,by simp,by simp,by simp,by simp⟩
 ·rename_i ht;injection h with h;subst h
  have:=hy.fnil_;subst this;obtain⟨_,rfl,_⟩:=hx.fn_
  exact⟨qe (by simp) (by simp),by simp[Op.equalIn,run_underlying ht],by simp,by simp,by simp,by simp,by simp,by simp⟩
 ·rename_i ht;injection h with h;subst h
  have:=hx.fnil_;subst this;obtain⟨_,rfl,_⟩:=hy.fn_
  exact⟨qe (by simp) (by simp),by simp[Op.equalIn,run_underlying ht],by simp,by simp,by simp,by simp,by simp,by simp⟩
 ·rename_i p q ht;injection h with h;subst h
  have:=hx.bool_;subst this;have:=hy.bool_;subst this
  exact⟨qe (by simp) (by simp),by simp[Op.equalIn,run_underlying ht],by simp,by simp,by simp,by simp,by simp,by simp⟩
 ·obtain⟨hg,he,vx,vy,rfl,rfl⟩:=yr hx hy h
  grind[Op.equal]
 ·cases h
end
end Go.Abs
