/- One operation of the machine. -/
import Derived.Test.YtigfokfefnomjaaGreatAbsM
import Derived.Test.YtigfokfefnomjaaGreatAbsH
import Derived.Tactics
namespace Go.Abs
open Go.RowKit
set_option linter.unusedVariables false
set_option linter.unusedSimpArgs false
def yf (P:Program) (T:Tab) (t:Nat) (s x:V):Option (V×Option (Nat×Ob)):=
 match P.underlying t with
 | some (.slice e)=>match P.info? e with
  | some i=>match qM T i.size x,s with
   | some (m,xs),.own s g off n=>if (T.get s).gen=g∧xs.all V.cellOk=true then(match (T.get s).k with
    | .row ty sz false cs=>if sz=i.size∧(off+n)*sz≤cs.length then
      some (.int .i64 (min m n:Nat),some (s,⟨g,.row ty sz false (splice cs (off*sz) (xs.take (min m n*sz)))⟩)) else none
    | _=>none) else none
   | some (m,xs),.snil=>some (.int .i64 0,none)
   | _,_=>none
  | none=>none
 | _=>none
section
variable {κ : Cx} {ι : Nat → Nat} {st : St} {a : Act} {w : World}
theorem K1 (h:RelI κ ι st a w) {s g ty sz:Nat} {cells:List V} (hT:st.o.get s=⟨g,.row ty sz false cells⟩) {arr:Array Value} {ty2:Nat} {fz:Nat×Nat} (hmem:w.heap[ι s]? = some (.cells arr ty2 fz))
  {q:Nat} {xs:List V} {news:List Value} (hnews:LR (Rv st.o ι (Stable κ.D st.o ι w) w) xs news) (hone:∀u∈news,u.oneCell'=true) (hq:q+xs.length≤cells.length):
  ∃A:Array Value,A.size=arr.size∧(w.setRow (ι s) A).heap[ι s]? = some (.cells A ty2 fz)∧(storeCells ⟨ι s,q,none⟩ news).run κ.P w=.ok () (w.setRow (ι s) A)∧
   To κ st.o ι w (st.o.put s ⟨g,.row ty sz false (splice cells q xs)⟩) ι (w.setRow (ι s) A):=by
 have hl:st.o.live s:=by simp[Tab.live,hT,OK.live]
 have hob:=h.tr.ob s
 rw[hT] at hob
 obtain⟨arr2,fz2,cap2,hh2,hf2,has2,h0,hle2,hc2⟩:=hob
 rw[hmem] at hh2
 injection hh2 with hh2;injection hh2 with e1 e2 e3;subst e1 e2 e3
 have hnl:news.length=xs.length:=hnews.1.symm
 have hst:=run_storeCells_fz κ.P (ι s) q ty2 fz news 0 arr w hmem (fun j hj=>hf2 j (.inl hj)) (by omega) hone
 simp only[Nat.add_zero,List.append_assoc] at hst
 have hns:(arr.toList.take q++(news++arr.toList.drop (q+news.length))).toArray.size=arr.size:=by
  grind
 have hnew:=setRow_heap w (ι s) arr (arr.toList.take q++(news++arr.toList.drop (q+news.length))).toArray ty2 fz hmem
 generalize hA:(arr.toList.take q++(news++arr.toList.drop (q+news.length))).toArray=A at *
 refine⟨A,hns,hnew,hst,To.turn (w':=w.setRow (ι s) A) h s hl ⟨g,.row ty2 sz false (splice cells q xs)⟩ rfl rfl rfl (by simp) (fun j hj=>setRow_other w (ι s) j _ hj) (by simp[hT]) (fun p _ hp=>by simp[hT,OK.fzAt] at hp) (fun ty' sz' fz' cs' e _=>?_) ?_ (hsh:=Shape.of hmem hnew hns)⟩
 ·grind
 ·intro T' ι' H
  refine⟨_,fz,cap2,hnew,fun j hj=>hf2 j (by grind),by grind,h0,by grind[length_splice],?_⟩
  have hAl:A.toList=arr.toList.take q++(news++arr.toList.drop (q+news.length)):=by rw[←hA]
  intro j d u hd hu
  have hu:A.toList[j]? = some u:=hu
  rw[hAl] at hu
  exact splice_prefix (off:=q) (by grind) (fun j d u hd hu=>(hc2 j d u hd hu).mono H) (hnews.mono fun d u hd=>hd.mono H) hq j d u hd hu
def jj (P:Program) (T:Tab) (t tx:Nat) (s x:V):Option (V×Option (Nat×Ob)):=
 match P.underlying t,P.underlying tx with
 | some (.slice e),some dx=>match P.info? e with
  | some i=>match qM T i.size x with
   | some (m,xs)=>if isSrcD dx=true∧0<i.size∧xs.all V.cellOk=true then(match s with
    | .own s g off n=>if (T.get s).gen=g then(match (T.get s).k with
     | .row ty sz false cs=>if m=0 then some (.own s g off n,none) else
       if sz=i.size∧(off+n+m)*sz≤cs.length then some (.own s g off (n+m),some (s,⟨g,.row ty sz false (splice cs ((off+n)*sz) xs)⟩)) else none
     | _=>none) else none
    | _=>none) else none
   | none=>none
  | none=>none
 | _,_=>none
theorem JK (h:RelI κ ι st a w) {t tx ty:Nat} {s x v:V} {cs cx:Value} {wr:Option (Nat×Ob)} (hs:Rv st.o ι (Stable κ.D st.o ι w) w s cs) (hr:Rv st.o ι (Stable κ.D st.o ι w) w x cx)
  (hx:jj κ.P st.o t tx s x=some (v,wr)):SemOk κ ι st.o w (Builtin.append_ #[t,tx] ty #[cs,cx]) v wr:=by
 unfold jj at hx
 split at hx
 case h_2=>cases hx
 rename_i e dx ht htx
 split at hx
 case h_2=>cases hx
 rename_i i hi
 split at hx
 case h_2=>cases hx
 rename_i m xs hsrc
 obtain⟨hlen,hxl,news,hnews,hfirst⟩:=qF h hr hsrc
 have hnl:news.length=m*i.size:=by rw[←hnews.1];exact hxl
 have hfirst':∀w',w'.heap=w.heap→(Builtin.firstCells i.size m cx).run κ.P w'=.ok news.toArray w':=fun w' hw'=>by
  grind
 split at hx
 case isFalse=>cases hx
 rename_i hc
 obtain⟨hdx,h0,hall⟩:=hc
 have gen:=fun base n cap=>qt (w:=w) (P:=κ.P) (ty:=ty) ht hi htx hdx (base:=base) (n:=n) (cap:=cap) hlen hfirst'
 split at hx
 case h_2=>cases hx
 rename_i s g off n
 split at hx
 case isFalse=>cases hx
 rename_i hg
 split at hx
 case h_2=>cases hx
 rename_i ty1 sz cells hk
 have hT:st.o.get s=⟨g,.row ty1 sz false cells⟩:=by (cases hTs:st.o.get s<;>grind)
 have hsv:=hs
 obtain⟨ad,c,cap,arr,ty2,fz,rfl,hbk,hmem,has,hn,hcap,hpl⟩:=hs.own_ hT
 split at hx
 ·rename_i hm
  simp only[Option.some.injEq,Prod.mk.injEq] at hx
  obtain⟨rfl,rfl⟩:=hx
  subst hm
  have hnil:news=[]:=List.eq_nil_of_length_eq_zero (by rw[hnl];simp)
  subst hnil
  have hrun:=(gen (some ad) n c).1 (by omega)
  simp[storeCells] at hrun
  exact SemOk.same h hrun hsv
 ·rename_i hm
  split at hx
  case isFalse=>cases hx
  rename_i hc
  obtain⟨hsz,hle⟩:=hc
  simp only[Option.some.injEq,Prod.mk.injEq] at hx
  obtain⟨rfl,rfl⟩:=hx
  subst hsz
  have hob:=h.tr.ob s
  rw[hT] at hob
  obtain⟨arr2,fz2,cap2,hh2,hf2,has2,_,hle2,hc2⟩:=hob
  rw[hmem] at hh2
  injection hh2 with hh2;injection hh2 with e1 e2 e3;subst e1 e2 e3
  have hfit:off+n+m≤cap:=by
   have h1:(off+n+m)*i.size≤cap*i.size:=by rw[←has];omega
   exact Nat.le_of_mul_le_mul_right h1 h0
  have hroom:n+m≤c:=by omega
  have hrun:=(gen (some ad) n c).1 hroom
  have hone:∀u∈news,u.oneCell'=true:=by
   intro u hu
   obtain⟨j,hj⟩:=List.mem_iff_getElem?.1 hu
   have hjl:j<xs.length:=by grind
   exact cell_one (List.all_eq_true.1 hall _ (List.getElem_mem hjl)) (hnews.2 j _ u (List.getElem?_eq_getElem hjl) hj)
  have e1:(off+n+m)*i.size=(off+n)*i.size+m*i.size:=Nat.add_mul _ _ _
  have e2:(off+n)*i.size=off*i.size+n*i.size:=Nat.add_mul _ _ _
  obtain⟨A,hA1,hA2,hA3,hA4⟩:=K1 h hT hmem (q:=(off+n)*i.size) hnews hone (by rw[hxl];omega)
  have:=hpl (by omega);subst this
  have hadd:(⟨ι s,off*i.size,none⟩:Addr).add (n*i.size)=⟨ι s,(off+n)*i.size,none⟩:=by
   grind[Addr.add]
  simp only[hadd,hA3,Result.andThen_ok] at hrun
  refine⟨_,_,ι,hrun,hA4,?_⟩
  refine .own ⟨_,_,rfl⟩ (by simp[wrT,Tab.get_put]) fun ty' sz' fz' cs' e=>?_
  simp[wrT,Tab.get_put] at e
  obtain⟨rfl,rfl,rfl,rfl⟩:=e
  exact⟨_,c,cap,A,ty2,fz,rfl,hbk,hA2,by rw[hA1];exact has,by omega,hcap,hpl⟩
end
def conB:V→V
 | .bs b=>.bool b
 | v=>v
def symB:V→V
 | .bool b=>.bs b
 | v=>v
theorem Rv.conB {T:Tab} {ι:Nat→Nat} {S:Addr→Prop} {w:World} {v:V} {cv:Value} (h:Rv T ι S w v cv):Rv T ι S w (Abs.conB v) cv:=by
 unfold Abs.conB
 split
 ·rw[h.bs_];exact .pure (.bool _)
 ·exact h
theorem Rv.symB {T:Tab} {ι:Nat→Nat} {S:Addr→Prop} {w:World} {v:V} {cv:Value} (h:Rv T ι S w v cv):Rv T ι S w (Abs.symB v) cv:=by
 unfold Abs.symB
 split
 ·rw[h.bool_];exact .pure (.bs (.bool _))
 ·exact h
theorem SemOk.symB {κ:Cx} {ι:Nat→Nat} {T:Tab} {w:World} {s:Sem Value} {v:V} {wr:Option (Nat×Ob)} (h:SemOk κ ι T w s v wr):SemOk κ ι T w s (Abs.symB v) wr:=by
 obtain⟨cv,w',ι',h1,h2,h3⟩:=h
 exact⟨cv,w',ι',h1,h2,h3.symB⟩
def unNl:V→V
 | .nl L=>.lst L
 | v=>v
theorem Rv.unNl {T:Tab} {ι:Nat→Nat} {S:Addr→Prop} {w:World} {v:V} {cv:Value} (h:Rv T ι S w v cv):Rv T ι S w (Abs.unNl v) cv:=by
 unfold Abs.unNl
 split
 ·exact h.nl_.1
 ·exact h
def isSym:V→V→Bool
 | .acc _ _,_=>true
 | .sz,.lst _=>true
 | .snil,.lst _=>true
 | .sz,.acc _ _=>true
 | .snil,.acc _ _=>true
 | .sz,.nwin _ _ _ _=>true
 | .snil,.nwin _ _ _ _=>true
 | _,_=>false
def KR:V→V→Bool
 | .own _ _ 0 _,.lst _=>true
 | _,_=>false
def Jh (P:Program) (T:Tab) (t tx:Nat) (s x:V):Option (Nat×Nat×Nat×Nat×TL×TL):=
 match s,x with
 | .own q g 0 n,.lst L=>match P.underlying t,P.underlying tx with
  | some (.slice et),some dx=>match zeroC P et,P.info? et with
   | some _,some i=>if isSrcD dx=true∧0<i.size∧0<i.bytes∧L.e.size=i.size∧(T.get q).gen=g then(match (T.get q).k with
    | .row ty sz false cs=>if ty=et∧sz=i.size∧0<n∧cs.length=n*sz then(match impN (impC L.e) n cs with
     | some (l,[])=>some (q,g,ty,i.bytes,⟨L.e,l⟩,⟨L.e,l++L.l⟩)
     | _=>none) else none
    | _=>none) else none
   | _,_=>none
  | _,_=>none
 | _,_=>none
def zQ (P:Program) (T:Tab) (t tx:Nat) (s x:V):Option (V×Option (Nat×Ob)):=match Jh P T t tx s x with
 | some (q,g,ty,by_,_,L)=>if L.l.length*by_≤140737488355328 then some (.acc q (g+2),some (q,⟨g+2,.nrow ty false false L⟩)) else none
 | none=>none
theorem ye {α:Type} (t:Nat) (v u:α):∀l:List (Nat×α),jQ t v (jQ t u l)=jQ t v l
 | []=>by simp[jQ]
 | (k,x)::r=>by
  by_cases hk:k=t
  ·simp[jQ,hk]
  ·simp[jQ,hk,ye t v u r]
section
variable {κ : Cx} {ι : Nat → Nat} {st : St} {a : Act} {w : World}
theorem Zh (h:RelI κ ι st a w) {t tx ty:Nat} {s x v:V} {cs cx:Value} {wr:Option (Nat×Ob)} (hs:Rv st.o ι (Stable κ.D st.o ι w) w s cs) (hr:Rv st.o ι (Stable κ.D st.o ι w) w x cx)
  (hx:zQ κ.P st.o t tx s x=some (v,wr)):SemOk κ ι st.o w (Builtin.append_ #[t,tx] ty #[cs,cx]) v wr:=by
 unfold zQ at hx
 split at hx
 case h_2=>cases hx
 rename_i q g ty1 by_ L1 L2 hp
 split at hx
 case isFalse=>cases hx
 rename_i hb
 simp only[Option.some.injEq,Prod.mk.injEq] at hx
 obtain⟨rfl,rfl⟩:=hx
 unfold Jh at hp
 split at hp
 case h_2=>cases hp
 rename_i q' g' n L
 split at hp
 case h_2=>cases hp
 rename_i et dx ht htx
 split at hp
 case h_2=>cases hp
 rename_i zs i hz hi
 split at hp
 case isFalse=>cases hp
 rename_i hc
 obtain⟨hdx,h0,hb0,hLi,hg⟩:=hc
 split at hp
 case h_2=>cases hp
 rename_i ty2 sz rc hk
 split at hp
 case isFalse=>cases hp
 rename_i hc2
 obtain⟨rfl,rfl,hn0,hcl⟩:=hc2
 split at hp
 case h_2=>cases hp
 rename_i l himp
 simp only[Option.some.injEq,Prod.mk.injEq] at hp
 obtain⟨rfl,rfl,rfl,rfl,rfl,rfl⟩:=hp
 have hT:st.o.get q'=⟨g',.row ty2 i.size false rc⟩:=by (cases hTs:st.o.get q'<;>grind)
 have hl:st.o.live q':=by simp[Tab.live,hk,OK.live]
 have hown:=hs.own_ hT
 have hsf:=hs
 obtain⟨ad,c,cap,arr,tb,fz,rfl,hbk,hmem,has,hn,hcap,hpl⟩:=hs.own_ hT
 have hob:=h.tr.ob q'
 rw[hk] at hob
 obtain⟨arr2,fz2,cap2,b1,b2,b3,b4,b5,b6⟩:=hob
 rw[hmem] at b1
 injection b1 with b1;injection b1 with q1 q2 q3;subst q1 q2 q3
 have hal:arr.toList.length=arr.size:=Array.length_toList
 have hlr:LR (Rv st.o ι (Stable κ.D st.o ι w) w) rc (arr.toList.take rc.length):=by
  (refine⟨by rw[List.length_take,hal];omega,fun j d u hd hu=>?_⟩<;>grind[List.length_take])
 obtain⟨hll,hlr2⟩:=impN_rv (impC_rv L.e) n rc [] l _ himp hlr
 rw[List.append_nil] at hlr2
 have hcl1:(⟨L.e,l⟩:TL).cells.length=l.length*L.e.size:=TL.cells_length _
 have hcl2:(⟨L.e,l⟩:TL).cells.length=min rc.length arr.size:=by grind
 have hto:To κ st.o ι w (st.o.put q' ⟨g'+1,.nrow tb false false ⟨L.e,l⟩⟩) ι w:=by
  refine To.turn h q' hl ⟨g'+1,.nrow tb false false ⟨L.e,l⟩⟩ rfl rfl rfl rfl (fun _ _=>rfl) (by grind) (fun p _ hp=>by simp[hk,OK.fzAt] at hp) (fun ty' sz' fz' cs' e=>by cases e) (fun T' ι' H=>?_) (fun ty' fz' nl' L' e hge=>by grind) (hsh:=.same rfl)
  refine .inr ⟨arr,fz,cap2,hmem,fun j hj=>b2 j (by grind),by grind,by grind,by grind,fun j d u hd hu=>?_⟩
  have hj:j<rc.length:=by grind
  exact(hlr2.2 j d u hd (by grind)).mono H
 have h':=To.rel h hto
 have hT':(st.o.put q' ⟨g'+1,.nrow tb false false ⟨L.e,l⟩⟩).get q'=⟨g'+1,.nrow tb false false ⟨L.e,l⟩⟩:=by simp[Tab.get_put]
 have hacc:Rv (st.o.put q' ⟨g'+1,.nrow tb false false ⟨L.e,l⟩⟩) ι (Stable κ.D (st.o.put q' ⟨g'+1,.nrow tb false false ⟨L.e,l⟩⟩) ι w) w (.acc q' (g'+1)) (.slice (some ad) n c):=by
  refine .acc ⟨_,_,_,rfl⟩ (by grind) fun ty' fz' nl' L' e=>?_
  grind
 have hsA:sAppend κ.P (st.o.put q' ⟨g'+1,.nrow tb false false ⟨L.e,l⟩⟩) t tx (.acc q' (g'+1)) (.lst L) 0=some (.acc q' (g'+2),some (q',⟨g'+2,.nrow tb false false ⟨L.e,l++L.l⟩⟩)):=by
  grind[sAppend,hi,symSrc,castL]
 obtain⟨cv,w',ι',e1,e2,e3⟩:=ky (ty:=ty) h' hacc (hr.mono hto.goes) hsA
 have hput:wrT (st.o.put q' ⟨g'+1,.nrow tb false false ⟨L.e,l⟩⟩) (some (q',⟨g'+2,.nrow tb false false ⟨L.e,l++L.l⟩⟩))=wrT st.o (some (q',⟨g'+2,.nrow tb false false ⟨L.e,l++L.l⟩⟩)):=ye _ _ _ _
 simp only at e2 e3
 rw[hput] at e2 e3
 exact⟨cv,w',ι',e1,hto.trans e2,e3⟩
end
def KS:V→Bool
 | .nwin _ _ 0 _=>true
 | _=>false
def JC (P:Program) (T:Tab) (t tx:Nat) (s x:V):Option (Nat×Nat×(Nat×Bool)×Nat×Nat×TL×TL):=
 match s with
 | .nwin q g 0 n=>match P.underlying t,P.underlying tx with
  | some (.slice et),some dx=>match P.info? et with
   | some i=>if isSrcD dx=true∧0<i.size∧(T.get q).gen=g then(match (T.get q).k with
    | .nrow ty false nl L=>if L.e.size=i.size then(match symSrc T L.e x with
     | some l=>some (q,g,(ty,nl),n,n+l.length,L,⟨L.e,L.l.take n++(l++L.l.drop (n+l.length))⟩)
     | none=>none) else none
    | _=>none) else none
   | none=>none
  | _,_=>none
 | _=>none
def zY (P:Program) (T:Tab) (t tx:Nat) (s x:V):Option (V×Option (Nat×Ob)):=match JC P T t tx s x with
 | some (q,g,(ty,nl),_,m,L,L')=>if m≤L.l.length then some (.nwin q (g+1) 0 m,some (q,⟨g+1,.nrow ty false nl L'⟩)) else none
 | none=>none
section
variable {κ : Cx} {ι : Nat → Nat} {st : St} {a : Act} {w : World}
theorem Zq (h:RelI κ ι st a w) {t tx ty:Nat} {s x v:V} {cs cx:Value} {wr:Option (Nat×Ob)} (hs:Rv st.o ι (Stable κ.D st.o ι w) w s cs) (hr:Rv st.o ι (Stable κ.D st.o ι w) w x cx)
  (hx:zY κ.P st.o t tx s x=some (v,wr)):SemOk κ ι st.o w (Builtin.append_ #[t,tx] ty #[cs,cx]) v wr:=by
 unfold zY at hx
 split at hx
 case h_2=>cases hx
 rename_i q g ty1 nl n1 m1 L1 L2 hp
 split at hx
 case isFalse=>cases hx
 rename_i hm
 simp only[Option.some.injEq,Prod.mk.injEq] at hx
 obtain⟨rfl,rfl⟩:=hx
 unfold JC at hp
 split at hp
 case h_2=>cases hp
 rename_i q' g' n
 split at hp
 case h_2=>cases hp
 rename_i et dx ht htx
 split at hp
 case h_2=>cases hp
 rename_i i hi
 split at hp
 case isFalse=>cases hp
 rename_i hc
 obtain⟨hdx,h0,hg⟩:=hc
 split at hp
 case h_2=>cases hp
 rename_i ty2 nl2 L hk
 split at hp
 case isFalse=>cases hp
 rename_i hLi
 split at hp
 case h_2=>cases hp
 rename_i l hl
 simp only[Option.some.injEq,Prod.mk.injEq] at hp
 obtain⟨rfl,rfl,⟨rfl,rfl⟩,rfl,rfl,rfl,rfl⟩:=hp
 have hT:st.o.get q'=⟨g',.nrow ty2 false nl2 L⟩:=by (cases hTs:st.o.get q'<;>grind)
 obtain⟨hlen,news,hnews,hfirst⟩:=vG h hr hl
 rw[hLi] at hfirst
 have hnl:news.length=l.length*i.size:=by rw[←hnews.1,qn,hLi]
 have hfirst':∀w',w'.heap=w.heap→(Builtin.firstCells i.size l.length cx).run κ.P w'=.ok news.toArray w':=fun w' hw'=>by
  grind
 have gen:=fun base n cap=>qt (w:=w) (P:=κ.P) (ty:=ty) ht hi htx hdx (base:=base) (n:=n) (cap:=cap) hlen hfirst'
 have hLl:(⟨L.e,L.l.take n++(l++L.l.drop (n+l.length))⟩:TL).l.length=L.l.length:=by grind
 obtain⟨_,hv⟩:=hs.nwin_ hT
 rcases hv with⟨rfl,hl0,p,rfl⟩ | ⟨hn,ad,c,cap,arr,tb,fz2,rfl,hbk,hmem,has,hon,hoc,hpl⟩
 ·have e1:L.l.length=0:=by rw[hl0];rfl
  have hm0:l.length=0:=by omega
  have hn00:n=0:=by omega
  subst hn00
  have hrun:=(gen p 0 0).1 (by omega)
  have hn0:news=[]:=List.eq_nil_of_length_eq_zero (by rw[hnl,hm0];simp)
  subst hn0
  rw[hm0] at hrun
  have hnil:L.l.take 0++(l++L.l.drop (0+l.length))=[]:=List.eq_nil_of_length_eq_zero (by grind)
  have hvv:=To.virt h q' ty2 false ⟨L.e,L.l.take 0++(l++L.l.drop (0+l.length))⟩ hnil
  rw[hg] at hvv
  refine⟨.slice p 0 0,w,ι,?_,hvv,.nwin ⟨_,_,_,rfl⟩ (by simp[wrT,Tab.get_put]) fun ty' fz' nl' L' e=>?_⟩
  ·(cases p<;>simp_all[storeCells])
  ·simp[wrT,Tab.get_put] at e
   grind
 ·have hlv:st.o.live q':=by simp only[Tab.live,hk,OK.live];exact hn
  have hob:=h.tr.ob q'
  rw[hk] at hob
  obtain⟨arr2,fz3,cap2,hh2,hf2,has2,_,hle2,hc2⟩:=hob.resolve_left hn
  rw[hmem] at hh2
  injection hh2 with hh2;injection hh2 with q1 q2 q3;subst q1 q2 q3
  have hcl:=L.cells_length
  have hcap:L.l.length≤cap:=by
   have:L.l.length*i.size≤cap*i.size:=by grind
   exact Nat.le_of_mul_le_mul_right this h0
  have hrun:=(gen (some ad) n c).1 (by omega)
  have hone:∀u∈news,u.oneCell'=true:=by
   intro u hu
   obtain⟨j,hj⟩:=List.mem_iff_getElem?.1 hu
   have hjl:j<(l.flatMap (cellsV L.e)).length:=by rw[hnews.1];grind
   exact cell_one (xQ _ (List.getElem_mem hjl)) (hnews.2 j _ u (List.getElem?_eq_getElem hjl) hj)
  have hfit:n*i.size+l.length*i.size≤L.cells.length:=by rw[hcl,hLi,←Nat.add_mul];exact Nat.mul_le_mul_right _ hm
  have hst:=run_storeCells_fz κ.P (ι q') (n*i.size) tb fz2 news 0 arr w hmem (fun j hj=>hf2 j (.inl hj)) (by omega) hone
  simp only[Nat.add_zero,List.append_assoc] at hst
  have hns:(arr.toList.take (n*i.size)++(news++arr.toList.drop (n*i.size+news.length))).toArray.size=arr.size:=by
   grind
  have hnew:=setRow_heap w (ι q') arr (arr.toList.take (n*i.size)++(news++arr.toList.drop (n*i.size+news.length))).toArray tb fz2 hmem
  have hstore:(storeCells (ad.add (n*i.size)) news).run κ.P w=.ok () (w.setRow (ι q') (arr.toList.take (n*i.size)++(news++arr.toList.drop (n*i.size+news.length))).toArray):=by
   by_cases hc0:c=0
   ·have hm0:l.length=0:=by omega
    have:news=[]:=List.eq_nil_of_length_eq_zero (by rw[hnl,hm0];simp)
    grind[storeCells]
   ·have:=hpl hc0;(subst this<;>grind[Addr.add])
  simp only[hstore,Result.andThen_ok] at hrun
  generalize hA:(arr.toList.take (n*i.size)++(news++arr.toList.drop (n*i.size+news.length))).toArray=A at *
  have hAl:A.toList=arr.toList.take (n*i.size)++(news++arr.toList.drop (n*i.size+news.length)):=by rw[←hA]
  have hcat:(⟨L.e,L.l.take n++(l++L.l.drop (n+l.length))⟩:TL).cells=splice L.cells (n*i.size) (l.flatMap (cellsV L.e)):=by
   unfold splice
   simp only[TL.cells,List.flatMap_append,zg,zh,hLi,qn,Nat.add_mul]
  have hnn:¬(nl2=true∧L.l.take n++(l++L.l.drop (n+l.length))=[]):=fun e=>hn ⟨e.1,List.eq_nil_of_length_eq_zero (by grind)⟩
  have hxl:n*i.size+(l.flatMap (cellsV L.e)).length≤L.cells.length:=by rw[qn,hLi];exact hfit
  refine⟨_,_,ι,hrun,To.turn h q' hlv ⟨g'+1,.nrow tb false nl2 ⟨L.e,L.l.take n++(l++L.l.drop (n+l.length))⟩⟩ rfl rfl rfl (by simp) (fun j hj=>setRow_other w (ι q') j _ hj) (by simp[hg]) (fun p hp hf=>by rw[hk] at hf;simp[OK.fzAt] at hf) (fun _ _ _ _ e=>by cases e) ?_ (fun _ _ _ _ _ e=>by simp[hg] at e) (hsh:=Shape.of hmem hnew hns),?_⟩
  ·intro T' ι' H
   refine .inr ⟨A,fz2,cap2,hnew,fun j hj=>hf2 j (by rw[hns] at hj;exact hj),by rw[hns];exact has2,by rw[hLi];exact h0,by rw[hns,hcat,length_splice hxl];exact hle2,?_⟩
   rw[hcat]
   intro j d u hd hu
   have hu:A.toList[j]? = some u:=hu
   rw[hAl] at hu
   exact splice_prefix (off:=n*i.size) (by simpa using hle2) (fun j d u hd hu=>(hc2 j d u hd hu).mono H) (hnews.mono fun d u hd=>hd.mono H) hxl j d u hd hu
  ·refine .nwin ⟨_,_,_,rfl⟩ (by simp[wrT,Tab.get_put]) fun ty' fz' nl' L' e=>?_
   simp[wrT,Tab.get_put] at e
   obtain⟨rfl,rfl,rfl,rfl⟩:=e
   refine⟨by rw[hLl];omega,.inr ⟨hnn,ad,c,cap,A,tb,fz2,rfl,hbk,hnew,by rw[hns];exact has,by omega,hoc,hpl⟩⟩
end
def J7:(t:Ty)→t.I→V
 | .alt t a r,x=>match x with
  | .inl y=>.ifc t (vOf a (cellsW a y))
  | .inr z=>J7 r z
 | .alt1 t a,x=>.ifc t (vOf a (cellsW a x))
 | .inil,_=>.inil
 | _,_=>.undef
theorem yo {T:Tab} {ι:Nat→Nat} {S:Addr→Prop} {w:World}:∀(t:Ty) (x:t.I) (u:Value),Rp S w ((cellsV t x).headD .pnil) u→Rv T ι S w (J7 t x) u
 | .alt t a r,.inl y,u,h=>by
  have h':Rp S w (.ifc t (vOf a (cellsV a y))) u:=h
  cases h' with
  | ifc q=>exact .pure (.ifc (yk (by rw[qf,qk]) (qE a y) q))
 | .alt t a r,.inr z,u,h=>yo r z u h
 | .alt1 t a,x,u,h=>by
  have h':Rp S w (.ifc t (vOf a (cellsV a x))) u:=h
  cases h' with
  | ifc q=>exact .pure (.ifc (yk (by rw[qf,qk]) (qE a x) q))
 | .inil,x,u,h=>.pure h
 | .int _,_,u,_ | .bool,_,u,_ | .str,_,u,_ | .list _,_,u,_ | .unit,_,u,_ | .pair _ _,_,u,_ | .agg _,_,u,_=>.undef u
def unS:V→V
 | .si X=>J7 X.e X.x
 | v=>v
theorem Rv.unS {T:Tab} {ι:Nat→Nat} {S:Addr→Prop} {w:World} {v:V} {cv:Value} (h:Rv T ι S w v cv):Rv T ι S w (Abs.unS v) cv:=by
 unfold Abs.unS
 split
 ·exact yo _ _ _ h.si_
 ·exact h
def zx (P:Program) (T:Tab) (t:Nat) (x v:V):Option (Option (Nat×Ob)):=match x with
 | .eptr _ _ _ _ _=>jf P T t x v
 | _=>aStore P T t x v
theorem Zv {κ:Cx} {ι:Nat→Nat} {st:St} {a:Act} {w:World} (h:RelI κ ι st a w) {t:Nat} {x v:V} {cx cv:Value} {wr:Option (Nat×Ob)} (hrx:Rv st.o ι (Stable κ.D st.o ι w) w x cx)
  (hrv:Rv st.o ι (Stable κ.D st.o ι w) w v cv) (hx:zx κ.P st.o t x v=some wr):UnitOk κ ι st.o w (Instr.storeAt t cx cv) wr:=by
 (unfold zx at hx<;>grind[zx,vQ,aStore_ok])
def jl (P:Program) (T:Tab) (t:Nat) (x:V):Option (V×Option (Nat×Ob)):=
 match P.underlying t with
 | some (.array n e)=>match P.info? e with
  | some i=>match x with
   | .ptr s g 0=>if (T.get s).gen=g∧0<n then(match (T.get s).k with
    | .box _ cs=>if cs.length=n*i.size∧pureL cs=true then some (.sl n cs,some (s,⟨g+1,.dead⟩)) else none
    | _=>none) else none
   | _=>none
  | none=>none
 | _=>none
theorem KJ {κ:Cx} {ι:Nat→Nat} {st:St} {a:Act} {w:World} (h:RelI κ ι st a w) {t:Nat} {x v:V} {cx:Value} {wr:Option (Nat×Ob)} (hr:Rv st.o ι (Stable κ.D st.o ι w) w x cx) (hx:jl κ.P st.o t x=some (v,wr)):
  SemOk κ ι st.o w (Instr.sliceAt t cx none none none) v wr:=by
 unfold jl at hx
 split at hx
 case h_2=>cases hx
 rename_i n e ht
 split at hx
 case h_2=>cases hx
 rename_i i hi
 split at hx
 case h_2=>cases hx
 rename_i s g
 split at hx
 case isFalse=>cases hx
 rename_i hc
 obtain⟨hg,hn⟩:=hc
 split at hx
 case h_2=>cases hx
 rename_i ty cs hk
 split at hx
 case isFalse=>cases hx
 rename_i hc2
 obtain⟨hcl,hpure⟩:=hc2
 simp only[Option.some.injEq,Prod.mk.injEq] at hx
 obtain⟨rfl,rfl⟩:=hx
 have hl:st.o.live s:=by simp[Tab.live,hk,OK.live]
 have:=hr.ptr_ hg hl;subst this
 have hob:=h.tr.ob s
 rw[hk] at hob
 obtain⟨arr,fz,hmem,hf,has,hcells⟩:=hob
 have hto:To κ st.o ι w (st.o.put s ⟨g+1,.dead⟩) ι w:=To.turn h s hl ⟨g+1,.dead⟩ rfl rfl rfl rfl (fun _ _=>rfl) (by grind) (fun p _ hp=>by simp[hk,OK.fzAt] at hp) (fun ty sz fz' cs' e=>by cases e) (fun _ _ _=>trivial) (hsh:=.same rfl)
 have hadd0:(⟨ι s,0,none⟩:Addr).add (0*i.size)=⟨ι s,0,none⟩:=by grind[Addr.add]
 refine⟨.slice (some ⟨ι s,0,none⟩) n n,w,ι,?_,hto,.pure (.sl (vs:=arr.toList) (Nat.le_refl _) (fun j u hj=>?_) (by grind) (fun j d u hd hu=>?_))⟩
 ·simp_all[Instr.sliceAt,run_underlying,Instr.sureAddr,Instr.sliceBounds,run_size,hi,Addr.add]
 ·have hadd:(⟨ι s,0,none⟩:Addr).add j=⟨ι s,j,none⟩:=by grind[Addr.add]
  rw[hadd]
  refine⟨⟨?_,h.tr.lt s hl,fun t' ht' he=>?_⟩,?_⟩
  ·rcases h.my s hl with h1 | h1
   ·exact .inr (.inl h1)
   ·exact .inr (.inr h1)
  ·exfalso
   simp only[wrT,Tab.live,Tab.get_put] at ht'
   by_cases q:s=t'
   ·rw[if_pos q] at ht';exact ht'
   ·rw[if_neg q] at ht'
    exact q (h.tr.inj t' s ht' hl he).symm
  grind[World.cell?]
 ·have hpd:d.pure=true:=pureL_get hpure j d hd
  exact((hcells j d u hd hu).pure_ hpd).mono hto.goes.st
section
variable {κ : Cx} {ι : Nat → Nat} {st : St} {a : Act} {w : World}
theorem To.alloc (h:RelI κ ι st a w) (ob:Obj):To κ st.o ι w st.o ι (w.alloc ob):=by
 have hsz:(w.alloc ob).heap.size=w.heap.size+1:=by simp
 have hk:∀i,i<w.heap.size→(w.alloc ob).heap[i]? = w.heap[i]?:=fun i hi=>heap_alloc_old w ob i hi
 have H:Goes κ.D st.o ι w st.o ι (w.alloc ob):=⟨fun p hp=>⟨⟨hp.1,by have:=hp.2.1;omega,hp.2.2⟩,cell_congr (hk _ hp.2.1)⟩,fun _=>Nat.le_refl _,fun _ hl _=>⟨hl,rfl⟩,
  fun t g ty sz fz' cs' hT _=>⟨⟨ty,fz',cs',hT⟩,fun arr ty1 fz hh=>⟨arr,ty1,fz,(hk _ (h.tr.lt t (by simp[Tab.live,hT,OK.live]))).trans hh,rfl⟩⟩,
  fun t g ty fz nl L hT _=>⟨⟨ty,fz,nl,L,hT,rfl,rfl,rfl⟩,fun hn arr ty1 fz1 hh=>⟨arr,ty1,fz1,(hk _ (h.tr.lt t (by grind[Tab.live,OK.live]))).trans hh,rfl⟩⟩⟩
 refine⟨H,⟨fun t=>?_,h.tr.inj,fun t hl=>by have:=h.tr.lt t hl;omega⟩,h.my,h.kept.trans ⟨rfl,rfl,rfl,by omega,fun i hi _=>hk i hi,fun i hi=>.same (hk i hi)⟩⟩
 by_cases hl:st.o.live t
 ·exact(h.tr.ob t).mono H (hk _ (h.tr.lt t hl))
 ·cases hkk:(st.o.get t).k with
  | dead=>trivial
  | nrow ty fz nl L=>
   (left<;>grind[absurd,Tab.live,OK.live])
  | _=>grind[absurd,Tab.live,OK.live]
def zW (P:Program) (t len:Nat) (ps:List (Nat×V)) (te:Ty):Option V:=match P.underlying t with
 | some (.slice e)=>match zeroC P e with
  | some zs=>if 0<len∧0<zs.length∧len*zs.length≤16777216 then(match za (fun j=>some (j*zs.length,zs.length)) (repl zs len) ps with
   | some cs=>if pureL cs=true then(match impC (.list te) [.sl len cs] with
    | some (l,[])=>some (.lst ⟨te,l⟩)
    | _=>none) else none
   | none=>none) else none
  | none=>none
 | _=>none
theorem kZ (h:RelI κ ι st a w) {t len:Nat} {te:Ty} {ps:List (Nat×V)} {cps:Array (Nat×Value)} {v:V} (hl:ps.length=cps.toList.length)
  (hp:∀(j i:Nat) (v:V),ps[j]? = some (i,v)→∃u,cps.toList[j]? = some (i,u)∧Rv st.o ι (Stable κ.D st.o ι w) w v u) (hx:zW κ.P t len ps te=some v):
  ∃cv w',(Instr.buildSlice t len cps).run κ.P w=.ok cv w'∧To κ st.o ι w st.o ι w'∧Rv st.o ι (Stable κ.D st.o ι w') w' v cv:=by
 unfold zW at hx
 split at hx
 case h_2=>cases hx
 rename_i e ht
 split at hx
 case h_2=>cases hx
 rename_i zs hz
 obtain⟨z,i,hi,hzz,hsz,hrun,hlr⟩:=qG hz
 have hzl:zs.length=i.size:=by rw[←hsz];simpa using (hlr (S:=fun _=>False) (w:=w)).1
 split at hx
 case isFalse=>cases hx
 rename_i hc
 obtain⟨hlen,h0,h24⟩:=hc
 cases hf:za (fun j=>some (j*zs.length,zs.length)) (repl zs len) ps with
 | none=>simp[hf] at hx
 | some cs=>
  simp only[hf] at hx
  split at hx
  case isFalse=>cases hx
  rename_i hpu
  split at hx
  case h_2=>cases hx
  rename_i l himp
  injection hx with hx
  subst hx
  have hmade:=(hlr (S:=Stable κ.D st.o ι w) (w:=w)).made (len*i.size) len (by rw[hsz])
  obtain⟨arr,h1,h2⟩:=jk _ _ _ (repl zs len) cs (madeCells z.cells (len*i.size)) (hmade.mono fun _ _=>.pure) hl hp hf
  have hto:=To.alloc h (.cells arr e)
  have hnew:(w.alloc (.cells arr e)).heap[w.heap.size]? = some (.cells arr e (0,0)):=heap_alloc_new w (.cells arr e)
  have hcells:LR (Rp (Stable κ.D st.o ι (w.alloc (.cells arr e))) (w.alloc (.cells arr e))) cs arr.toList:=
   ⟨h2.1,fun j d u hd hu=>((h2.2 j d u hd hu).pure_ (pureL_get hpu j d hd)).mono hto.goes.st⟩
  have hsl:Rp (Stable κ.D st.o ι (w.alloc (.cells arr e))) (w.alloc (.cells arr e)) (.sl len cs) (.slice (some ⟨w.heap.size,0,none⟩) len len):=by
   refine .sl (vs:=arr.toList) (Nat.le_refl _) (fun j u hu=>?_) hcells.1 hcells.2
   have hadd:(⟨w.heap.size,0,none⟩:Addr).add j=⟨w.heap.size,j,none⟩:=by grind[Addr.add]
   rw[hadd]
   refine⟨⟨.inr (.inl h.kept.size),by simp,fun t ht e=>?_⟩,?_⟩
   ·have:=h.tr.lt t ht
    grind
   grind[World.cell?]
  have hv:=impC_rv (T:=st.o) (ι:=ι) (.list te) [.sl len cs] [] l [_] himp (.cons (.pure hsl) .nil)
  simp only[List.append_nil,cellsV] at hv
  obtain⟨u,vs',e1,hu,_⟩:=LR.head hv
  injection e1 with e1 _
  subst e1
  refine⟨_,w.alloc (.cells arr e),?_,hto,.pure (.lst (hu.pure_ (by simp[V.pure])))⟩
  simp only[Instr.buildSlice,Sem.run_bind,run_underlying ht,Result.andThen_ok,run_size hi]
  rw[hzl] at h24 h1
  rw[if_neg (by omega)]
  have hz0:¬len*i.size=0:=by
   have:0<len*i.size:=Nat.mul_pos hlen (by omega)
   omega
  simp_all[if_false,madeCells,Sem.run_bind,Result.andThen_ok,Sem.run_pure,newRow]
def ke (P:Program) (T:Tab) (t len:Nat) (ps:List (Nat×V)) (d:Nat):Option (V×Option (Nat×Ob)):=match ps with
 | [(j,.acc s g)]=>if (T.get s).gen=g then(match (T.get s).k with
  | .nrow ty _ nl L=>(zW P t len [(j,.lst L)] (.list L.e)).map fun v=>(v,some (s,⟨g,.nrow ty true nl L⟩))
  | _=>none) else none
 | (j,.str b)::r=>match zW P t len ((j,.str b)::r) .str with
  | some v=>some (v,none)
  | none=>qw P T t len ((j,.str b)::r) d
 | ps=>qw P T t len ps d
theorem ZD (h:RelI κ ι st a w) {t len d:Nat} {ps:Array (Nat×Operand)} {v:V} {wr:Option (Nat×Ob)} (hx:ke κ.P st.o t len (st.parts ps.toList) d=some (v,wr)):
  SemOk κ ι st.o w (Instr.buildSlice t len (ps.map fun(i,x)=>(i,a.eval x))) v wr:=by
 obtain⟨hl,hp⟩:=kL h ps
 unfold ke at hx
 split at hx
 ·rename_i j s g hps
  rw[hps] at hl hp
  split at hx
  case isFalse=>cases hx
  rename_i hg
  split at hx
  case h_2=>cases hx
  rename_i ty fz nl L hk
  cases hf:zW κ.P t len [(j,.lst L)] (.list L.e) with
  | none=>simp[hf] at hx
  | some v'=>
   simp only[hf,Option.map_some,Option.some.injEq,Prod.mk.injEq] at hx
   obtain⟨rfl,rfl⟩:=hx
   have e:st.o.freeze s=wrT st.o (some (s,⟨g,.nrow ty true nl L⟩)):=by
    grind[Tab.freeze,wrT,OK.freeze]
   have hfz:=To.freeze h s
   have hr:=To.rel h hfz
   obtain⟨u,hu1,hu2⟩:=hp 0 j (.acc s g) rfl
   have hget:(st.o.freeze s).get s=⟨g,.nrow ty true nl L⟩:=by rw[Tab.get_freeze,if_pos rfl,hk,hg];rfl
   have hu3:Rp (Stable κ.D (st.o.freeze s) ι w) w (.lst L) u:=
    view_ok hr (T:=st.o) 1 (.acc s g) (.lst L) [s] u (by simp[view,V.pure,hg,hk]) (fun s' hs'=>by
     grind[List.mem_singleton,Tab.get_freeze]) (hu2.mono hfz.goes)
   obtain⟨cv,w',hrun,hto,hv⟩:=kZ hr (cps:=ps.map fun(i,x)=>(i,a.eval x)) (ps:=[(j,.lst L)]) (by simpa using hl) (fun j' i' v1 hj'=>by
    cases j' with
    | zero=>
     simp only[List.getElem?_cons_zero,Option.some.injEq,Prod.mk.injEq] at hj'
     obtain⟨rfl,rfl⟩:=hj'
     exact⟨u,hu1,.pure hu3⟩
    | succ q=>simp at hj') hf
   refine⟨cv,w',ι,hrun,?_,?_⟩
   ·rw[←e];exact hfz.trans hto
   grind
 ·rename_i j b r hps
  split at hx
  ·rename_i v' hf
   simp only[Option.some.injEq,Prod.mk.injEq] at hx
   obtain⟨rfl,rfl⟩:=hx
   rw[←hps] at hf
   obtain⟨cv,w',hrun,hto,hv⟩:=kZ h hl hp hf
   exact⟨cv,w',ι,hrun,hto,hv⟩
  grind[zo]
 ·exact zo h hx
end
def aop (P:Program) (st:St) (o:Oper):Option (V×Option (Nat×Ob)):=
 let one (r:Option V):Option (V×Option (Nat×Ob)):=r.map fun v=>(v,none)
 match o.op with
 | .move x | .assign x=>some (st.eval x,none)
 | .pick c a b=>match st.eval c with
  | .bool t=>some (if t then st.eval a else st.eval b,none)
  | .bs t=>some (if t then st.eval a else st.eval b,none)
  | _=>none
 | .alloc e=>match o.dst with | some d=>yQ P st.o e d | none=>none
 | .box e x=>match o.dst with | some d=>KI st.o e d (st.eval x) | none=>none
 | .build t ps=>one (ZE P t (st.parts ps.toList))
 | .buildSlice t len ps=>match o.dst with | some d=>ke P st.o t len (st.parts ps.toList) d | none=>none
 | .load t x=>xk P st.o t (st.eval x)
 | .store t x y=>(zx P st.o t (st.eval x) (st.eval y)).map fun wr=>(.tup [],wr)
 | .nilCheck x=>match st.eval x with
  | .ptr s g off=>some (.ptr s g off,none)
  | .cref cs=>some (.cref cs,none)
  | .fn f cs=>some (.fn f cs,none)
  | .eref X off=>some (.eref X off,none)
  | .eptr t g sz i off=>some (.eptr t g sz i off,none)
  | _=>none
 | .binOp op t x y _=>one ((aBin P op t x y (conB (st.eval x)) (conB (st.eval y))).map symB)
 | .unOp op _ x=>one ((aUn op (conB (st.eval x))).map symB)
 | .convert src dst x=>match o.dst with | some d=>qA P st.o src dst (st.eval x) d | none=>none
 | .makeInterface t x=>one (jT P t (st.eval x))
 | .makeFunc (.func f) first caps=>if first.size=0 then some (.fn f (caps.toList.map st.eval),none) else none
 | .makeSlice t l c=>match o.dst with | some d=>Z6 P st.o t (st.eval l) (st.eval c) d | none=>none
 | .slice t x lo hi mx=>match mx with
  | none=>match (if (lo.isNone&&hi.isNone)=true then jl P st.o t (st.eval x) else none) with
   | some r=>some r
   | none=>one (aSlice P st.o t (st.eval x) (lo.map st.eval) (hi.map st.eval))
  | some _=>none
 | .fieldAddr s x f=>one (aField P s (st.eval x) f)
 | .field t x f=>one (yN P t (st.eval x) f)
 | .indexAddr t x ix=>one (aIndexAddr P st.o t (st.eval x) (st.eval ix))
 | .index t x ix=>one (aIndex P t (st.eval x) (st.eval ix))
 | .range t x=>match o.dst with | some d=>yM P st.o t (st.eval x) d | none=>none
 | .next it isS=>aNext st.o (st.eval it) isS
 | .typeAssert x _ asserted ok=>match zZ P asserted ok (st.eval x) with
  | some v=>some (v,none)
  | none=>one (zZ P asserted ok (unS (st.eval x)))
 | .extract x i=>one (vm (st.eval x) i)
 | .call c=>match c.callee with
  | .builtin b=>match b,c.args.toList,c.argTypes.toList with
   | .len,[x],[t]=>one (Zy P st.o t (st.eval x))
   | .append,[s,x],[t,tx]=>match o.dst with | some d=>if isSym (st.eval s) (unNl (st.eval x))=true then sAppend P st.o t tx (st.eval s) (unNl (st.eval x)) d else if KR (st.eval s) (unNl (st.eval x))=true then zQ P st.o t tx (st.eval s) (unNl (st.eval x)) else if KS (st.eval s)=true then zY P st.o t tx (st.eval s) (unNl (st.eval x)) else(match qJ P st.o t tx (st.eval s) (unNl (st.eval x)) d with | some r=>some r | none=>jj P st.o t tx (st.eval s) (unNl (st.eval x))) | none=>none
   | .copy,[s,x],t::_=>yf P st.o t (st.eval s) (st.eval x)
   | .max,xs,_=>one (aMM true (xs.map st.eval))
   | .min,xs,_=>one (aMM false (xs.map st.eval))
   | _,_,_=>none
  | _=>none
 | _=>none
section
variable {κ : Cx} {ι : Nat → Nat} {st : St} {a : Act} {w : World}
theorem XO (h:RelI κ ι st a w) {t ty:Nat} {s x v:V} {cs cx:Value} {ts:Array TypeId} {wr:Option (Nat×Ob)} (hts:ts[0]? = some t) (hs:Rv st.o ι (Stable κ.D st.o ι w) w s cs) (hr:Rv st.o ι (Stable κ.D st.o ι w) w x cx)
  (hx:yf κ.P st.o t s x=some (v,wr)):SemOk κ ι st.o w (Builtin.copy_ ts ty #[cs,cx]) v wr:=by
 unfold yf at hx
 split at hx
 ·rename_i e ht
  split at hx
  ·rename_i i hi
   split at hx
   ·rename_i m xs s g off n hsrc
    obtain⟨hlen,hxl,news,hnews,hfirst⟩:=qF h hr hsrc
    split at hx
    ·rename_i hc
     obtain⟨hg,hall⟩:=hc
     split at hx
     ·rename_i ty1 sz cells hk
      split at hx
      ·rename_i hc2
       obtain⟨hsz,hle⟩:=hc2
       simp at hx
       obtain⟨rfl,rfl⟩:=hx
       subst hsz
       have hT:st.o.get s=⟨g,.row ty1 i.size false cells⟩:=by cases hTs:st.o.get s;rw[hTs] at hk hg;simp at hk hg;subst hk hg;rfl
       have hl:st.o.live s:=by simp[Tab.live,hk,OK.live]
       obtain⟨ad,c,cap,arr,ty2,fz,rfl,hbk,hmem,has,hn,hcap,hpl⟩:=hs.own_ hT
       have hob:=h.tr.ob s
       rw[hk] at hob
       obtain⟨arr2,fz2,cap2,hh2,hf2,has2,h0,hle2,hc2⟩:=hob
       rw[hmem] at hh2
       injection hh2 with hh2;injection hh2 with e1 e2 e3;subst e1 e2 e3
       have hmin:min m n*i.size≤m*i.size:=Nat.mul_le_mul_right _ (Nat.min_le_left _ _)
       have hmin2:min m n*i.size≤n*i.size:=Nat.mul_le_mul_right _ (Nat.min_le_right _ _)
       have hmul:(off+n)*i.size=off*i.size+n*i.size:=Nat.add_mul _ _ _
       have hf:=hfirst (min m n) w (Nat.min_le_left _ _) rfl
       have hnl:(news.take (min m n*i.size)).length=min m n*i.size:=by rw[List.length_take,←hnews.1];omega
       have hone:∀u∈news.take (min m n*i.size),u.oneCell'=true:=by
        intro u hu
        obtain⟨j,hj⟩:=List.mem_iff_getElem?.1 (List.mem_of_mem_take hu)
        have hjl:j<xs.length:=by rw[hnews.1];exact(List.getElem?_eq_some_iff.1 hj).1
        exact cell_one (List.all_eq_true.1 hall _ (List.getElem_mem hjl)) (hnews.2 j _ u (List.getElem?_eq_getElem hjl) hj)
       have hstore:(storeCells ad (news.take (min m n*i.size))).run κ.P w=.ok () (w.setRow (ι s) (arr.toList.take (off*i.size)++(news.take (min m n*i.size)++arr.toList.drop (off*i.size+(news.take (min m n*i.size)).length))).toArray):=by
        by_cases hc0:c=0
        ·have hn0:n=0:=by omega
         have:news.take (min m n*i.size)=[]:=by rw[hn0];simp
         rw[this]
         simp only[storeCells,List.length_nil,Nat.add_zero,List.nil_append,List.take_append_drop,Array.toArray_toList]
         rw[setRow_self w (ι s) arr _ fz hmem]
         rfl
        ·have:=hpl hc0;subst this
         have hst:=run_storeCells_fz κ.P (ι s) (off*i.size) ty2 fz (news.take (min m n*i.size)) 0 arr w hmem (fun j hj=>hf2 j (.inl hj)) (by omega) hone
         simp only[Nat.add_zero,List.append_assoc] at hst
         exact hst
       have hns:(arr.toList.take (off*i.size)++(news.take (min m n*i.size)++arr.toList.drop (off*i.size+(news.take (min m n*i.size)).length))).toArray.size=arr.size:=by
        simp only[List.size_toArray,List.length_append,hnl,List.length_take,List.length_drop,Array.length_toList];omega
       have hnew:=setRow_heap w (ι s) arr (arr.toList.take (off*i.size)++(news.take (min m n*i.size)++arr.toList.drop (off*i.size+(news.take (min m n*i.size)).length))).toArray ty2 fz hmem
       have hxt:(xs.take (min m n*i.size)).length=min m n*i.size:=by rw[List.length_take,hxl];omega
       generalize hA:(arr.toList.take (off*i.size)++(news.take (min m n*i.size)++arr.toList.drop (off*i.size+(news.take (min m n*i.size)).length))).toArray=A at *
       refine⟨.int .i64 (min m n:Nat),w.setRow (ι s) A,ι,?_,To.turn (w':=w.setRow (ι s) A) h s hl ⟨g,.row ty2 i.size false (splice cells (off*i.size) (xs.take (min m n*i.size)))⟩ rfl rfl rfl (by simp) (fun j hj=>setRow_other w (ι s) j _ hj) (by simp[hg]) (fun p _ hp=>by simp[hk,OK.fzAt] at hp) (fun ty' sz' fz' cs' e _=>?_) ?_ (hsh:=Shape.of hmem hnew hns),?_⟩
       ·simp only[Builtin.copy_,hts]
        have hmn:Nat.min m n=min m n:=rfl
        simp[run_underlying ht,hlen,run_size hi,hmn,hf,hstore,goInt]
       ·simp at e
        obtain⟨rfl,rfl,rfl,rfl⟩:=e
        refine⟨⟨ty2,_,cells,hk⟩,fun arr1 ty1 fz1 h1=>?_⟩
        rw[hmem] at h1
        injection h1 with h1;injection h1 with e1 e2 e3;subst e1
        exact⟨_,_,_,hnew,hns⟩
       ·intro T' ι' H
        refine⟨_,fz,cap,hnew,fun j hj=>hf2 j (by rw[hns] at hj;exact hj),by rw[hns];exact has,h0,by rw[hns,length_splice (by rw[hxt];omega)];exact hle2,?_⟩
        have hAl:A.toList=arr.toList.take (off*i.size)++(news.take (min m n*i.size)++arr.toList.drop (off*i.size+(news.take (min m n*i.size)).length)):=by rw[←hA]
        intro j d u hd hu
        rw[hAl] at hu
        exact splice_prefix (off:=off*i.size) (by simpa using hle2) (fun j d u hd hu=>(hc2 j d u hd hu).mono H) ((hnews.mono fun d u hd=>hd.mono H).take _) (by rw[hxt];omega) j d u hd hu
       ·exact .pure (.int _ _)
      ·cases hx
     ·cases hx
    ·cases hx
   ·rename_i m xs hsrc
    simp at hx
    obtain⟨rfl,rfl⟩:=hx
    obtain⟨hlen,hxl,news,hnews,hfirst⟩:=qF h hr hsrc
    have:=hs.snil_;subst this
    refine SemOk.same h (cv:=.int .i64 0) ?_ (.pure (.int _ _))
    have hf:=hfirst 0 w (Nat.zero_le _) rfl
    simp only[Builtin.copy_,hts]
    simp[run_underlying ht,hlen,run_size hi,hf,goInt]
   ·cases hx
  ·cases hx
 ·cases hx
theorem Xu {o:Oper} {s:Sem Value} (he:execOp a.eval o=(do pure (Next.value (←s)))) {P:Program} {cv:Value} {w':World} (hr:s.run P w=.ok cv w'):
  (execOp a.eval o).run P w=.ok (.value cv) w':=by rw[he];simp[hr]
def OpRes (κ:Cx) (ι:Nat→Nat) (T:Tab) (a:Act) (w:World) (o:Oper) (v:V) (T':Tab):Prop:=
 ∃cv w' ι',((execOp a.eval o).run κ.P w=.ok (.value cv) w'∨((execOp a.eval o).run κ.P w=.ok .skip w'∧cv=undef))∧To κ T ι w T' ι' w'∧Rv T' ι' (Stable κ.D T' ι' w') w' v cv
theorem OpRes.of {o:Oper} {s:Sem Value} {v:V} {wr:Option (Nat×Ob)} (he:execOp a.eval o=(do pure (Next.value (←s)))) (h:SemOk κ ι st.o w s v wr):OpRes κ ι st.o a w o v (wrT st.o wr):=by
 obtain⟨cv,w',ι',hr,ht,hv⟩:=h
 exact⟨cv,w',ι',.inl (Xu he hr),ht,hv⟩
theorem one_eq {r:Option V} {v:V} {wr:Option (Nat×Ob)} (h:(r.map fun v=>(v,(none:Option (Nat×Ob))))=some (v,wr)):r=some v∧wr=none:=by
 (cases r<;>grind)
theorem J1 {r:Option (Option (Nat×Ob))} {v:V} {wr:Option (Nat×Ob)} (h:(r.map fun wr=>(V.tup [],wr))=some (v,wr)):v=.tup []∧r=some wr:=by
 simp_all
theorem XF (h:RelI κ ι st a w) {o:Oper} {v:V} {wr:Option (Nat×Ob)} (hx:aop κ.P st o=some (v,wr)):OpRes κ ι st.o a w o v (wrT st.o wr):=by
  obtain⟨dst,op,type,pos,after,guard⟩:=o
  unfold aop at hx
  cases op<;>simp only at hx
  case move x=>
    simp at hx;obtain⟨rfl,rfl⟩:=hx
    exact⟨a.eval x,w,ι,.inl rfl,To.refl h,h.eval x⟩
  case assign x=>
    simp at hx;obtain⟨rfl,rfl⟩:=hx
    exact⟨a.eval x,w,ι,.inl rfl,To.refl h,h.eval x⟩
  case pick c x y=>
    split at hx
    · rename_i t hc
      simp at hx;obtain⟨rfl,rfl⟩:=hx
      have hcv:=h.eval c
      rw[hc] at hcv
      have:=hcv.bool_
      refine⟨if t then a.eval x else a.eval y,w,ι,.inl ?_,To.refl h,?_⟩
      · simp[execOp,this,asBool]
      · cases t
        · exact h.eval y
        · exact h.eval x
    · rename_i t hc
      simp at hx;obtain⟨rfl,rfl⟩:=hx
      have hcv:=h.eval c
      rw[hc] at hcv
      have:=hcv.bs_
      refine⟨if t then a.eval x else a.eval y,w,ι,.inl ?_,To.refl h,?_⟩
      · simp[execOp,this,asBool]
      · cases t
        · exact h.eval y
        · exact h.eval x
    · cases hx
  case alloc e=>
    split at hx
    · exact OpRes.of rfl (JR h hx)
    · cases hx
  case box e x=>
    split at hx
    · exact OpRes.of rfl (KH h (h.eval x) hx)
    · cases hx
  case build t ps=>
    have hq:=one_eq hx;clear hx;obtain⟨hx,rfl⟩:=hq
    exact OpRes.of rfl (JP h hx)
  case buildSlice t len ps=>
    split at hx
    · exact OpRes.of rfl (ZD h hx)
    · cases hx
  case load t x=>exact OpRes.of rfl (XN h (h.eval x) hx)
  case store t x y=>
    have hq:=J1 hx;clear hx;obtain⟨e1,hx⟩:=hq
    subst e1
    obtain⟨w',ι',hr,ht⟩:=Zv h (h.eval x) (h.eval y) hx
    refine⟨undef,w',ι',.inr ⟨?_,rfl⟩,ht,.pure (.tup (vs:=[]) rfl (by simp))⟩
    simp[execOp,hr]
  case nilCheck x=>
    have hxx:=h.eval x
    split at hx
    · rename_i s g off he
      rw[he] at hxx
      simp at hx;obtain⟨rfl,rfl⟩:=hx
      have:∃ad,a.eval x=.pointer (some ad):=by
        cases hxx with
        | pure h=>cases h
        | ptr hv _ _=>exact hv
      obtain⟨ad,e⟩:=this
      exact⟨a.eval x,w,ι,.inl (by simp[execOp,e]),To.refl h,hxx⟩
    · rename_i cs he
      rw[he] at hxx
      simp at hx;obtain⟨rfl,rfl⟩:=hx
      obtain⟨ad,_,e,_⟩:=hxx.cref_
      exact⟨a.eval x,w,ι,.inl (by simp[execOp,e]),To.refl h,hxx⟩
    · rename_i f cs he
      rw[he] at hxx
      simp at hx;obtain⟨rfl,rfl⟩:=hx
      obtain⟨us,e,_⟩:=hxx.fn_
      exact⟨a.eval x,w,ι,.inl (by simp[execOp,e]),To.refl h,hxx⟩
    · rename_i X off he
      rw[he] at hxx
      simp at hx;obtain⟨rfl,rfl⟩:=hx
      obtain⟨ad,e⟩:=hxx.eref_.cref_form
      exact⟨a.eval x,w,ι,.inl (by simp[execOp,e]),To.refl h,hxx⟩
    · rename_i t g sz i off he
      rw[he] at hxx
      simp at hx;obtain⟨rfl,rfl⟩:=hx
      obtain⟨ad,e⟩:=hxx.eptr_form
      exact⟨a.eval x,w,ι,.inl (by simp[execOp,e]),To.refl h,hxx⟩
    · cases hx
  case binOp op t x y yt=>
    have hq:=one_eq hx;clear hx;obtain⟨hx,rfl⟩:=hq
    cases hb:aBin κ.P op t x y (conB (st.eval x)) (conB (st.eval y)) with
    | none=>simp[hb] at hx
    | some u=>
      simp[hb] at hx;subst hx
      exact OpRes.of rfl (Z7 h (h.eval x).conB (h.eval y).conB hb).symB
  case unOp op t x=>
    have hq:=one_eq hx;clear hx;obtain⟨hx,rfl⟩:=hq
    cases hb:aUn op (conB (st.eval x)) with
    | none=>simp[hb] at hx
    | some u=>
      simp[hb] at hx;subst hx
      exact OpRes.of rfl (Vg h (h.eval x).conB hb).symB
  case convert src dst x=>
    split at hx
    · exact OpRes.of rfl (xT h (h.eval x) hx)
    · cases hx
  case makeInterface t x=>
    have hq:=one_eq hx;clear hx;obtain⟨hx,rfl⟩:=hq
    exact OpRes.of rfl (vu h (h.eval x) hx)
  case makeFunc fn first caps=>
    cases fn with
    | func f=>
      simp only at hx
      split at hx
      · rename_i hf
        simp at hx;obtain⟨rfl,rfl⟩:=hx
        have e0:first=#[]:=Array.eq_empty_of_size_eq_zero hf
        subst e0
        refine⟨.func (.func f) #[] ⟨caps.toList.map a.eval⟩,w,ι,.inl ?_,To.refl h,?_⟩
        · simp[execOp,Instr.makeFunc]
          grind
        · have:=LR.map st.eval a.eval caps.toList (R:=Rv st.o ι (Stable κ.D st.o ι w) w) fun x _=>h.eval x
          exact .fn this.1 this.2
      · cases hx
    | _=>simp at hx
  case makeSlice t l c=>
    split at hx
    · exact OpRes.of rfl (XL h (h.eval l) (h.eval c) hx)
    · cases hx
  case slice t x lo hi mx=>
    cases mx with
    | some m=>simp at hx
    | none=>
     simp only at hx
     cases hr:(if (lo.isNone&&hi.isNone)=true then jl κ.P st.o t (st.eval x) else none) with
     | some r=>
       rw[hr] at hx
       injection hx with hx;subst hx
       split at hr
       · rename_i hn
         simp only[Bool.and_eq_true,Option.isNone_iff_eq_none] at hn
         obtain⟨rfl,rfl⟩:=hn
         exact OpRes.of rfl (KJ h (h.eval x) hr)
       · cases hr
     | none=>
       rw[hr] at hx
       have hq:=one_eq hx;clear hx;obtain⟨hx,rfl⟩:=hq
       have ro:∀o:Option Operand,RO st.o ι (Stable κ.D st.o ι w) w (o.map st.eval) (o.map a.eval):=fun o=>by
         cases o with
         | none=>trivial
         | some y=>exact h.eval y
       exact OpRes.of rfl (JI h (h.eval x) (ro lo) (ro hi) hx)
  case fieldAddr s x f=>
    have hq:=one_eq hx;clear hx;obtain⟨hx,rfl⟩:=hq
    exact OpRes.of rfl (aField_ok h (h.eval x) hx)
  case field t x f=>
    have hq:=one_eq hx;clear hx;obtain⟨hx,rfl⟩:=hq
    exact OpRes.of rfl (Zz h (h.eval x) hx)
  case indexAddr t x ix=>
    have hq:=one_eq hx;clear hx;obtain⟨hx,rfl⟩:=hq
    exact OpRes.of rfl (aIndexAddr_ok h (h.eval x) (h.eval ix) hx)
  case index t x ix=>
    have hq:=one_eq hx;clear hx;obtain⟨hx,rfl⟩:=hq
    exact OpRes.of rfl (JN h (h.eval x) (h.eval ix) hx)
  case range t x=>
    split at hx
    · exact OpRes.of rfl (JJ h (h.eval x) hx)
    · cases hx
  case next it isS=>exact OpRes.of rfl (XK h (h.eval it) hx)
  case typeAssert x xt asserted ok=>
    split at hx
    · rename_i v1 hv1
      injection hx with hx
      simp only[Prod.mk.injEq] at hx
      obtain⟨rfl,rfl⟩:=hx
      exact OpRes.of rfl (jU h (h.eval x) hv1)
    · have hq:=one_eq hx;clear hx;obtain⟨hx,rfl⟩:=hq
      exact OpRes.of rfl (jU h (h.eval x).unS hx)
  case extract x i=>
    have hq:=one_eq hx;clear hx;obtain⟨hx,rfl⟩:=hq
    exact OpRes.of rfl (Q1 h (h.eval x) hx)
  case call c=>
    obtain⟨callee,args,ats⟩:=c
    cases callee with
    | builtin b=>
      simp only at hx
      split at hx
      · rename_i x t ea et
        obtain⟨l1⟩:=args;obtain⟨l2⟩:=ats
        simp at ea et;subst ea et
        have hq:=one_eq hx;clear hx;obtain⟨hx,rfl⟩:=hq
        refine OpRes.of (s:=Builtin.len_ #[t] type #[a.eval x]) ?_ (KG h rfl (h.eval x) hx)
        simp[execOp,resolve,invoke,builtin]
      · rename_i s x t tx ea et
        obtain⟨l1⟩:=args;obtain⟨l2⟩:=ats
        simp at ea et;subst ea et
        split at hx
        · have hx':SemOk κ ι st.o w (Builtin.append_ #[t,tx] type #[a.eval s,a.eval x]) v wr:=by
            split at hx
            · exact ky h (h.eval s) (h.eval x).unNl hx
            · split at hx
              · exact Zh h (h.eval s) (h.eval x).unNl hx
              · split at hx
                · exact Zq h (h.eval s) (h.eval x).unNl hx
                · split at hx
                  · rename_i r hr
                    injection hx with hx;subst hx
                    exact ZG h (h.eval s) (h.eval x).unNl hr
                  · exact JK h (h.eval s) (h.eval x).unNl hx
          refine OpRes.of (s:=Builtin.append_ #[t,tx] type #[a.eval s,a.eval x]) ?_ hx'
          simp[execOp,resolve,invoke,builtin]
        · cases hx
      · rename_i s x t r ea et
        obtain⟨l1⟩:=args;obtain⟨l2⟩:=ats
        simp at ea et;subst ea et
        refine OpRes.of (s:=Builtin.copy_ ⟨t::r⟩ type #[a.eval s,a.eval x]) ?_ (XO h rfl (h.eval s) (h.eval x) hx)
        simp[execOp,resolve,invoke,builtin]
      · have hq:=one_eq hx;clear hx;obtain⟨hx,rfl⟩:=hq
        have hl:=LR.map st.eval a.eval args.toList (R:=Rv st.o ι (Stable κ.D st.o ι w) w) fun x _=>h.eval x
        have:=XM h (ts:=ats) (ty:=type) (us:=⟨args.toList.map a.eval⟩) hl hx
        simp_all[OpRes.of,Builtin.max_,Array.ext',execOp,resolve,invoke,builtin]
      · have hq:=one_eq hx;clear hx;obtain⟨hx,rfl⟩:=hq
        have hl:=LR.map st.eval a.eval args.toList (R:=Rv st.o ι (Stable κ.D st.o ι w) w) fun x _=>h.eval x
        have:=XM h (ts:=ats) (ty:=type) (us:=⟨args.toList.map a.eval⟩) hl hx
        simp_all[OpRes.of,Builtin.min_,Array.ext',execOp,resolve,invoke,builtin]
      · cases hx
    | _=>simp at hx
  all_goals cases hx
end
end Go.Abs
namespace Go.Abs
open Go.RowKit
set_option linter.unusedVariables false
set_option linter.unusedSimpArgs false
def aguard (opl:List Oper) (st:St) (o:Oper):Option Bool:=
 match o.guard with
 | none=>some true
 | some (j,want)=>match (opl[j]?).bind (·.dst) with
  | none=>some false
  | some t=>match st.get t with
   | .bool b=>some (b==want)
   | .bs b=>some (b==want)
   | .tup _=>some false
   | _=>none
def estep (Γ:Orc) (P:Program) (st:St) (o:Oper):Option (V×Tab):=
 match o.op with
 | .call ⟨.value f,args,_⟩=>match st.eval f with
  | .fn k caps=>aCall Γ st.o k (args.toList.map st.eval++caps) (o.dst.getD 99999)
  | _=>none
 | _=>match aop P st o with
  | some (v,wr)=>some (v,wrT st.o wr)
  | none=>none
def isG (opl:List Oper) (o:Oper):Bool:=
 match o.dst with
 | none=>false
 | some d=>opl.any fun o'=>match o'.guard with
  | some (j,_)=>(opl[j]?).bind (·.dst)==some d
  | none=>false
def norm (opl:List Oper) (o:Oper) (v:V):V:=if isG opl o=true then conB v else v
theorem Rv.norm {T:Tab} {ι:Nat→Nat} {S:Addr→Prop} {w:World} {opl:List Oper} {o:Oper} {v:V} {cv:Value} (h:Rv T ι S w v cv):Rv T ι S w (Abs.norm opl o v) cv:=by
 unfold Abs.norm
 split
 ·exact h.conB
 ·exact h
def step (Γ:Orc) (P:Program) (opl:List Oper) (st:St) (o:Oper):Option St:=
 match aguard opl st o with
 | some false=>st.set o.dst (.tup [])
 | some true=>match estep Γ P st o with
  | some (v,T)=>{ st with o:=T }.set o.dst (norm opl o v)
  | none=>none
 | none=>none
def GammaOk (P:Program) (Γ:Orc):Prop:=∀f xs lb res lb' lf,Γ f xs lb=some (res,lb',lf)→
 Spec P f xs lb res lb' lf ∧ ∃ fn, P.funcs[f]? = some fn ∧ (fn.name == "runtime.NumGoroutine") = false ∧ fn.body.isNone = false
section
variable {κ : Cx} {ι : Nat → Nat} {st : St} {a : Act} {w : World}
theorem zk (h:RelI κ ι st a w) {ops:Array Oper} {o:Oper} {b:Bool} (hg:aguard ops.toList st o=some b):Region.wanted o (yielded ops a.tmps)=b:=by
 unfold aguard at hg
 unfold Region.wanted
 split at hg
 ·grind
 ·rename_i j want e
  rw[e]
  simp only
  unfold yielded
  simp only[Array.getElem?_toList] at hg
  split at hg
  ·grind
  ·rename_i t hd
   rw[hd]
   have htm:=h.tm t
   simp only[Option.bind_some]
   split at hg
   ·rename_i b' hb
    injection hg with hg;subst hg
    rw[hb] at htm
    have:=htm.bool_
    have hs:a.tmps[t]? = some (.bool b'):=by
     rw[Array.getD_eq_getD_getElem?] at this
     cases hq:a.tmps[t]? with
     | none=>rw[hq] at this;cases this
     | some u=>grind
    grind
   ·rename_i b' hb
    injection hg with hg;subst hg
    rw[hb] at htm
    have:=htm.bs_
    have hs:a.tmps[t]? = some (.bool b'):=by
     rw[Array.getD_eq_getD_getElem?] at this
     cases hq:a.tmps[t]? with
     | none=>rw[hq] at this;cases this
     | some u=>grind
    grind
   ·rename_i vs hb
    injection hg with hg;subst hg
    rw[hb] at htm
    obtain⟨us,hu,_⟩:=htm.tup_
    (rw[Array.getD_eq_getD_getElem?] at hu<;>grind[Array.getD_eq_getD_getElem?])
   ·cases hg
theorem jx {P:Program} {o:Oper} {k:Nat} {f:Operand} {args:Array Operand} {ts:Array TypeId} (ho:o.op=.call ⟨.value f,args,ts⟩) {us:List Value} (hf:a.eval f=.func (.func k) #[] ⟨us⟩)
  {fn : Func} (hfn : P.funcs[k]? = some fn) (hn : (fn.name == "runtime.NumGoroutine") = false) (hb : fn.body.isNone = false) :
  (execOp a.eval o).run P w=.ok (.enter k (args.map a.eval++⟨us⟩)) w:=by
 have hn' : ¬ fn.name = "runtime.NumGoroutine" := by simpa using hn
 have hb':fn.body≠none:=by grind
 simp[execOp,ho,resolve,Deferred.ofValue,hf,invoke,callFunc,hfn,hn',hb']
theorem Xw {Γ:Orc} (hΓ:GammaOk κ.P Γ) (h:RelI κ ι st a w) {o:Oper} {v:V} {T':Tab} (hx:estep Γ κ.P st o=some (v,T')) {K:Act→World→Prop} {Q:Exit→Act→World→Prop}
  (hK:∀cv w' ι',To κ st.o ι w T' ι' w'→Rv T' ι' (Stable κ.D T' ι' w') w' v cv→K (a.put o.dst cv) w'):o.wp κ.P a w K Q:=by
 unfold estep at hx
 split at hx
 ·rename_i f args ts ho
  split at hx
  ·rename_i k caps hf
   have hfv:=h.eval f
   rw[hf] at hfv
   obtain⟨us,hfu,hl,hh⟩:=hfv.fn_
   have hcall:=hx
   unfold aCall at hcall
   have hent : ∃ fn, κ.P.funcs[k]? = some fn ∧ (fn.name == "runtime.NumGoroutine") = false ∧ fn.body.isNone = false := by
    split at hcall
    ·split at hcall
     ·split at hcall
      ·split at hcall
       ·rename_i hg
        exact(hΓ _ _ _ _ _ _ hg).2
       ·cases hcall
      ·cases hcall
     ·cases hcall
    ·cases hcall
   obtain⟨fn,h1,h2,h3⟩:=hent
   unfold Oper.wp
   rw[jx ho hfu h1 h2 h3]
   have hargs:LR (Rv st.o ι (Stable κ.D st.o ι w) w) (args.toList.map st.eval++caps) (args.map a.eval++⟨us⟩).toList:=by
    have:=LR.map st.eval a.eval args.toList (R:=Rv st.o ι (Stable κ.D st.o ι w) w) fun x _=>h.eval x
    simpa using this.append ⟨hl,hh⟩
   refine(XQ (fun f xs lb res lb' lf hg=>(hΓ f xs lb res lb' lf hg).1) h hx hargs).mono fun e w'=>?_
   grind
  ·cases hx
 ·split at hx
  ·rename_i v' wr hop
   simp at hx;obtain⟨rfl,rfl⟩:=hx
   obtain⟨cv,w',ι',hrun,hto,hv⟩:=XF h hop
   unfold Oper.wp
   rcases hrun with hrun | ⟨hrun,rfl⟩
   ·rw[hrun];exact hK cv w' ι' hto hv
   ·rw[hrun];exact hK undef w' ι' hto hv
  ·cases hx
theorem j6 {Γ:Orc} (hΓ:GammaOk κ.P Γ) (h:RelI κ ι st a w) {ops:Array Oper} {o:Oper} {st':St} (hx:step Γ κ.P ops.toList st o=some st') {K:Act→World→Prop} {Q:Exit→Act→World→Prop}
  (hK:∀a' w',Rel κ st' a' w'→K a' w'):if Region.wanted o (yielded ops a.tmps) then o.wp κ.P a w K Q else K (a.put o.dst undef) w:=by
 unfold step at hx
 split at hx
 ·rename_i hg
  rw[zk h hg]
  simp only[Bool.false_eq_true,if_false]
  exact hK _ _ ⟨ι,h.set (To.refl h) (by simpa using hx) (.pure (.tup (vs:=[]) rfl (by simp)))⟩
 ·rename_i hg
  rw[zk h hg]
  simp only[if_true]
  split at hx
  ·rename_i v T' he
   exact Xw hΓ h he fun cv w' ι' hto hv=>hK _ _ ⟨ι',h.set hto hx hv.norm⟩
  ·cases hx
 ·cases hx
def steps (Γ:Orc) (P:Program) (opl:List Oper):List Oper→St→Option St
 | [],st=>some st
 | o::r,st=>match step Γ P opl st o with
  | some st'=>steps Γ P opl r st'
  | none=>none
theorem steps_ok {Γ:Orc} (hΓ:GammaOk κ.P Γ) {ops:Array Oper} {Q:Exit→Act→World→Prop}:∀(l:List Oper) (st st':St) (a:Act) (w:World),steps Γ κ.P ops.toList l st=some st'→Rel κ st a w→
  (∀a' w',Rel κ st' a' w'→Q .normal a' w')→wpList κ.P ops Q l a w
 | [],st,st',a,w,hx,h,hQ=>by
  grind[steps,wpList_nil]
 | o::r,st,st',a,w,hx,⟨ι,h⟩,hQ=>by
  simp only[steps] at hx
  split at hx
  ·rename_i st1 h1
   exact wpList_step fun K hK=>j6 hΓ h h1 fun a' w' hr=>hK _ _ (steps_ok hΓ r st1 st' a' w' hx hr hQ)
  ·cases hx
end
end Go.Abs
namespace Go.Abs
open Go.RowKit
set_option linter.unusedVariables false
set_option linter.unusedSimpArgs false
def OK.there:OK→Prop
 | .dead=>False
 | _=>True
def Tab.there (T:Tab) (t:Nat):Prop:=(T.get t).k.there
def Le (E:Nat→Prop) (T T':Tab):Prop:=∀s,(T.there s∨E s)→T'.get s=T.get s
theorem qh {T:Tab} {s:Nat} (h:¬T.there s):(T.get s).k=.dead:=by
 grind[absurd,Tab.there,OK.there]
section
variable {E : Nat → Prop} {T T' : Tab}
theorem Q2 (hle:Le E T T') {x:V} {cs:List V} (h:xF T x=some cs):xF T' x=some cs:=by
 unfold xF at h ⊢
 split at h
 ·rename_i s g off
  by_cases hl:T.there s
  ·simp only[hle s (.inl hl)];exact h
  ·simp[qh hl] at h
 ·exact h
 ·exact h
 ·rename_i s g sz i off
  by_cases hl:T.there s
  ·simp only[hle s (.inl hl)];exact h
  ·simp[qh hl] at h
 ·cases h
theorem Zx (hle:Le E T T') {P:Program} {t:Nat} {x:V} {r:V×Option (Nat×Ob)} (h:xk P T t x=some r):xk P T' t x=some r:=by
 grind[xk,Q2]
theorem QU (hle:Le E T T') {P:Program} {t:Nat} {x v:V} {r:Option (Nat×Ob)} (h:aStore P T t x v=some r):aStore P T' t x v=some r∧∀s o,r=some (s,o)→T.there s:=by
 unfold aStore at h ⊢
 split at h
 ·rename_i s g off
  by_cases hl:T.there s
  ·(simp only[hle s (.inl hl)]<;>grind)
  grind[qh]
 ·cases h
theorem xW (hle:Le E T T') {P:Program} {t:Nat} {x ix v:V} (h:aIndexAddr P T t x ix=some v):aIndexAddr P T' t x ix=some v:=by
 unfold aIndexAddr at h ⊢
 split at h
 ·split at h
  ·split at h
   ·split at h
    ·rename_i hA
     unfold yO at h ⊢
     split at h
     ·rename_i s g sz
      by_cases hl:T.there s
      ·simp only[hle s (.inl hl)];grind
      ·simp[qh hl] at h
     ·cases h
    grind
   ·cases h
  ·rename_i e
   split at h
   ·rename_i hi
    split at h
    ·rename_i s g off n
     by_cases hl:T.there s
     ·simp only[hle s (.inl hl)];exact h
     ·simp[qh hl] at h
    ·exact h
    ·exact h
    ·rename_i s g
     by_cases hl:T.there s
     ·simp only[hle s (.inl hl)];exact h
     ·simp[qh hl] at h
    ·cases h
   ·cases h
  ·cases h
 ·cases h
theorem JL (hle:Le E T T') {P:Program} {t:Nat} {x v:V} (h:Zy P T t x=some v):Zy P T' t x=some v:=by
 unfold Zy at h ⊢
 split at h
 ·grind
 ·grind
 ·grind
 ·grind
 ·grind
 ·grind
 ·rename_i e1 s g e
  by_cases hl:T.there s
  ·simp only[hle s (.inl hl)];exact h
  ·simp[qh hl] at h
 ·grind
 ·cases h
theorem Q6 (hle:Le E T T') {x:V} {r:Nat×Nat×Nat×Nat×Nat×Bool×Bool×TL} (h:zB T x=some r):zB T' x=some r:=by
 unfold zB at h ⊢
 split at h
 ·rename_i s g
  by_cases hl:T.there s
  ·simp only[hle s (.inl hl)];exact h
  ·simp[qh hl] at h
 ·rename_i s g off n
  by_cases hl:T.there s
  ·simp only[hle s (.inl hl)];exact h
  ·simp[qh hl] at h
 ·cases h
theorem yS (hle:Le E T T') {P:Program} {t:Nat} {x:V} {lo hi:Option V} {r:List Bool×V} (h:qO P T t x lo hi=some r):qO P T' t x lo hi=some r:=by
 grind[qO,Q6]
theorem QV (hle:Le E T T') {P:Program} {t:Nat} {x v:V} {lo hi:Option V} (h:aSlice P T t x lo hi=some v):aSlice P T' t x lo hi=some v:=by
 unfold aSlice at h ⊢
 split at h
 ·grind
 ·rename_i e
  split at h
  ·rename_i hi
   split at h
   ·exact h
   ·rename_i s g off n
    by_cases hl:T.there s
    ·simp only[hle s (.inl hl)];exact h
    grind[qh]
   ·exact h
   ·exact h
   grind[yS]
  ·cases h
 ·cases h
theorem Zw (hle:Le E T T') {x:V} {isS:Bool} {v:V} {r:Option (Nat×Ob)} (h:aNext T x isS=some (v,r)):aNext T' x isS=some (v,r)∧∀s o,r=some (s,o)→T.there s:=by
 unfold aNext at h ⊢
 split at h
 ·rename_i s g
  by_cases hl:T.there s
  ·(simp only[hle s (.inl hl)]<;>grind)
  ·simp[qh hl] at h
 ·cases h
theorem zl (hle:Le E T T') {sz:Nat} {x:V} {r:Nat×List V} (h:qM T sz x=some r):qM T' sz x=some r:=by
 unfold qM at h ⊢
 split at h
 ·exact h
 ·exact h
 ·exact h
 ·rename_i s g
  by_cases hl:T.there s
  ·simp only[hle s (.inl hl)];exact h
  ·simp[qh hl] at h
 ·exact h
 ·rename_i s g off n
  by_cases hl:T.there s
  ·simp only[hle s (.inl hl)];exact h
  ·simp[qh hl] at h
 ·rename_i s g off n
  by_cases hl:T.there s
  ·simp only[hle s (.inl hl)];exact h
  ·simp[qh hl] at h
 ·exact h
 ·cases h
theorem ZA (hle:Le E T T') {P:Program} {t:Nat} {s x v:V} {r:Option (Nat×Ob)} (h:yf P T t s x=some (v,r)):yf P T' t s x=some (v,r)∧∀s o,r=some (s,o)→T.there s:=by
 unfold yf at h ⊢
 split at h
 ·rename_i e
  split at h
  ·rename_i i hi
   split at h
   ·rename_i m xs s g off n hsrc
    rw[zl hle hsrc]
    by_cases hl:T.there s
    ·(simp only[hle s (.inl hl)]<;>grind)
    ·simp[qh hl] at h
   ·grind[zl]
   ·cases h
  ·cases h
 ·cases h
theorem vv (hle:Le E T T') {P:Program} {src dst d:Nat} (hd:E d) {x v:V} {r:Option (Nat×Ob)} (h:qA P T src dst x d=some (v,r)):
  qA P T' src dst x d=some (v,r)∧∀s o,r=some (s,o)→T.there s∨E s:=by
 unfold qA at h ⊢
 split at h
 ·grind
 ·grind
 ·grind
 ·(simp only[hle d (.inr hd)]<;>grind)
 ·rename_i e1 e2 hne
  split at h
  ·rename_i hc
   split at h
   ·rename_i m xs hsrc
    refine⟨?_,fun s o e=>?_⟩
    ·have h2:=zl hle hsrc
     grind
    simp_all[qI]
   ·cases h
  ·cases h
 ·cases h
theorem yP (hle:Le E T T') {P:Program} {t tx d:Nat} (hd:E d) {s x v:V} {r:Option (Nat×Ob)} (h:qJ P T t tx s x d=some (v,r)):
  qJ P T' t tx s x d=some (v,r)∧∀s o,r=some (s,o)→T.there s∨E s:=by
 unfold qJ at h ⊢
 split at h
 ·rename_i e dx e1 e2
  split at h
  ·rename_i zs i e3 e4
   split at h
   ·rename_i m xs hsrc
    rw[zl hle hsrc]
    simp only[hle d (.inr hd)]
    split at h
    ·rename_i hc
     rw[if_pos hc]
     split at h
     ·grind
     ·rename_i s g n
      by_cases hl:T.there s
      ·(simp only[hle s (.inl hl)]<;>grind)
      ·simp[qh hl] at h
     ·cases h
    ·cases h
   ·cases h
  ·cases h
 ·cases h
theorem QY (hle:Le E T T') {P:Program} {t tx:Nat} {s x v:V} {r:Option (Nat×Ob)} (h:jj P T t tx s x=some (v,r)):
  jj P T' t tx s x=some (v,r)∧(∀s o,r=some (s,o)→T.there s)∧∀d,E d→qJ P T' t tx s x d=qJ P T t tx s x d:=by
 unfold jj at h ⊢
 split at h
 ·rename_i e dx e1 e2
  split at h
  ·rename_i i hi
   split at h
   ·rename_i m xs hsrc
    have hsrc':=zl hle hsrc
    rw[hsrc']
    simp only
    split at h
    ·rename_i hc
     rw[if_pos hc]
     split at h
     ·rename_i s g off n
      by_cases hl:T.there s
      ·simp only[hle s (.inl hl)]
       refine⟨h,fun s' o e=>?_,fun d hd=>?_⟩
       ·grind
       ·unfold qJ
        simp only[e1,e2,hi,hsrc,hsrc',hle d (.inr hd)]
        cases zeroC P e with
        | none=>rfl
        | some zs=>
         simp only
         cases off with
         | zero=>simp only[hle s (.inl hl),hsrc,hsrc']
         | succ k=>simp only[hsrc,hsrc']
      ·simp[qh hl] at h
     ·cases h
    ·cases h
   ·cases h
  ·cases h
 ·cases h
theorem ZH (hle:Le E T T') {P:Program} {t tx d:Nat} (hd:E d) {s x v:V} {r:Option (Nat×Ob)} (h:(match qJ P T t tx s x d with | some r=>some r | none=>jj P T t tx s x)=some (v,r)):
  (match qJ P T' t tx s x d with | some r=>some r | none=>jj P T' t tx s x)=some (v,r)∧∀s o,r=some (s,o)→T.there s∨E s:=by
 cases ha:qJ P T t tx s x d with
 | some q=>
  rw[ha] at h
  injection h with h;subst h
  obtain⟨h1,h2⟩:=yP hle hd ha
  grind
 | none=>
  rw[ha] at h
  obtain⟨h1,h2,h3⟩:=QY hle h
  grind
theorem xJ (hle:Le E T T') {e:Ty} {x:V} {l:List e.I} (h:symSrc T e x=some l):symSrc T' e x=some l:=by
 unfold symSrc at h ⊢
 split at h
 ·exact h
 ·rename_i s g
  by_cases hl:T.there s
  ·simp only[hle s (.inl hl)];exact h
  ·simp[qh hl] at h
 ·rename_i s g off n
  by_cases hl:T.there s
  ·simp only[hle s (.inl hl)];exact h
  ·simp[qh hl] at h
 ·exact h
 grind[zl]
theorem ku (hle:Le E T T') {x:V} {L:TL} (h:xK T x=some L):xK T' x=some L:=by
 unfold xK at h ⊢
 split at h
 ·exact h
 ·rename_i s g
  by_cases hl:T.there s
  ·simp only[hle s (.inl hl)];exact h
  ·simp[qh hl] at h
 ·rename_i s g off n
  by_cases hl:T.there s
  ·simp only[hle s (.inl hl)];exact h
  ·simp[qh hl] at h
 ·cases h
theorem yq (hle:Le E T T') {P:Program} {t tx d:Nat} (hd:E d) {s x v:V} {r:Option (Nat×Ob)} (h:sAppend P T t tx s x d=some (v,r)):
  sAppend P T' t tx s x d=some (v,r)∧∀s o,r=some (s,o)→T.there s∨E s:=by
 unfold sAppend at h ⊢
 split at h
 ·rename_i et dx e1 e2
  split at h
  ·rename_i zs i e3 e4
   simp only[hle d (.inr hd)]
   split at h
   ·rename_i hc
    rw[if_pos hc]
    split at h
    ·rename_i q g
     by_cases hl:T.there q
     ·simp only[hle q (.inl hl)]
      split at h
      ·rename_i hg
       rw[if_pos hg]
       split at h
       ·rename_i ty fz nl L hk
        split at h
        ·rename_i hc2
         rw[if_pos hc2]
         grind[xJ]
        ·cases h
       ·cases h
      ·cases h
     ·simp[qh hl] at h
    ·grind[ku]
    ·grind[ku]
    ·cases h
   ·cases h
  ·cases h
 ·cases h
theorem vP (hle:Le E T T') {P:Program} {t tx:Nat} {s x:V} {r:Nat×Nat×Nat×Nat×TL×TL} (h:Jh P T t tx s x=some r):Jh P T' t tx s x=some r∧T.there r.1:=by
 unfold Jh at h ⊢
 split at h
 case h_2=>cases h
 rename_i q g n L
 by_cases hl:T.there q
 ·have e:=hle q (.inl hl)
  (simp only[e]<;>grind)
 ·(exfalso<;>grind[qh])
theorem yA (hle:Le E T T') {P:Program} {t tx:Nat} {s x v:V} {r:Option (Nat×Ob)} (h:zQ P T t tx s x=some (v,r)):
  zQ P T' t tx s x=some (v,r)∧∀s o,r=some (s,o)→T.there s∨E s:=by
 unfold zQ at h ⊢
 split at h
 case h_2=>cases h
 rename_i q g ty by_ L1 L2 hp
 (obtain⟨h1,h2⟩:=vP hle hp<;>grind[vP])
theorem yc (hle:Le E T T') {P:Program} {t tx:Nat} {s x:V} {r:Nat×Nat×(Nat×Bool)×Nat×Nat×TL×TL} (h:JC P T t tx s x=some r):JC P T' t tx s x=some r∧T.there r.1:=by
 unfold JC at h ⊢
 split at h
 case h_2=>cases h
 rename_i q g n
 by_cases hl:T.there q
 ·have e:=hle q (.inl hl)
  simp only[e]
  split at h
  case h_2=>cases h
  rename_i et dx e1 e2
  try simp only[e1,e2]
  split at h
  case h_2=>cases h
  rename_i i e3
  try simp only[e3]
  split at h
  case isFalse=>cases h
  rename_i hc
  rw[if_pos hc]
  split at h
  case h_2=>cases h
  rename_i ty nl L hk
  try simp only[hk]
  split at h
  case isFalse=>cases h
  rename_i hLi
  rw[if_pos hLi]
  split at h
  case h_2=>cases h
  rename_i l hs
  rw[xJ hle hs]
  grind
 ·(exfalso<;>grind[qh])
theorem yJ (hle:Le E T T') {P:Program} {t tx:Nat} {s x v:V} {r:Option (Nat×Ob)} (h:zY P T t tx s x=some (v,r)):
  zY P T' t tx s x=some (v,r)∧∀s o,r=some (s,o)→T.there s∨E s:=by
 unfold zY at h ⊢
 split at h
 case h_2=>cases h
 rename_i q g ty nl n m L L2 hp
 (obtain⟨h1,h2⟩:=yc hle hp<;>grind[yc])
end
end Go.Abs
namespace Go.Abs
open Go.RowKit
set_option linter.unusedVariables false
set_option linter.unusedSimpArgs false
section
variable {E : Nat → Prop} {T T' : Tab}
theorem zE {f g:V→Option (V×List Nat)}:∀(cs:List V) (r:List V×List Nat),mapV f cs=some r→(∀v x,v∈cs→f v=some x→g v=some x)→mapV g cs=some r
 | [],r,h,_=>by simpa [mapV] using h
 | v::cs,r,h,hf=>by
  simp only[mapV] at h ⊢
  split at h
  ·rename_i x l h1
   rw[hf v _ (by simp) h1]
   split at h
   ·rename_i xs l' h2
    rw[zE cs _ h2 fun v x hm=>hf v x (by simp[hm])]
    exact h
   ·cases h
  ·cases h
theorem zn {f:V→Option (V×List Nat)} {Q:Nat→Prop}:∀(cs:List V) (xs:List V) (l:List Nat),mapV f cs=some (xs,l)→(∀v x l',v∈cs→f v=some (x,l')→∀s∈l',Q s)→∀s∈l,Q s
 | [],xs,l,h,_=>by grind[mapV]
 | v::cs,xs,l,h,hf=>by
  simp only[mapV] at h
  split at h
  ·rename_i x l1 h1
   split at h
   ·rename_i ys l2 h2
    simp at h
    obtain⟨_,rfl⟩:=h
    intro s hs
    simp only[List.mem_append] at hs
    rcases hs with hs | hs
    ·grind
    ·exact zn cs ys l2 h2 (fun v x l' hm=>hf v x l' (by simp[hm])) s hs
   ·cases h
  ·cases h
theorem ze (hle:Le E T T'):∀(n:Nat) (v:V) (r:V×List Nat),view n T v=some r→view n T' v=some r
 | 0,v,r,h=>by simp[view] at h
 | n+1,v,r,h=>by
  simp only[view] at h ⊢
  split at h
  ·rename_i hp;rw[if_pos hp];exact h
  ·rename_i hp
   rw[if_neg hp]
   split at h
   ·rename_i s g off k
    by_cases hl:T.there s
    ·simp only[hle s (.inl hl)]
     split at h
     ·rename_i hg;rw[if_pos hg]
      split at h
      ·rename_i hk
       split at h
       ·rename_i hc;rw[if_pos hc]
        split at h
        ·rename_i xs l hm
         rw[zE _ _ hm fun v x _=>ze hle n v x]
         exact h
        ·cases h
       ·cases h
      ·cases h
     ·cases h
    ·simp[qh hl] at h
   ·split at h
    ·rename_i xs l hm;rw[zE _ _ hm fun v x _=>ze hle n v x];exact h
    ·cases h
   ·split at h
    ·rename_i x l hm;rw[ze hle n _ _ hm];exact h
    ·cases h
   ·split at h
    ·rename_i xs l hm;rw[zE _ _ hm fun v x _=>ze hle n v x];exact h
    ·cases h
   ·rename_i s g
    by_cases hl:T.there s
    ·simp only[hle s (.inl hl)];exact h
    ·simp[qh hl] at h
   ·rename_i s g off k
    by_cases hl:T.there s
    ·simp only[hle s (.inl hl)];exact h
    ·simp[qh hl] at h
   ·cases h
theorem zf:∀(n:Nat) (v x:V) (l:List Nat),view n T v=some (x,l)→∀s∈l,T.there s
 | 0,v,x,l,h=>by simp[view] at h
 | n+1,v,x,l,h=>by
  simp only[view] at h
  split at h
  ·simp at h;rw[h.2];simp
  ·rename_i hnp
   split at h
   ·rename_i s g off k
    by_cases hl:T.there s
    ·split at h
     ·split at h
      ·split at h
       ·split at h
        ·rename_i xs l' hm
         simp at h
         obtain⟨_,rfl⟩:=h
         intro s' hs'
         simp only[List.mem_cons] at hs'
         rcases hs' with rfl | hs'
         ·exact hl
         ·exact zn (Q:=T.there) _ _ _ hm (fun v x l' _ hv=>zf n v x l' hv) s' hs'
        ·cases h
       ·cases h
      ·cases h
     ·cases h
    ·simp[qh hl] at h
   ·split at h
    ·rename_i xs l' hm;simp at h;obtain⟨_,rfl⟩:=h;exact zn (Q:=T.there) _ _ _ hm fun v x l' _ hv=>zf n v x l' hv
    ·cases h
   ·split at h
    ·rename_i y l' hm;simp at h;obtain⟨_,rfl⟩:=h;exact zf n _ _ _ hm
    ·cases h
   ·split at h
    ·rename_i xs l' hm;simp at h;obtain⟨_,rfl⟩:=h;exact zn (Q:=T.there) _ _ _ hm fun v x l' _ hv=>zf n v x l' hv
    ·cases h
   ·rename_i s g
    by_cases hl:T.there s
    ·split at h
     ·split at h
      ·simp at h;obtain⟨_,rfl⟩:=h
       intro s' hs'
       simp at hs';subst hs';exact hl
      ·cases h
     ·cases h
    ·simp[qh hl] at h
   ·rename_i s g off k
    by_cases hl:T.there s
    ·split at h
     ·split at h
      ·simp at h;obtain⟨_,rfl⟩:=h
       intro s' hs'
       simp at hs';subst hs';exact hl
      ·cases h
     ·cases h
    ·simp[qh hl] at h
   ·cases h
theorem yU (hle:Le E T T') {n:Nat} {bs:List Nat} {v:V} {r:V×List Nat×List Nat} (h:qX n T bs v=some r):qX n T' bs v=some r:=by
 unfold qX at h ⊢
 split at h
 ·rename_i s g off
  by_cases hl:T.there s
  ·simp only[hle s (.inl hl)];exact h
  ·simp[qh hl] at h
 grind[ze]
theorem xH {n:Nat} {bs bs':List Nat} {v x:V} {l:List Nat} (h:qX n T bs v=some (x,l,bs')) (hb:∀s∈bs,T.there s):(∀s∈l,T.there s)∧∀s∈bs',T.there s:=by
 unfold qX at h
 split at h
 ·rename_i s g off
  by_cases hl:T.there s
  ·grind
  ·simp[qh hl] at h
 ·split at h
  ·rename_i y l' hv;simp at h;obtain⟨_,rfl,rfl⟩:=h;grind[zf]
  ·cases h
theorem jD {f g:List Nat→V→Option (V×List Nat×List Nat)} (hf:∀bs v r,f bs v=some r→g bs v=some r):∀(vs:List V) (bs:List Nat) (r:List V×List Nat×List Nat),viewL f bs vs=some r→viewL g bs vs=some r
 | [],bs,r,h=>by simpa [viewL] using h
 | v::vs,bs,r,h=>by
  simp only[viewL] at h ⊢
  split at h
  ·rename_i x l bs' h1
   rw[hf _ _ _ h1]
   split at h
   ·rename_i xs l' bs'' h2
    simp only
    rw[jD hf vs bs' _ h2];exact h
   ·cases h
  ·cases h
theorem jE {f:List Nat→V→Option (V×List Nat×List Nat)} (hf:∀bs bs' v x l,f bs v=some (x,l,bs')→(∀s∈bs,T.there s)→(∀s∈l,T.there s)∧∀s∈bs',T.there s):
  ∀(vs:List V) (bs bs':List Nat) (xs:List V) (l:List Nat),viewL f bs vs=some (xs,l,bs')→(∀s∈bs,T.there s)→(∀s∈l,T.there s)∧∀s∈bs',T.there s
 | [],bs,bs',xs,l,h,hb=>by simp[viewL] at h;obtain⟨_,rfl,rfl⟩:=h;exact⟨by simp,hb⟩
 | v::vs,bs,bs',xs,l,h,hb=>by
  simp only[viewL] at h
  split at h
  ·rename_i x l1 bs1 h1
   split at h
   ·rename_i ys l2 bs2 h2
    simp at h
    obtain⟨_,rfl,rfl⟩:=h
    obtain⟨a1,a2⟩:=hf _ _ _ _ _ h1 hb
    obtain⟨b1,b2⟩:=jE hf vs bs1 bs2 ys l2 h2 a2
    refine⟨fun s hs=>?_,b2⟩
    simp only[List.mem_append] at hs
    rcases hs with hs | hs
    ·exact a1 s hs
    ·exact b1 s hs
   ·cases h
  ·cases h
theorem Q7 (hle:Le E T T') {n:Nat} (bs:List Nat) (v:V) (r:V×List Nat×List Nat) (h:viewA n T bs v=some r):viewA n T' bs v=some r:=by
 unfold viewA at h ⊢
 (split at h<;>grind[jD,qX,yU])
theorem Q8 {n:Nat} (bs bs':List Nat) (v x:V) (l:List Nat) (h:viewA n T bs v=some (x,l,bs')) (hb:∀s∈bs,T.there s):(∀s∈l,T.there s)∧∀s∈bs',T.there s:=by
 unfold viewA at h
 split at h
 ·split at h
  ·rename_i xs l1 bs1 h1
   simp at h
   obtain⟨_,rfl,rfl⟩:=h
   exact jE (fun bs bs' v x l=>xH) _ _ _ _ _ h1 hb
  ·cases h
 ·exact xH h hb
theorem xh (hle:Le E T T') {n:Nat}:∀(bs:List Nat) (r:List OK×List Nat),boxesOf n T bs=some r→boxesOf n T' bs=some r
 | [],r,h=>by simpa [boxesOf] using h
 | s::bs,r,h=>by
  simp only[boxesOf] at h ⊢
  by_cases hl:T.there s
  ·simp only[hle s (.inl hl)]
   split at h
   ·rename_i hk
    split at h
    ·rename_i xs l hm
     rw[zE _ _ hm fun v x _=>ze hle n v x]
     split at h
     ·rename_i ks l' hr;rw[xh hle bs _ hr];exact h
     ·cases h
    ·cases h
   ·cases h
  ·simp[qh hl] at h
theorem xj {n:Nat}:∀(bs:List Nat) (lb:List OK) (l:List Nat),boxesOf n T bs=some (lb,l)→∀s∈l,T.there s
 | [],lb,l,h=>by simp[boxesOf] at h;rw[h.2];simp
 | s::bs,lb,l,h=>by
  simp only[boxesOf] at h
  split at h
  ·split at h
   ·rename_i xs l1 hm
    split at h
    ·rename_i ks l2 hr
     simp at h
     obtain⟨_,rfl⟩:=h
     intro s' hs'
     simp only[List.mem_append] at hs'
     rcases hs' with hs' | hs'
     ·exact zn (Q:=T.there) _ _ _ hm (fun v x l' _ hv=>zf n v x l' hv) s' hs'
     ·exact xj bs ks l2 hr s' hs'
    ·cases h
   ·cases h
  ·cases h
def Ext (E:Nat→Prop) (T T' T1 T1':Tab):Prop:=∀s,((T.there s∨E s)→T1'.get s=T1.get s)∧(¬(T.there s∨E s)→T1'.get s=T'.get s∧T1.get s=T.get s)
theorem Ext.refl (hle:Le E T T'):Ext E T T' T T':=fun s=>⟨hle s,fun _=>⟨rfl,rfl⟩⟩
theorem Ext.put {T1 T1':Tab} (h:Ext E T T' T1 T1') {s:Nat} (hs:T.there s∨E s) (o:Ob):Ext E T T' (T1.put s o) (T1'.put s o):=by
 intro t
 simp only[Tab.get_put]
 by_cases e:s=t
 ·grind
 ·simp only[if_neg e];exact h t
theorem Ext.freezes {T1 T1':Tab} (h:Ext E T T' T1 T1'):∀(l:List Nat),(∀s∈l,T.there s)→Ext E T T' (T1.freezes l) (T1'.freezes l):=by
 intro l hl s
 simp only[Tab.get_freezes]
 refine⟨fun hs=>by rw[(h s).1 hs],fun hn=>?_⟩
 have:s∉l:=fun hm=>hn (.inl (hl s hm))
 simp only[if_neg this]
 exact(h s).2 hn
theorem Ext.revive:∀(bs:List Nat) (lb:List OK) (T1 T1' T2:Tab),Ext E T T' T1 T1'→(∀s∈bs,T.there s)→Abs.revive T1 bs lb=some T2→∃T2',Abs.revive T1' bs lb=some T2'∧Ext E T T' T2 T2'
 | [],[],T1,T1',T2,h,_,hx=>by simp[Abs.revive] at hx;subst hx;exact⟨T1',rfl,h⟩
 | [],_::_,T1,T1',T2,h,_,hx=>by simp[Abs.revive] at hx
 | _::_,[],T1,T1',T2,h,_,hx=>by simp[Abs.revive] at hx
 | s::bs,k::lb,T1,T1',T2,h,hl,hx=>by
  simp only[Abs.revive] at hx ⊢
  rw[(h s).1 (.inl (hl s (by simp)))]
  split at hx
  ·split at hx
   ·rename_i hc
    rw[if_pos hc]
    exact Ext.revive bs lb _ _ T2 (h.put (.inl (hl s (by simp))) _) (fun s' hs'=>hl s' (by simp[hs'])) hx
   ·cases hx
  ·cases hx
theorem Ext.fresh (bs:List Nat) (d:Nat):∀(lf:List OK) (j:Nat) (T1 T1' T2:Tab),Ext E T T' T1 T1'→(∀i,i<lf.length→E (fsite d (j+i)))→Abs.fresh bs d T1 j lf=some T2→∃T2',Abs.fresh bs d T1' j lf=some T2'∧Ext E T T' T2 T2'
 | [],j,T1,T1',T2,h,_,hx=>by simp[Abs.fresh] at hx;subst hx;exact⟨T1',rfl,h⟩
 | k::lf,j,T1,T1',T2,h,he,hx=>by
  simp only[Abs.fresh] at hx ⊢
  have h0:E (fsite d j):=he 0 (by simp)
  rw[(h (fsite d j)).1 (.inr h0)]
  split at hx
  ·rename_i hc
   rw[if_pos hc]
   exact Ext.fresh bs d lf (j+1) _ _ T2 (h.put (.inr h0) _) (fun i hi=>by have:=he (i+1) (by simp;omega);rwa [show j+1+i=j+(i+1) from by omega]) hx
  ·cases hx
theorem ZB {Γ:Orc} {f d:Nat} {args:List V} (hle:Le E T T') (he:∀j,j<4→E (fsite d j)) {v:V} {T1:Tab} (h:aCall Γ T f args d=some (v,T1)):
  ∃T1',aCall Γ T' f args d=some (v,T1')∧Ext E T T' T1 T1':=by
 unfold aCall at h ⊢
 split at h
 ·rename_i xs l bs hv
  rw[jD (g:=viewA depth T') (fun bs v r=>Q7 hle bs v r) _ _ _ hv]
  obtain⟨hl,hbs⟩:=jE (T:=T) (fun bs bs' v x l=>Q8 bs bs' v x l) _ _ _ _ _ hv (by simp)
  simp only
  split at h
  ·rename_i hc
   rw[if_pos hc]
   split at h
   ·rename_i lb l2 hb
    rw[xh hle bs _ hb]
    have hl2:=xj bs lb l2 hb
    simp only
    split at h
    ·rename_i res lb' lf hg
     split at h
     ·rename_i h4
      rw[if_pos h4]
      have e0:=(Ext.refl hle).freezes (zs res bs lf (l++l2)) (fun s hs=>by (replace hs:=Q4 hs<;>grind[Q4]))
      split at h
      ·rename_i T2 hr
       obtain⟨T2',hr',e1⟩:=Ext.revive bs lb' _ _ T2 e0 hbs hr
       rw[hr']
       simp only
       split at h
       ·rename_i T3 hf
        obtain⟨T3',hf',e2⟩:=Ext.fresh bs d lf 0 _ _ T3 e1 (fun i hi=>by grind) hf
        rw[hf']
        simp only
        have hren1:∀x y,ren1 T3 bs d lf.length x=some y→ren1 T3' bs d lf.length x=some y:=by
         intro x y hx
         unfold ren1 at hx ⊢
         split at hx
         ·split at hx
          ·rename_i hcc
           rw[if_pos hcc,(e2 _).1 (.inr (he _ (by omega)))]
           exact hx
          ·cases hx
         ·split at hx
          ·rename_i hcc
           rw[if_pos hcc,(e2 _).1 (.inr (he _ (by omega)))]
           exact hx
          ·cases hx
         ·split at hx
          ·rename_i hge
           rw[if_pos hge]
           split at hx
           ·rename_i hcc
            rw[if_pos hcc,(e2 _).1 (.inr (he _ (by omega)))]
            exact hx
           ·cases hx
          ·rename_i hge
           rw[if_neg hge]
           split at hx
           ·rename_i hge2
            rw[if_pos hge2]
            split at hx
            ·rename_i s hs
             rw[(e2 s).1 (.inl (hbs s (List.mem_of_getElem? hs)))]
             exact hx
            ·cases hx
           ·cases hx
         ·exact hx
        have hrenL:∀xs ys,renL T3 bs d lf.length xs=some ys→renL T3' bs d lf.length xs=some ys:=by
         intro xs
         (induction xs<;>grind[renL])
        have hren:∀x y,ren T3 bs d lf.length x=some y→ren T3' bs d lf.length x=some y:=by
         intro x y hx
         unfold ren at hx ⊢
         split at hx
         ·rename_i vs
          (cases hq:renL T3 bs d lf.length vs<;>grind[renL])
         grind
        (cases hq:ren T3 bs d lf.length res<;>grind)
       ·cases h
      ·cases h
     ·cases h
    ·cases h
   ·cases h
  ·cases h
 ·cases h
end
end Go.Abs
namespace Go.Abs
open Go.RowKit
set_option linter.unusedVariables false
set_option linter.unusedSimpArgs false
theorem xB (st:St) (T':Tab) (x:Operand):({ st with o:=T' }:St).eval x=st.eval x:=by cases x<;>rfl
theorem ZW (st:St) (T':Tab):({ st with o:=T' }:St).eval=st.eval:=funext (xB st T')
theorem Kg (st:St) (T':Tab) (ps:List (Nat×Operand)):({ st with o:=T' }:St).parts ps=st.parts ps:=by simp[St.parts,xB]
section
variable {E : Nat → Prop} {st : St} {T' : Tab} {P : Program} {Γ : Orc}
theorem qr {r:Option V} {v:V} {wr:Option (Nat×Ob)} (h:(r.map fun v=>(v,(none:Option (Nat×Ob))))=some (v,wr)):∀s ob,wr=some (s,ob)→False:=by
 intro s ob e;simp_all
theorem Qn (hle:Le E st.o T') {t:Nat} {x v:V} {r:Option (Nat×Ob)} (h:jf P st.o t x v=some r):jf P T' t x v=some r∧∀s o,r=some (s,o)→st.o.there s:=by
 unfold jf at h ⊢
 split at h
 ·rename_i s g sz i off
  by_cases hl:st.o.there s
  ·(simp only[hle s (.inl hl)]<;>grind)
  grind[qh]
 ·cases h
theorem yL (hle:Le E st.o T') {t:Nat} {x v:V} {r:Option (Nat×Ob)} (h:zx P st.o t x v=some r):zx P T' t x v=some r∧∀s o,r=some (s,o)→st.o.there s:=by
 cases x<;>simp only[zx] at h ⊢<;>first | exact Qn hle h | exact QU hle h
theorem JQ (hle:Le E st.o T') {t:Nat} {x v:V} {r:Option (Nat×Ob)} (h:jl P st.o t x=some (v,r)):jl P T' t x=some (v,r)∧∀s o,r=some (s,o)→st.o.there s:=by
 unfold jl at h ⊢
 split at h
 ·rename_i n e ht
  split at h
  ·rename_i i hi
   split at h
   ·rename_i s g
    by_cases hl:st.o.there s
    ·(simp only[hle s (.inl hl)]<;>grind)
    grind[qh]
   ·cases h
  ·cases h
 ·cases h
theorem ZF {T T':Tab} {t:Nat} {x y v:V} {lo hi:Option V} (h:aSlice P T t x lo hi=some v):jl P T' t y=none:=by
 (unfold aSlice at h<;>grind[aSlice,jl])
theorem XG (hle:Le E st.o T') {o:Oper} (hd:∀d,o.dst=some d→E d) {v:V} {wr:Option (Nat×Ob)} (h:aop P st o=some (v,wr)):
  aop P { st with o:=T' } o=some (v,wr)∧∀s ob,wr=some (s,ob)→st.o.there s∨E s:=by
 obtain⟨dst,op,type,pos,after,guard⟩:=o
 simp only at hd
 unfold aop at h ⊢
 simp only[xB,ZW,Kg]
 cases op<;>simp only at h ⊢
 case move x=>grind
 case assign x=>grind
 case pick c a b=>grind
 case alloc e=>
  cases dst with
  | none=>cases h
  | some d=>
   simp only[yQ] at h ⊢
   rw[hle d (.inr (hd d rfl))]
   refine⟨h,fun s ob e'=>?_⟩
   subst e'
   cases hz:zeroC P e<;>simp[hz] at h
   grind
 case box e x=>
  cases dst with
  | none=>cases h
  | some d=>
   simp only[KI] at h ⊢
   rw[hle d (.inr (hd d rfl))]
   grind
 case build t ps=>grind[qr]
 case buildSlice t len ps=>
  cases dst with
  | none=>cases h
  | some d=>
   have old:∀{ps':List (Nat×V)} {v:V} {wr:Option (Nat×Ob)},qw P st.o t len ps' d=some (v,wr)→qw P T' t len ps' d=some (v,wr)∧∀s ob,wr=some (s,ob)→st.o.there s∨E s:=by
    intro ps' v wr h
    simp only[qw] at h ⊢
    rw[hle d (.inr (hd d rfl))]
    refine⟨h,fun s ob e'=>?_⟩
    subst e'
    split at h
    ·split at h
     ·split at h
      ·grind
      split at h
      ·rename_i zs _ _ _
       cases hf:za (fun j=>some (j*zs.length,zs.length)) (repl zs len) ps'<;>simp[hf] at h
       grind
      ·cases h
     ·cases h
    ·cases h
   simp only at h ⊢
   generalize st.parts ps.toList=pp at h ⊢
   unfold ke at h ⊢
   split at h
   ·rename_i j s g
    try simp only
    by_cases hl:st.o.there s
    ·simp only[hle s (.inl hl)]
     refine⟨h,fun s' ob e'=>?_⟩
     subst e'
     split at h
     ·split at h
      ·rename_i ty fz nl L _
       (cases hf:zW P t len [(j,.lst L)] (.list L.e)<;>simp[hf] at h<;>grind[zW])
      ·cases h
     ·cases h
    ·simp[qh hl] at h
   ·grind
   grind
 case load t x=>
  refine⟨Zx hle h,fun s ob e=>?_⟩
  subst e
  unfold xk at h
  split at h
  ·simp_all[vR]
  ·cases h
 case store t x y=>
  cases hs:zx P st.o t (st.eval x) (st.eval y) with
  | none=>simp[hs] at h
  | some r=>
   simp[hs] at h
   obtain⟨rfl,rfl⟩:=h
   obtain⟨h1,h2⟩:=yL hle hs
   grind
 case nilCheck x=>grind
 case binOp op t x y yt=>grind[qr]
 case unOp op t x=>grind[qr]
 case convert src dst' x=>
  cases dst with
  | none=>cases h
  | some d=>exact vv hle (hd d rfl) h
 case makeInterface t x=>grind[qr]
 case makeFunc fn first caps=>
  (cases fn<;>grind)
 case makeSlice t l c=>
  cases dst with
  | none=>cases h
  | some d=>
   simp only[Z6] at h ⊢
   rw[hle d (.inr (hd d rfl))]
   grind
 case slice t x lo hi mx=>
  cases mx with
  | some m=>cases h
  | none=>
   simp only at h ⊢
   cases hq:(if (lo.isNone&&hi.isNone)=true then jl P st.o t (st.eval x) else none) with
   | some r=>
    rw[hq] at h
    injection h with h;subst h
    split at hq
    ·rename_i hn
     obtain⟨h1,h2⟩:=JQ hle hq
     grind
    ·cases hq
   | none=>
    rw[hq] at h
    obtain⟨h1,rfl⟩:=one_eq h
    have e0:(if (lo.isNone&&hi.isNone)=true then jl P T' t (st.eval x) else none)=none:=by
     grind[ZF]
    rw[e0,QV hle h1]
    grind
 case fieldAddr s x f=>grind[qr]
 case field t x f=>grind[qr]
 case indexAddr t x ix=>
  obtain⟨h1,rfl⟩:=one_eq h
  rw[xW hle h1]
  grind
 case index t x ix=>grind[qr]
 case range t x=>
  cases dst with
  | none=>cases h
  | some d=>
   simp only[yM] at h ⊢
   rw[hle d (.inr (hd d rfl))]
   grind
 case next it isS=>
  grind[Zw]
 case typeAssert x xt asserted ok=>
  grind[Prod.mk.injEq,qr]
 case extract x i=>grind[qr]
 case call c=>
  obtain⟨callee,args,ats⟩:=c
  cases callee with
  | builtin b=>
   simp only at h ⊢
   split at h
   ·refine⟨?_,fun s ob e=>(qr h s ob e).elim⟩
    rename_i x t _ _
    cases hl:Zy P st.o t (st.eval x) with
    | none=>simp[hl] at h
    | some u=>grind[JL]
   ·cases dst with
    | none=>cases h
    | some d=>
     simp only at h ⊢
     split at h
     ·rename_i hs
      rw[if_pos hs]
      exact yq hle (hd d rfl) h
     ·rename_i hs
      rw[if_neg hs]
      split at h
      ·rename_i ho
       rw[if_pos ho]
       exact yA hle h
      ·rename_i ho
       rw[if_neg ho]
       split at h
       ·rename_i hc
        rw[if_pos hc]
        exact yJ hle h
       ·rename_i hc
        rw[if_neg hc]
        exact ZH hle (hd d rfl) h
   ·grind[ZA]
   ·grind[qr]
   ·grind[qr]
   ·cases h
  | _=>cases h
 all_goals cases h
theorem Zl (hle:Le E st.o T') {o:Oper} (hd:∀d,o.dst=some d→E d) (he:∀j,j<4→E (fsite (o.dst.getD 99999) j)) {v:V} {T1:Tab} (h:estep Γ P st o=some (v,T1)):
  ∃T1',estep Γ P { st with o:=T' } o=some (v,T1')∧Ext E st.o T' T1 T1':=by
 unfold estep at h ⊢
 simp only[xB,ZW]
 split at h
 ·grind[ZB]
 ·split at h
  ·rename_i v' wr hop
   simp at h;obtain⟨rfl,rfl⟩:=h
   obtain⟨h1,h2⟩:=XG hle hd hop
   rw[h1]
   refine⟨_,rfl,?_⟩
   cases wr with
   | none=>exact Ext.refl hle
   | some p=>exact(Ext.refl hle).put (h2 p.1 p.2 rfl) p.2
  ·cases h
def zu (T:Tab) (s:Nat):Bool:=match (T.get s).k with
 | .row _ _ true _=>true
 | _=>false
def wsites (P:Program) (st:St) (o:Oper):List Nat:=
 match o.op with
 | .call ⟨.value f,args,_⟩=>match st.eval f with
  | .fn _ caps=>match viewL (viewA depth st.o) [] (args.toList.map st.eval++caps) with
   | some (_,l,bs)=>match boxesOf depth st.o bs with
    | some (_,l2)=>((l++l2).filter fun s=>!zu st.o s)++(bs++(List.range 4).map (fsite (o.dst.getD 99999)))
    | none=>[]
   | none=>[]
  | _=>[]
 | _=>match aop P st o with
  | some (_,some (s,_))=>[s]
  | _=>[]
theorem xX {T:Tab} {f d:Nat} {args:List V} {v:V} {T1:Tab} (h:aCall Γ T f args d=some (v,T1)) {xs:List V} {l bs:List Nat} (hv:viewL (viewA depth T) [] args=some (xs,l,bs))
  {lb:List OK} {l2:List Nat} (hb:boxesOf depth T bs=some (lb,l2)) {s:Nat} (h1:∀x∈l++l2,x=s→zu T s=true) (h2:s∉bs) (h3:∀j,j<4→s≠fsite d j):T1.get s=T.get s:=by
 unfold aCall at h
 rw[hv] at h
 simp only at h
 split at h
 ·rename_i hc
  rw[hb] at h
  simp only at h
  split at h
  ·rename_i res lb' lf hg
   split at h
   ·rename_i h4
    split at h
    ·rename_i T2 hr
     split at h
     ·rename_i T3 hf
      cases hq:ren T3 bs d lf.length res with
      | none=>simp[hq] at h
      | some y=>
       simp[hq] at h
       obtain⟨_,rfl⟩:=h
       obtain⟨_,hr1,_⟩:=xu bs lb' _ T2 hc.1 hr
       obtain⟨hf1,_⟩:=kX bs d lf 0 T2 T3 hf
       rw[hf1 s fun j hj=>by grind,hr1 s h2,Tab.get_freezes]
       split
       ·rename_i hm
        have hfz:=h1 s (Q4 hm) rfl
        unfold zu at hfz
        cases hT:T.get s with
        | mk g k=>
         rw[hT] at hfz
         cases k with
         | row ty sz fz cs=>cases fz<;>first | rfl | cases hfz
         | _=>cases hfz
       ·rfl
     ·cases h
    ·cases h
   ·cases h
  ·cases h
 ·cases h
theorem xV {o:Oper} {v:V} {T1:Tab} (h:estep Γ P st o=some (v,T1)) {s:Nat} (hs:s∉wsites P st o):T1.get s=st.o.get s:=by
 unfold estep at h
 unfold wsites at hs
 split at h
 ·rename_i f args ts ho
  rw[ho] at hs
  simp only at hs
  split at h
  ·rename_i k caps hf
   rw[hf] at hs
   simp only at hs
   have h':=h
   unfold aCall at h'
   split at h'
   ·rename_i xs l bs hv
    rw[hv] at hs
    simp only at hs
    split at h'
    ·split at h'
     ·rename_i lb l2 hb
      rw[hb] at hs
      simp only[List.mem_append,not_or,List.mem_map,List.mem_range,not_exists,not_and,List.mem_filter] at hs
      grind[xX,zu,absurd]
     ·cases h'
    ·cases h'
   ·cases h'
  ·cases h
 ·rename_i hno
  split at h
  ·rename_i v' wr hop
   simp at h;obtain⟨rfl,rfl⟩:=h
   (cases wr<;>grind[wr,wrT,Tab.get_put,absurd])
  ·cases h
end
end Go.Abs
namespace Go.Abs
open Go.RowKit
set_option linter.unusedVariables false
set_option linter.unusedSimpArgs false
def qj {α:Type} (L:Nat→Bool) (f:Nat→Option α) (x:α):Nat→α
 | 0=>x
 | n+1=>if L n=true then(f n).getD (qj L f x n) else qj L f x n
section
variable {α : Type}
theorem qy {L L':Nat→Bool} {f:Nat→Option α} {x:α}:∀(n:Nat),(∀j,j<n→f j≠none→(L j=L' j))→qj L f x n=qj L' f x n
 | 0,_=>rfl
 | n+1,h=>by
  have ih:=qy (x:=x) n fun j hj=>h j (by omega)
  simp only[qj,ih]
  cases hf:f n with
  | none=>simp
  | some y=>rw[h n (by omega) (by simp[hf])]
theorem zS {L:Nat→Bool} {f:Nat→Option α} {x:α} {i:Nat}:∀(n:Nat),i≤n→(∀j,j<n→f j≠none→(L j=true↔j<i))→qj L f x n=qj (fun _=>true) f x i
  | 0, hi, _ => by have : i = 0 := by omega
                   subst this;rfl
  | n+1,hi,h=>by
    by_cases hn:i=n+1
    · grind[qy]
    · have ih:=zS (x:=x) n (by omega) fun j hj=>h j (by omega)
      rw[←ih]
      simp only[qj]
      (cases hf:f n<;>grind)
theorem jK {L L':Nat→Bool} {f:Nat→Option α} {x:α} {i:Nat} (hL:∀j,L' j=(L j||j==i)) (hi:L i=false):∀(n:Nat),i<n→(∀j,j<n→i<j→f j≠none→L j=false)→
  qj L' f x n=(f i).getD (qj L f x n)
 | 0,h,_=>by omega
 | n+1,h,hf=>by
  by_cases hn:i=n
  ·subst hn
   have e:qj L' f x i=qj L f x i:=qy i fun j hj _=>by
    rw[hL]
    have:(j==i)=false:=by grind
    rw[this];simp
   grind[qj,hi]
  ·have ih:=jK (x:=x) hL hi n (by omega) fun j hj=>hf j (by omega)
   grind[qj]
theorem zR {f:Nat→Option α} {x:α}:∀(i:Nat),qj (fun _=>true) f x (i+1)=qj (fun _=>true) (fun j=>f (j+1)) ((f 0).getD x) i
 | 0=>by simp[qj]
 | i+1=>by
  rw[qj,zR i]
  simp[qj]
theorem jL {f g:Nat→Option α} {x:α}:∀(i:Nat),(∀j,j<i→f j=g j)→qj (fun _=>true) f x i=qj (fun _=>true) g x i
 | 0,_=>rfl
 | i+1,h=>by simp only[qj,jL i fun j hj=>h j (by omega),h i (by omega)]
end
structure Rec where
 v:V
 F:List Nat
 W:List (Nat×Ob)
def jI:List (Nat×Ob)→Nat→Option Ob
 | [],_=>none
 | (k,o)::r,t=>if k=t then some o else jI r t
def overlay:List (Nat×Ob)→Tab→Tab
 | [],T=>T
 | (k,o)::r,T=>(overlay r T).put k o
theorem xP:∀(W:List (Nat×Ob)) (T:Tab) (s:Nat),(overlay W T).get s=(jI W s).getD (T.get s)
 | [],T,s=>rfl
 | (k,o)::r,T,s=>by
  simp only[overlay,Tab.get_put,jI]
  split
  ·rfl
  ·exact xP r T s
def restrict (F:List Nat) (T:Tab):Tab:=F.map fun s=>(s,T.get s)
theorem qL (T:Tab) (s:Nat):∀F:List Nat,(restrict F T).get s=if s∈F then T.get s else⟨0,.dead⟩
 | []=>by simp[restrict,Tab.get,aget]
 | k::F=>by
  have:=qL T s F
  grind[restrict,Tab.get,aget]
def Vl:V→List Nat
 | .own s _ _ _=>[s]
 | .ptr s _ _=>[s]
 | .acc s _=>[s]
 | .eptr s _ _ _ _=>[s]
 | .nwin s _ _ _=>[s]
 | .mp s _=>[s]
 | _=>[]
def xN:Nat→Tab→V→List Nat
 | 0,_,_=>[]
 | n+1,T,v=>match v with
  | .own s _ _ _=>s::(match (T.get s).k with | .row _ _ _ cs=>cs.flatMap (xN n T) | _=>[])
  | .ptr s _ _=>s::(match (T.get s).k with | .box _ cs=>cs.flatMap (xN n T) | _=>[])
  | .acc s _=>[s]
  | .eptr s _ _ _ _=>[s]
  | .nwin s _ _ _=>[s]
  | .mp s _=>[s]
  | .agg cs=>cs.flatMap (xN n T)
  | .fn _ cs=>cs.flatMap (xN n T)
  | .ifc _ u=>xN n T u
  | _=>[]
def Kc:Op→Bool
 | .move _ | .assign _ | .pick _ _ _ | .nilCheck _ | .fieldAddr _ _ _ | .extract _ _ | .unOp _ _ _ | .makeInterface _ _ | .typeAssert _ _ _ _=>true
 | _=>false
def foot (st:St) (o:Oper):List Nat:=
 ((List.range 4).map (fsite (o.dst.getD 99999)))++
 match o.op with
 | .call ⟨.value f,args,_⟩=>(xN depth st.o (st.eval f))++args.toList.flatMap fun x=>xN depth st.o (st.eval x)
 | op=>if Kc op=true then [] else op.operands.toList.flatMap fun x=>Vl (st.eval x)
def drun (Γ:Orc) (P:Program) (opl:List Oper):List Oper→St→Option (List Rec×St)
 | [],st=>some ([],st)
 | o::r,st=>match aguard opl st o with
  | some false=>match st.set o.dst (.tup []) with
   | some st'=>match drun Γ P opl r st' with
    | some (rs,s)=>some (⟨.tup [],[],[]⟩::rs,s)
    | none=>none
   | none=>none
  | some true=>
   let F:=foot st o
   let R:St:={ st with o:=restrict F st.o }
   match estep Γ P R o with
   | some (v,T)=>
    let W:=(wsites P R o).map fun s=>(s,T.get s)
    if (wsites P R o).all (F.contains ·)=true then
     match ({ st with o:=overlay W st.o }:St).set o.dst (norm opl o v) with
     | some st'=>match drun Γ P opl r st' with
      | some (rs,s)=>some (⟨norm opl o v,F,W⟩::rs,s)
      | none=>none
     | none=>none
    else none
   | none=>none
  | none=>none
def One (Γ:Orc) (P:Program) (opl:List Oper) (st:St) (o:Oper) (r:Rec):Prop:=
  (∀d,o.dst=some d→d<st.n)∧
  ((aguard opl st o = some false ∧ r = ⟨.tup [], [], []⟩) ∨
   (aguard opl st o=some true∧∃T v0,estep Γ P { st with o:=restrict r.F st.o } o=some (v0,T)∧r.v=norm opl o v0∧r.F=foot st o∧
      r.W=(wsites P { st with o:=restrict r.F st.o } o).map (fun s=>(s,T.get s))∧∀s∈wsites P { st with o:=restrict r.F st.o } o,s∈r.F))
def xn (l:List Oper) (rs:List Rec) (t j:Nat):Option V:=(l[j]?).bind fun o=>if o.dst=some t then(rs[j]?).map (·.v) else none
def xx (rs:List Rec) (s j:Nat):Option Ob:=(rs[j]?).bind fun r=>jI r.W s
theorem set_get {st st':St} {d:Option Nat} {v:V} (h:st.set d v=some st'):st'.n=st.n∧st'.o=st.o∧(∀e,d=some e→e<st.n)∧∀t,st'.get t=if d=some t then v else st.get t:=by
 unfold St.set at h
 split at h
 ·injection h with h;subst h;simp
 ·split at h
  ·rename_i e he
   injection h with h;subst h
   refine⟨rfl,rfl,fun e' he'=>by injection he' with he';subst he';exact he,fun t=>?_⟩
   simp only[St.get,jz,Option.some.injEq]
  ·cases h
theorem yE {Γ:Orc} {P:Program} {opl:List Oper}:∀(l:List Oper) (st stn:St) (rs:List Rec),drun Γ P opl l st=some (rs,stn)→
  rs.length=l.length∧stn.n=st.n∧(∀t,stn.get t=qj (fun _=>true) (xn l rs t) (st.get t) l.length)∧(∀s,stn.o.get s=qj (fun _=>true) (xx rs s) (st.o.get s) l.length)∧
  ∀(i:Nat) (o:Oper) (r:Rec),l[i]? = some o→rs[i]? = some r→∃sti:St,sti.n=st.n∧(∀t,sti.get t=qj (fun _=>true) (xn l rs t) (st.get t) i)∧
   (∀s,sti.o.get s=qj (fun _=>true) (xx rs s) (st.o.get s) i)∧One Γ P opl sti o r
 | [],st,stn,rs,h=>by
  simp[drun] at h
  obtain⟨rfl,rfl⟩:=h
  simp[qj]
 | o::l,st,stn,rs,h=>by
  have key:∃(r:Rec) (rs':List Rec) (st1:St),rs=r::rs'∧drun Γ P opl l st1=some (rs',stn)∧st1.n=st.n∧One Γ P opl st o r∧(∀t,st1.get t=if o.dst=some t then r.v else st.get t)∧
    ∀s,st1.o.get s=(jI r.W s).getD (st.o.get s):=by
   simp only[drun] at h
   split at h
   ·rename_i hg
    split at h
    ·rename_i st1 hs
     split at h
     ·rename_i rs' s hd
      simp at h
      obtain⟨rfl,rfl⟩:=h
      obtain⟨a1,a2,a3,a4⟩:=set_get hs
      exact⟨_,rs',st1,rfl,hd,a1,⟨a3,.inl ⟨hg,rfl⟩⟩,a4,fun s=>by rw[a2];rfl⟩
     ·cases h
    ·cases h
   ·rename_i hg
    split at h
    ·rename_i v T he
     split at h
     ·rename_i hw
      split at h
      ·rename_i st1 hs
       split at h
       ·rename_i rs' s hd
        simp at h
        obtain⟨rfl,rfl⟩:=h
        obtain⟨a1,a2,a3,a4⟩:=set_get hs
        refine⟨_,rs',st1,rfl,hd,a1,⟨a3,.inr ⟨hg,T,v,he,rfl,rfl,rfl,fun s hs'=>?_⟩⟩,a4,fun s=>by rw[a2];exact xP _ _ _⟩
        have:=List.all_eq_true.1 hw s hs'
        simpa using this
       ·cases h
      ·cases h
     ·cases h
    ·cases h
   ·cases h
  obtain⟨r,rs',st1,rfl,hd,hn,hone,hget,hobj⟩:=key
  obtain⟨b1,b2,b3,b4,b5⟩:=yE l st1 stn rs' hd
  have hval:∀t i,qj (fun _=>true) (xn (o::l) (r::rs') t) (st.get t) (i+1)=qj (fun _=>true) (xn l rs' t) (st1.get t) i:=by
   intro t i
   rw[zR]
   have e0:(xn (o::l) (r::rs') t 0).getD (st.get t)=st1.get t:=by
    rw[hget]
    simp only[xn,List.getElem?_cons_zero,Option.bind_some]
    split<;>simp
   rw[e0]
   exact jL i fun j _=>by simp[xn]
  have hob:∀s i,qj (fun _=>true) (xx (r::rs') s) (st.o.get s) (i+1)=qj (fun _=>true) (xx rs' s) (st1.o.get s) i:=by
   intro s i
   rw[zR]
   have e0:(xx (r::rs') s 0).getD (st.o.get s)=st1.o.get s:=by rw[hobj];simp[xx]
   rw[e0]
   exact jL i fun j _=>by simp[xx]
  refine⟨by simp[b1],by omega,fun t=>?_,fun s=>?_,fun i o' r' ho hr=>?_⟩
  ·rw[List.length_cons,hval,b3]
  ·rw[List.length_cons,hob,b4]
  ·cases i with
   | zero=>
    simp at ho hr
    subst ho hr
    exact⟨st,rfl,fun t=>rfl,fun s=>rfl,hone⟩
   | succ i=>
    simp at ho hr
    obtain⟨sti,c1,c2,c3,c4⟩:=b5 i o' r' ho hr
    exact⟨sti,by omega,fun t=>by rw[hval,c2],fun s=>by rw[hob,c3],c4⟩
def qx (acc:List Nat) (o:Oper):List Nat:=
 acc++[o.after.toList.foldl (fun s e=>if Region.binds .any e then s ||| (2 ^ e.on ||| acc.getD e.on 0) else s) 0]
def xc (opl:List Oper):List Nat:=opl.foldl qx []
def zc (m:List Nat) (i j:Nat):Bool:=(m.getD j 0).testBit i
def keys (W:List (Nat×Ob)):List Nat:=W.map (·.1)
theorem jr {W:List (Nat×Ob)} {s:Nat} (h:jI W s≠none):s∈keys W:=by
 induction W with
 | nil=>simp[jI] at h
 | cons p W ih=>
  grind[jI,keys]
def Xk (a b:List Nat):Bool:=a.any (b.contains ·)
def objsOk (opl:List Oper) (rs:List Rec):Bool:=
 rs.zipIdx.all fun(ri,i)=>ri.W.isEmpty||rs.zipIdx.all fun(rj,j)=>i==j||!Xk (keys ri.W) rj.F||zc (xc opl) (min i j) (max i j)
def kS (opl:List Oper) (o:Oper):List Nat:=
  (o.op.operands.toList.filterMap fun | .tmp t=>some t | _=>none)++
  (match o.guard with
   | some (g,_)=>((opl[g]?).bind (·.dst)).toList
   | none=>[])
def tmpsOk (opl:List Oper):Bool:=
 let m:=xc opl
 opl.zipIdx.all fun(oi,i)=>
  (oi.after.all fun e=>!Region.binds .any e||e.on<i) &&
  match oi.dst with
  | none=>true
  | some d=>opl.zipIdx.all fun(oj,j)=>i==j||!((kS opl oj).contains d||oj.dst==some d)||zc m (min i j) (max i j)
def vd (Γ:Orc) (P:Program) (opl:List Oper) (st:St):Option St:=
 match steps Γ P opl opl st with
 | some st1=>
  let Z:=(st.o.map (·.1)).filter fun s=>!zu st.o s&&zu st1.o s
  let st0:St:={ st with o:=st.o.freezes Z }
  match drun Γ P opl opl st0 with
  | some (rs,stn)=>if objsOk opl rs=true then some stn else none
  | none=>none
 | none=>none
end Go.Abs
namespace Go.Abs
open Go.RowKit
set_option linter.unusedVariables false
set_option linter.unusedSimpArgs false
theorem QC {g:Edge→Nat} {b:Edge→Bool} {i:Nat}:∀(l:List Edge) (s0:Nat),(l.foldl (fun s e=>if b e then s ||| (2 ^ e.on ||| g e) else s) s0).testBit i=true→
  s0.testBit i=true∨∃e∈l,b e=true∧(i=e.on∨(g e).testBit i=true)
 | [],s0,h=>.inl h
 | e::l,s0,h=>by
  simp only[List.foldl_cons] at h
  rcases QC l _ h with h | ⟨e',he',h1,h2⟩
  ·grind
  grind
theorem kQ:∀(l:List Oper) (acc:List Nat),(l.foldl qx acc).length=acc.length+l.length∧(∀i,i<acc.length→(l.foldl qx acc).getD i 0=acc.getD i 0)∧
  ∀(j:Nat) (o:Oper),l[j]? = some o→∀i,((l.foldl qx acc).getD (acc.length+j) 0).testBit i=true→
   ∃e∈o.after.toList,Region.binds .any e=true∧(i=e.on∨(e.on<acc.length+j∧((l.foldl qx acc).getD e.on 0).testBit i=true))
 | [],acc=>by simp
 | o::l,acc=>by
  have hl:(qx acc o).length=acc.length+1:=by simp[qx]
  obtain⟨h1,h2,h3⟩:=kQ l (qx acc o)
  simp only[List.foldl_cons]
  refine⟨by grind,fun i hi=>?_,fun j o' ho i hb=>?_⟩
  ·grind[qx,hi]
  ·cases j with
   | zero=>
    simp at ho;subst ho
    rw[Nat.add_zero,h2 acc.length (by omega)] at hb
    have hv:(qx acc o).getD acc.length 0=o.after.toList.foldl (fun s e=>if Region.binds .any e then s ||| (2 ^ e.on ||| acc.getD e.on 0) else s) 0:=by simp[qx]
    rw[hv] at hb
    rcases QC o.after.toList 0 hb with h | ⟨e,he,hbe,h⟩
    ·simp at h
    grind[qx]
   | succ j=>
    simp at ho
    rw[show acc.length+(j+1)=(qx acc o).length+j from by omega] at hb ⊢
    exact h3 j o' ho i hb
theorem kN {opl:List Oper} {L:Nat→Bool} (hdc:∀(j:Nat) (o:Oper),L j=true→opl[j]? = some o→∀e∈o.after.toList,Region.binds .any e=true→L e.on=true):
  ∀(j i:Nat) (o:Oper),opl[j]? = some o→zc (xc opl) i j=true→(∀e∈o.after.toList,Region.binds .any e=true→L e.on=true)→L i=true:=by
 intro j
 induction j using Nat.strongRecOn with
 | _ j ih=>
  intro i o ho hord hL
  obtain⟨_,_,h3⟩:=kQ opl []
  have:=h3 j o ho i (by simpa [zc,xc] using hord)
  obtain⟨e,he,hb,h⟩:=this
  rcases h with rfl | ⟨hlt,h⟩
  ·grind
  ·simp only[List.length_nil,Nat.zero_add] at hlt
   have hjl:j<opl.length:=(List.getElem?_eq_some_iff.1 ho).1
   have hel:e.on<opl.length:=by omega
   exact ih e.on hlt i opl[e.on] (List.getElem?_eq_getElem hel) (by simpa [zc,xc] using h) (hdc e.on _ (hL e he hb) (List.getElem?_eq_getElem hel))
section
variable {κ : Cx} {ι : Nat → Nat} {st : St} {a : Act} {w : World}
theorem To.ext (h:RelI κ ι st a w) {T':Tab} (hget:∀s,T'.get s=st.o.get s):To κ st.o ι w T' ι w:=by
 have hlive:∀t,T'.live t↔st.o.live t:=fun t=>by simp[Tab.live,hget]
 have H:Goes κ.D st.o ι w T' ι w:=by
  refine⟨fun p hp=>⟨⟨hp.1,hp.2.1,fun t hl=>by rw[hget];exact hp.2.2 t ((hlive t).1 hl)⟩,rfl⟩,fun t=>by grind,fun t hl _=>⟨(hlive t).1 hl,rfl⟩,fun t g ty sz fz' cs' hT _=>?_,fun t g ty fz nl L hT _=>?_⟩
  ·grind
  grind
 exact⟨H,⟨fun t=>by rw[hget];exact(h.tr.ob t).mono H rfl,fun t u ht hu=>h.tr.inj t u ((hlive t).1 ht) ((hlive u).1 hu),fun t ht=>h.tr.lt t ((hlive t).1 ht)⟩,
  fun t hl=>h.my t ((hlive t).1 hl),h.kept⟩
theorem Rel.ext {st':St} (h:Rel κ st a w) (hn:st'.n=st.n) (ht:∀t,st'.get t=st.get t) (ho:∀s,st'.o.get s=st.o.get s) (hg:st'.g=st.g:=by rfl):Rel κ st' a w:=by
 obtain⟨ι,h⟩:=h
 have h1:=To.rel h (To.ext h ho)
 exact⟨ι,h1.dfr,by rw[hn];exact h1.sz,fun t=>by rw[ht];exact h1.tm t,h1.tr,h1.my,h1.kept,h1.pin,by rw[hg];exact h1.gh⟩
theorem QE {Γ:Orc} {P:Program} {st st2:St} {o:Oper} (ho:st.o=st2.o) (he:∀x∈o.op.operands,st.eval x=st2.eval x):estep Γ P st o=estep Γ P st2 o:=by
 have lst:∀(l:Array Operand),(∀x∈l,st.eval x=st2.eval x)→l.toList.map st.eval=l.toList.map st2.eval:=fun l h=>List.map_congr_left fun x hx=>h x (by simpa using hx)
 have prt:∀ps:Array (Nat×Operand),(∀x∈(ps.toList.map (·.2)).toArray,st.eval x=st2.eval x)→st.parts ps.toList=st2.parts ps.toList:=fun ps h=>by
  grind[St.parts,List.map_congr_left]
 obtain⟨dst,op,type,pos,after,guard⟩:=o
 simp only at he
 have hop:(∀c,op≠.call c)→aop P st ⟨dst,op,type,pos,after,guard⟩=aop P st2 ⟨dst,op,type,pos,after,guard⟩:=by
  intro hnc
  unfold aop
  cases op<;>simp only[Op.operands] at he<;>simp only[ho]<;>first
   | rfl
   | (exact absurd rfl (hnc _))
   | skip
  case move x=>grind
  case assign x=>grind
  case pick c a b=>grind
  case box e x=>grind
  case build t ps=>rw[prt ps he]
  case buildSlice t l ps=>rw[prt ps he]
  case load t x=>grind
  case store t x y=>grind
  case nilCheck x=>grind
  case binOp op t x y yt=>grind
  case unOp op t x=>grind
  case convert src dst x=>grind
  case makeInterface t x=>grind
  case makeFunc fn first caps=>
   (cases fn<;>grind)
  case makeSlice t l c=>grind
  case slice t x lo hi mx=>
   cases mx with
   | some m=>rfl
   | none=>
    have e1:lo.map st.eval=lo.map st2.eval:=by (cases lo<;>grind[lo])
    have e2:hi.map st.eval=hi.map st2.eval:=by (cases hi<;>grind[hi])
    grind
  case fieldAddr s x f=>grind
  case field t x f=>grind
  case indexAddr t x ix=>grind
  case index t x ix=>grind
  case range t x=>grind
  case next it isS=>grind
  case typeAssert x xt asserted ok=>grind
  grind
 unfold estep
 cases op with
 | call c=>
  obtain⟨callee,args,ats⟩:=c
  simp only[Op.operands,Call.operands] at he
  cases callee with
  | value f=>
   grind
  | invoke r m=>simp only[aop]
  | builtin b=>
   have hl:=lst args fun x hx=>he x (by simp[hx])
   obtain⟨al⟩:=args
   have hx:∀x∈al,st.eval x=st2.eval x:=fun x hx=>he x (by simp[hx])
   simp only at hl
   have:aop P st ⟨dst,.call ⟨.builtin b,⟨al⟩,ats⟩,type,pos,after,guard⟩=aop P st2 ⟨dst,.call ⟨.builtin b,⟨al⟩,ats⟩,type,pos,after,guard⟩:=by
    unfold aop
    simp only[ho,hl]
    (split<;>grind)
   grind
 | _=>
  simp only
  rw[hop fun c=>by simp]
  simp only[ho]
end
end Go.Abs
namespace Go.Abs
open Go.RowKit
set_option linter.unusedVariables false
set_option linter.unusedSimpArgs false
def KK (st0:St) (opl:List Oper) (rs:List Rec) (L:Nat→Bool) (c:St):Prop:=
 c.n=st0.n∧(∀t,c.get t=qj L (xn opl rs t) (st0.get t) opl.length)∧(∀s,c.o.get s=qj L (xx rs s) (st0.o.get s) opl.length)∧c.g=st0.g
theorem set_g {st st':St} {d:Option Nat} {v:V} (h:st.set d v=some st'):st'.g=st.g:=by
 (unfold St.set at h<;>grind[St.set])
theorem Zo {Γ:Orc} {P:Program} {opl:List Oper}:∀(l:List Oper) (st:St) (rs:List Rec) (st':St),drun Γ P opl l st=some (rs,st')→st'.g=st.g
 | [],st,rs,st',h=>by grind[drun]
 | o::r,st,rs,st',h=>by
  simp only[drun] at h
  split at h
  ·split at h
   ·rename_i st1 h1
    split at h
    ·rename_i rs' s hd
     simp only[Option.some.injEq,Prod.mk.injEq] at h
     obtain⟨_,rfl⟩:=h
     rw[Zo r st1 rs' _ hd,set_g h1]
    ·cases h
   ·cases h
  ·split at h
   ·split at h
    ·split at h
     ·rename_i st1 h1
      split at h
      ·rename_i rs' s hd
       simp only[Option.some.injEq,Prod.mk.injEq] at h
       obtain⟨_,rfl⟩:=h
       rw[Zo r st1 rs' _ hd]
       have:=set_g h1;exact this
      ·cases h
     ·cases h
    ·cases h
   ·cases h
  ·cases h
def DC (opl:List Oper) (L:Nat→Bool):Prop:=∀(j:Nat) (o:Oper),L j=true→opl[j]? = some o→∀e∈o.after.toList,Region.binds .any e=true→L e.on=true
theorem zm {α:Type} {l:List α} {i:Nat} {x:α} (h:l[i]? = some x):(x,i)∈l.zipIdx:=by
 grind
theorem yX {opl:List Oper} (h:tmpsOk opl=true) {i:Nat} {o:Oper} (ho:opl[i]? = some o):∀e∈o.after.toList,Region.binds .any e=true→e.on<i:=by
 intro e he hb
 unfold tmpsOk at h
 have:=List.all_eq_true.1 h (o,i) (zm ho)
 simp only[Bool.and_eq_true] at this
 grind[Array.all_eq_true_iff_forall_mem]
theorem kj {opl:List Oper} (h:tmpsOk opl=true) {i j d:Nat} {oi oj:Oper} (hi:opl[i]? = some oi) (hj:opl[j]? = some oj) (hne:i≠j) (hd:oi.dst=some d)
  (hl:d∈kS opl oj∨oj.dst=some d):zc (xc opl) (min i j) (max i j)=true:=by
 unfold tmpsOk at h
 have:=List.all_eq_true.1 h (oi,i) (zm hi)
 simp only[Bool.and_eq_true,hd] at this
 have h2:=List.all_eq_true.1 this.2 (oj,j) (zm hj)
 grind
theorem Xj {a b:List Nat} {s:Nat} (ha:s∈a) (hb:s∈b):Xk a b=true:=by
 grind[Xk]
theorem vO {opl:List Oper} {rs:List Rec} (h:objsOk opl rs=true) {i j s:Nat} {ri rj:Rec} (hi:rs[i]? = some ri) (hj:rs[j]? = some rj) (hne:i≠j) (hw:s∈keys ri.W) (hf:s∈rj.F):
  zc (xc opl) (min i j) (max i j)=true:=by
 unfold objsOk at h
 have:=List.all_eq_true.1 h (ri,i) (zm hi)
 simp only[Bool.or_eq_true] at this
 rcases this with h1 | h1
 ·grind[keys]
 ·have h2:=List.all_eq_true.1 h1 (rj,j) (zm hj)
  simp only[Bool.or_eq_true,beq_iff_eq,Bool.not_eq_true',Xj hw hf] at h2
  grind
section
variable {κ : Cx} {Γ : Orc} {ops : Array Oper} {st0 stn : St} {rs : List Rec}
theorem Jz (hrun:drun Γ κ.P ops.toList ops.toList st0=some (rs,stn)) (hobj:objsOk ops.toList rs=true) (htmp:tmpsOk ops.toList=true)
  {L L':Nat→Bool} {c:St} (hc:KK st0 ops.toList rs L c) (hdc:DC ops.toList L) {i:Nat} {o:Oper} (ho:ops.toList[i]? = some o) (hi:L i=false)
  (hpre:∀e∈o.after.toList,Region.binds .any e=true→L e.on=true) (hL':∀j,L' j=(L j||j==i)):
  ∃c',step Γ κ.P ops.toList c o=some c'∧KK st0 ops.toList rs L' c':=by
 generalize ops.toList=opl at *
 obtain⟨hlen,hn,_,_,hone⟩:=yE opl st0 stn rs hrun
 have hil:i<opl.length:=(List.getElem?_eq_some_iff.1 ho).1
 have hri:rs[i]? = some rs[i]:=List.getElem?_eq_getElem (by omega)
 generalize rs[i]=r at hri
 obtain⟨sti,hni,hget,hobjs,hdst,hcase⟩:=hone i o r ho hri
 have before:∀j,j<opl.length→j≠i→zc (xc opl) (min j i) (max j i)=true→(L j=true↔j<i):=by
  intro j hj hne hord
  constructor
  ·intro hLj
   rcases Nat.lt_or_ge j i with h | h
   ·exact h
   ·exfalso
    rw[show min j i=i from by omega,show max j i=j from by omega] at hord
    have:=kN hdc j i opl[j] (List.getElem?_eq_getElem hj) hord (hdc j opl[j] hLj (List.getElem?_eq_getElem hj))
    rw[hi] at this;cases this
  ·intro hlt
   rw[show min j i=j from by omega,show max j i=i from by omega] at hord
   exact kN hdc i j o ho hord hpre
 have hW:∀(j:Nat) (o':Oper) (r':Rec),opl[j]? = some o'→rs[j]? = some r'→∀s∈keys r'.W,s∈r'.F:=by
  intro j o' r' ho' hr' s hs
  obtain⟨_,_,_,_,_,hcase'⟩:=hone j o' r' ho' hr'
  rcases hcase' with⟨_,rfl⟩ | ⟨_,T,_,_,_,_,hw,hsub⟩
  ·simp[keys] at hs
  ·rw[hw] at hs
   simp only[keys,List.map_map,List.mem_map,Function.comp] at hs
   obtain⟨s',hs',rfl⟩:=hs
   exact hsub s' hs'
 have tmp_eq:∀t,t∈kS opl o→c.get t=sti.get t:=by
  intro t ht
  rw[hc.2.1,hget]
  refine zS _ (by omega) fun j hj hf=>?_
  by_cases hji:j=i
  ·subst hji;rw[hi];simp
  ·have hoj:=List.getElem?_eq_getElem hj
   have hd:opl[j].dst=some t:=by
    simp only[xn,hoj,Option.bind_some] at hf
    by_cases hd:opl[j].dst=some t
    ·exact hd
    ·rw[if_neg hd] at hf;exact absurd rfl hf
   exact before j hj hji (kj htmp hoj ho hji hd (.inl ht))
 have tab_eq:∀s,s∈r.F→c.o.get s=sti.o.get s:=by
  intro s hs
  rw[hc.2.2.1,hobjs]
  refine zS _ (by omega) fun j hj hf=>?_
  by_cases hji:j=i
  ·subst hji;rw[hi];simp
  ·have hrj:rs[j]? = some rs[j]:=List.getElem?_eq_getElem (by omega)
   have hk:s∈keys rs[j].W:=by
    simp only[xx,hrj,Option.bind_some] at hf
    exact jr hf
   exact before j hj hji (vO hobj hrj hri hji hk hs)
 have hguard:aguard opl c o=aguard opl sti o:=by
  unfold aguard
  cases hg:o.guard with
  | none=>rfl
  | some p=>
   obtain⟨g,want⟩:=p
   simp only
   cases hd:(opl[g]?).bind (·.dst) with
   | none=>rfl
   | some t=>
    simp only
    rw[tmp_eq t (by unfold kS;rw[hg];simp[hd])]
 have heval:∀x∈o.op.operands,c.eval x=sti.eval x:=by
  intro x hx
  cases x with
  | tmp t=>exact tmp_eq t (by unfold kS;exact List.mem_append_left _ (List.mem_filterMap.2 ⟨.tmp t,by simpa using hx,rfl⟩))
  | _=>rfl
 have hval:∀t,xn opl rs t i=if o.dst=some t then some r.v else none:=by
  intro t
  simp only[xn,ho,Option.bind_some,hri,Option.map_some]
 have hob:∀s,xx rs s i=jI r.W s:=by
  intro s
  simp only[xx,hri,Option.bind_some]
 have later:∀j,j<opl.length→i<j→zc (xc opl) (min j i) (max j i)=true→L j=false:=by
  intro j hj hij hord
  have:=before j hj (by omega) hord
  cases hLj:L j with
  | false=>rfl
  | true=>have:=this.1 hLj;omega
 have updT:∀t,qj L' (xn opl rs t) (st0.get t) opl.length=if o.dst=some t then r.v else c.get t:=by
  intro t
  by_cases hd:o.dst=some t
  ·rw[jK hL' hi _ hil fun j hj hij hf=>?_,hval,if_pos hd,if_pos hd]
   ·rfl
   ·have hoj:=List.getElem?_eq_getElem hj
    have hdj:opl[j].dst=some t:=by
     simp only[xn,hoj,Option.bind_some] at hf
     by_cases hd:opl[j].dst=some t
     ·exact hd
     ·rw[if_neg hd] at hf;exact absurd rfl hf
    exact later j hj hij (kj htmp hoj ho (by omega) hdj (.inr hd))
  ·rw[if_neg hd,hc.2.1]
   refine qy _ fun j hj hf=>?_
   rw[hL']
   by_cases hji:j=i
   ·subst hji;rw[hval,if_neg hd] at hf;exact absurd rfl hf
   ·have:(j==i)=false:=by rw[beq_eq_false_iff_ne];exact hji
    rw[this];simp
 have updO:∀s,qj L' (xx rs s) (st0.o.get s) opl.length=(jI r.W s).getD (c.o.get s):=by
  intro s
  by_cases hl:jI r.W s=none
  ·rw[hl,hc.2.2.1]
   refine qy _ fun j hj hf=>?_
   rw[hL']
   by_cases hji:j=i
   ·subst hji;rw[hob] at hf;exact absurd hl hf
   ·have:(j==i)=false:=by rw[beq_eq_false_iff_ne];exact hji
    rw[this];simp
  ·rw[jK hL' hi _ hil fun j hj hij hf=>?_,hob,←hc.2.2.1]
   have hrj:rs[j]? = some rs[j]:=List.getElem?_eq_getElem (by omega)
   have hk:s∈keys rs[j].W:=by
    simp only[xx,hrj,Option.bind_some] at hf
    exact jr hf
   exact later j hj hij (vO hobj hrj hri (by omega) hk (hW i o r ho hri s (jr hl)))
 have setOk:∀(x:St) (v:V),x.n=st0.n→∃c',x.set o.dst v=some c'∧c'.n=x.n∧c'.o=x.o∧∀t,c'.get t=if o.dst=some t then v else x.get t:=by
  intro x v hx
  have hs:∃c',x.set o.dst v=some c':=by
   unfold St.set
   cases hd:o.dst with
   | none=>exact⟨_,rfl⟩
   | some d=>simp only;rw[if_pos (by rw[hx,←hni];exact hdst d hd)];exact⟨_,rfl⟩
  obtain⟨c',hs⟩:=hs
  obtain⟨a1,a2,_,a4⟩:=set_get hs
  exact⟨c',hs,a1,a2,a4⟩
 rcases hcase with⟨hg,hr⟩ | ⟨hg,T,v0,he,hv0,hF,hWr,hsub⟩
 ·obtain⟨c',hs,a1,a2,a3⟩:=setOk c (.tup []) hc.1
  refine⟨c',by simp only[step,hguard,hg];exact hs,by rw[a1,hc.1],fun t=>?_,fun s=>?_,(set_g hs).trans hc.2.2.2⟩
  ·rw[updT,a3,hr]
  ·rw[updO,a2,hr];rfl
 ·-- the same reckoning over what i leads to
  have hrest:restrict r.F c.o=restrict r.F sti.o:=by
   unfold restrict
   exact List.map_congr_left fun s hs=>by rw[tab_eq s hs]
  have hcong:estep Γ κ.P { c with o:=restrict r.F c.o } o=some (v0,T):=by
   rw[←he]
   refine QE hrest fun x hx=>?_
   rw[xB,xB]
   exact heval x hx
  have hle:Le (fun s=>s∈r.F) ({ c with o:=restrict r.F c.o }:St).o c.o:=by
   intro s hs
   show c.o.get s=(restrict r.F c.o).get s
   rw[qL]
   by_cases hm:s∈r.F
   ·rw[if_pos hm]
   ·rw[if_neg hm]
    rcases hs with hs | hs
    ·have:(restrict r.F c.o).there s:=hs
     simp only[Tab.there,qL,if_neg hm] at this
     exact this.elim
    ·exact absurd hs hm
  have hfs:∀j,j<4→fsite (o.dst.getD 99999) j∈r.F:=by
   intro j hj
   rw[hF]
   unfold foot
   exact List.mem_append_left _ (List.mem_map.2 ⟨j,by simpa using hj,rfl⟩)
  obtain⟨T1,hT1,hext⟩:=Zl (st:={ c with o:=restrict r.F c.o }) (T':=c.o) (E:=fun s=>s∈r.F) hle
   (fun d hd=>by have:=hfs 0 (by omega);rw[hd] at this;simpa [fsite] using this) hfs hcong
  obtain⟨c',hs,a1,a2,a3⟩:=setOk { c with o:=T1 } r.v hc.1
  refine⟨c',by simp only[step,hguard,hg];rw[show estep Γ κ.P c o=some (v0,T1) from hT1];simp only;rw[←hv0];exact hs,by rw[a1];exact hc.1,fun t=>?_,fun s=>?_,(set_g (st:={ c with o:=T1 }) hs).trans hc.2.2.2⟩
  ·rw[updT,a3];rfl
  ·rw[updO,a2]
   show T1.get s=_
   by_cases hm:s∈wsites κ.P { sti with o:=restrict r.F sti.o } o
   ·have hlk:jI r.W s=some (T.get s):=by
     rw[hWr]
     generalize wsites κ.P { sti with o:=restrict r.F sti.o } o=ws at hm
     induction ws with
     | nil=>cases hm
     | cons x ws ih=>
      simp only[List.map_cons,jI]
      by_cases hx:x=s
      ·rw[if_pos hx,hx]
      ·rw[if_neg hx]
       exact ih (by rcases List.mem_cons.1 hm with h | h;exact absurd h.symm hx;exact h)
    rw[hlk]
    exact(hext s).1 (.inr (hsub s hm))
   ·have hlk:jI r.W s=none:=by
     cases hl:jI r.W s with
     | none=>rfl
     | some ob=>
      have:=jr (W:=r.W) (s:=s) (by rw[hl];simp)
      rw[hWr] at this
      simp only[keys,List.map_map,List.mem_map,Function.comp] at this
      obtain⟨s',hs',rfl⟩:=this
      exact absurd hs' hm
    rw[hlk]
    have hun:=xV he (s:=s) hm
    by_cases hF':s∈r.F
    ·rw[(hext s).1 (.inr hF'),hun]
     show (restrict r.F sti.o).get s=c.o.get s
     rw[qL,if_pos hF',tab_eq s hF']
    ·refine((hext s).2 fun h=>?_).1
     rcases h with h | h
     ·have:(restrict r.F c.o).there s:=h
      simp only[Tab.there,qL,if_neg hF'] at this
      exact this.elim
     ·exact hF' h
theorem yh {κ:Cx} {Γ:Orc} (hΓ:GammaOk κ.P Γ) {ops:Array Oper} {Q:Exit→Act→World→Prop} {i:Nat} {o:Oper} (ho:ops[i]? = some o) {c c':St} {a:Act} {w:World} (h:Rel κ c a w)
  (hs:step Γ κ.P ops.toList c o=some c') {K:Act→World→Prop} (hK:∀a' w',Rel κ c' a' w'→K a' w'):wpOp κ.P ops Q i K a w:=by
 obtain⟨ι,h⟩:=h
 have:=j6 (Q:=Q) hΓ h hs hK
 grind[wpOp]
def unl (L:Nat→Bool):Nat→Nat
 | 0=>0
 | n+1=>unl L n+if L n=true then 0 else 1
theorem ZK {L L':Nat→Bool} {i:Nat} (hL:∀j,L' j=(L j||j==i)) (hi:L i=false):∀n,i<n→unl L n=unl L' n+1
 | 0,h=>by omega
 | n+1,h=>by
  by_cases hn:i=n
  ·subst hn
   have e:unl L i=unl L' i:=by
    have:∀m,m≤i→unl L m=unl L' m:=by
     intro m
     induction m with
     | zero=>intro _;rfl
     | succ m ih=>
      grind[unl]
    grind
   simp[unl,hL,hi,e]
  ·have ih:=ZK hL hi n (by omega)
   grind[unl]
theorem jZ {L:Nat→Bool}:∀n,unl L n=0→∀j,j<n→L j=true
 | 0,_,j,h=>by omega
 | n+1,hu,j,h=>by
  simp only[unl] at hu
  have h0:unl L n=0:=by omega
  by_cases hj:j=n
  ·grind
  ·exact jZ n h0 j (by omega)
theorem vD {L:Nat→Bool}:∀n,unl L n≠0→∃j,j<n∧L j=false∧∀k,k<j→L k=true
 | 0,h=>absurd rfl h
 | n+1,h=>by
  by_cases h0:unl L n=0
  ·refine⟨n,by omega,?_,jZ n h0⟩
   cases hl:L n with
   | false=>rfl
   | true=>simp[unl,h0,hl] at h
  ·obtain⟨j,h1,h2,h3⟩:=vD n h0
   exact⟨j,by omega,h2,h3⟩
theorem XH (hΓ:GammaOk κ.P Γ) (hrun:drun Γ κ.P ops.toList ops.toList st0=some (rs,stn)) (hobj:objsOk ops.toList rs=true) (htmp:tmpsOk ops.toList=true)
  {Q:Exit→Act→World→Prop} (hQ:∀a w,Rel κ stn a w→Q .normal a w):∀(fuel:Nat) (listed:Array Bool) (c:St) (a:Act) (w:World),listed.size=ops.size→
   unl (fun j=>listed.getD j false) ops.size≤fuel→KK st0 ops.toList rs (fun j=>listed.getD j false) c→DC ops.toList (fun j=>listed.getD j false)→Rel κ c a w→
   wpAny κ.P .any ops Q fuel listed a w:=by
 obtain⟨_,hn,hgetn,hobjn,_⟩:=yE ops.toList st0 stn rs hrun
 have fin:∀(listed:Array Bool) (c:St) (a:Act) (w:World),unl (fun j=>listed.getD j false) ops.size=0→KK st0 ops.toList rs (fun j=>listed.getD j false) c→Rel κ c a w→Q .normal a w:=by
  intro listed c a w hu hc hr
  have hall:=jZ _ hu
  refine hQ a w (hr.ext (by rw[hn,hc.1]) (fun t=>?_) (fun s=>?_) (by rw[Zo _ _ _ _ hrun,hc.2.2.2]))
  ·(rw[hgetn,hc.2.1]<;>grind[qy])
  ·(rw[hobjn,hc.2.2.1]<;>grind[qy])
 have rdy:∀(listed:Array Bool),listed.size=ops.size→unl (fun j=>listed.getD j false) ops.size≠0→Region.ready .any ops listed≠[]:=by
  intro listed hsz hu he
  obtain⟨j,h1,h2,h3⟩:=vD _ hu
  have hm:j∈Region.ready .any ops listed:=by
   rw[mem_ready]
   refine⟨?_,ops[j],Array.getElem?_eq_getElem h1,fun e he hb=>h3 e.on ?_⟩
   ·grind
   ·exact yX htmp (i:=j) (o:=ops[j]) (by simp[h1]) e (by simpa using he) hb
  grind
 intro fuel
 induction fuel with
 | zero=>
  intro listed c a w hsz hu hc hdc hr
  have h0:unl (fun j=>listed.getD j false) ops.size=0:=by omega
  refine⟨?_,fin listed c a w h0 hc hr⟩
  cases hre:Region.ready .any ops listed with
  | nil=>rfl
  | cons i l=>
   exfalso
   have hm:i∈Region.ready .any ops listed:=by rw[hre];simp
   grind[mem_ready,hi,Array.getElem?_eq_some_iff,jZ,Array.getD_eq_getD_getElem?,Array.getElem?_eq_getElem]
 | succ fuel ih=>
  intro listed c a w hsz hu hc hdc hr
  refine⟨fun hre=>?_,fun i hm=>?_⟩
  ·by_cases h0:unl (fun j=>listed.getD j false) ops.size=0
   ·exact fin listed c a w h0 hc hr
   grind
  ·rw[mem_ready] at hm
   obtain⟨h1,o,ho,hp⟩:=hm
   have hi:i<ops.size:=(Array.getElem?_eq_some_iff.1 ho).1
   have hil:i<listed.size:=by omega
   have hLi:listed.getD i false=false:=by
    grind
   have hol:ops.toList[i]? = some o:=by simpa using ho
   have hL':∀j,(listed.setIfInBounds i true).getD j false=(listed.getD j false||j==i):=by
    intro j
    by_cases hji:j=i
    ·subst hji;simp[hil]
    ·have:(j==i)=false:=by rw[beq_eq_false_iff_ne];exact hji
     rw[this,Bool.or_false,getD_set_ne false (Ne.symm hji)]
   obtain⟨c',hstep,hc'⟩:=Jz hrun hobj htmp (L:=fun j=>listed.getD j false) (L':=fun j=>(listed.setIfInBounds i true).getD j false) hc hdc hol hLi (fun e he hb=>hp e (by simpa using he) hb) hL'
   refine yh hΓ ho hr hstep fun a' w' hr'=>ih _ c' a' w' (by simpa using hsz) ?_ hc' ?_ hr'
   ·have:=ZK (L:=fun j=>listed.getD j false) (L':=fun j=>(listed.setIfInBounds i true).getD j false) hL' hLi ops.size hi
    omega
   ·intro j o' hj ho' e he hb
    have hj':(listed.setIfInBounds i true).getD j false=true:=hj
    show (listed.setIfInBounds i true).getD e.on false=true
    rw[hL'] at hj' ⊢
    simp only[Bool.or_eq_true,beq_iff_eq] at hj' ⊢
    rcases hj' with hj | rfl
    ·exact .inl (hdc j o' hj ho' e he hb)
    grind
theorem Kx (hΓ:GammaOk κ.P Γ) (hm:κ.P.follows .mixedOrders=true) (htmp:tmpsOk ops.toList=true) {st st':St} {id:Nat} {a:Act} {w:World} {Q:Exit→Act→World→Prop}
  (hx:vd Γ κ.P ops.toList st=some st') (h:Rel κ st a w) (hQ:∀a w,Rel κ st' a w→Q .normal a w):(Code.region id ops true).wp κ.P Q a w:=by
 unfold vd at hx
 split at hx
 ·rename_i st1 h1
  simp only at hx
  split at hx
  ·rename_i rs stn hd
   split at hx
   ·rename_i hobj
    injection hx with hx;subst hx
    obtain⟨ι,h⟩:=h
    have h0:=To.rel h (To.freezes h ((st.o.map (·.1)).filter fun s=>!zu st.o s&&zu st1.o s))
    refine wp_region_any hm ?_
    refine XH hΓ hd hobj htmp hQ ops.size _ _ a _ (by simp) ?_ ⟨rfl,fun t=>?_,fun s=>?_,rfl⟩ ?_ ⟨ι,?_⟩
    ·have:∀(L:Nat→Bool) n,unl L n≤n:=by
      intro L n
      induction n with
      | zero=>exact Nat.le_refl _
      | succ n ih=>grind[unl]
     exact this _ _
    ·have e:∀(f:Nat→Option V) x n,qj (fun j=>(Array.replicate ops.size false).getD j false) f x n=x:=by
      intro f x n
      induction n with
      | zero=>rfl
      | succ n ih=>
       have:(Array.replicate ops.size false).getD n false=false:=by simp[Array.getElem?_replicate];split<;>rfl
       grind[qj]
     grind
    ·have e:∀(f:Nat→Option Ob) x n,qj (fun j=>(Array.replicate ops.size false).getD j false) f x n=x:=by
      intro f x n
      induction n with
      | zero=>rfl
      | succ n ih=>
       have:(Array.replicate ops.size false).getD n false=false:=by simp[Array.getElem?_replicate];split<;>rfl
       grind[qj]
     grind
    ·intro j o hj
     have:(Array.replicate ops.size false).getD j false=false:=by simp[Array.getElem?_replicate];split<;>rfl
     grind
    ·have hd:=To.drew h0 (w':={ w with drawn:=w.drawn+1 }) rfl rfl rfl rfl
     have:=h0.set (dst:=none) (v:=.undef) (cv:=undef) hd rfl (.undef _)
     grind[Act.put]
   ·cases hx
  ·cases hx
 ·cases hx
theorem draw_okZ (hΓ:GammaOk κ.P Γ) (hm:κ.P.follows .mixedOrders=true) (htmp:tmpsOk ops.toList=true) {st st':St} {id:Nat} {a:Act} {w:World} {Q:Exit→Act→World→Prop} (Z:List Nat) {rs:List Rec}
  (hd:drun Γ κ.P ops.toList ops.toList { st with o:=st.o.freezes Z }=some (rs,st')) (hobj:objsOk ops.toList rs=true) (h:Rel κ st a w) (hQ:∀a w,Rel κ st' a w→Q .normal a w):(Code.region id ops true).wp κ.P Q a w:=by
 obtain⟨ι,h⟩:=h
 have h0:=To.rel h (To.freezes h Z)
 refine wp_region_any hm ?_
 refine XH hΓ hd hobj htmp hQ ops.size _ _ a _ (by simp) ?_ ⟨rfl,fun t=>?_,fun s=>?_,rfl⟩ ?_ ⟨ι,?_⟩
 ·have:∀(L:Nat→Bool) n,unl L n≤n:=by
   intro L n
   induction n with
   | zero=>exact Nat.le_refl _
   | succ n ih=>grind[unl]
  exact this _ _
 ·have e:∀(f:Nat→Option V) x n,qj (fun j=>(Array.replicate ops.size false).getD j false) f x n=x:=by
   intro f x n
   induction n with
   | zero=>rfl
   | succ n ih=>
    have:(Array.replicate ops.size false).getD n false=false:=by simp[Array.getElem?_replicate];split<;>rfl
    grind[qj]
  grind
 ·have e:∀(f:Nat→Option Ob) x n,qj (fun j=>(Array.replicate ops.size false).getD j false) f x n=x:=by
   intro f x n
   induction n with
   | zero=>rfl
   | succ n ih=>
    have:(Array.replicate ops.size false).getD n false=false:=by simp[Array.getElem?_replicate];split<;>rfl
    grind[qj]
  grind
 ·intro j o hj
  have:(Array.replicate ops.size false).getD j false=false:=by simp[Array.getElem?_replicate];split<;>rfl
  grind
 ·have hd:=To.drew h0 (w':={ w with drawn:=w.drawn+1 }) rfl rfl rfl rfl
  have:=h0.set (dst:=none) (v:=.undef) (cv:=undef) hd rfl (.undef _)
  grind[Act.put]
end
end Go.Abs
