/- What comes in, as Lean's own values. -/
import Derived.Test.YtigfokfefnomjaaGreatExtK
import Derived.Test.YtigfokfefnomjaaGreatAbsY
import Derived.OpenShut
import Derived.ShutString
import Derived.ChangeOld
import Derived.ChangeArms
import Derived.ChangeShapes
import Derived.WideShapes
import Derived.ChangeMaps5
import Derived.RowKit
import Derived.Below
namespace Go.Abs
open Go.RowKit Go.ChangeShapes Go.WideShapes
set_option linter.unusedVariables false
set_option linter.unusedSimpArgs false
def isF (P:Program) (rec:TypeId→Ty→Bool):List Field→Nat→Ty→Bool
 | [],_,ty=>decide (ty=.unit)
 | [f],off,ty=>decide (f.offset=off)&&rec f.type ty&&decide (P.cellsOf f.type=ty.size)
 | f::g::r,off,ty=>match ty with
  | .pair a b=>decide (f.offset=off)&&rec f.type a&&decide (P.cellsOf f.type=a.size)&&isF P rec (g::r) (off+a.size) b
  | _=>false
def Jl (rec:TypeId→Ty→Bool) (u:TypeId) (sz:Nat):Nat→Ty→Bool
 | 0,ty=>decide (ty=.unit)
 | 1,ty=>rec u ty&&decide (sz=ty.size)
 | m+2,ty=>match ty with
  | .pair a b=>rec u a&&decide (sz=a.size)&&Jl rec u sz (m+1) b
  | _=>false
def isT (P:Program):Nat→TypeId→Ty→Bool
 | 0,_,_=>false
 | n+1,t,ty=>match P.underlying t with
  | some .bool=>decide (ty=.bool)
  | some (.int k)=>decide (ty=.int k)
  | some .string=>decide (ty=.str)
  | some (.slice u)=>match ty with
   | .list e=>isT P n u e&&decide (P.cellsOf u=e.size)
   | _=>false
  | some (.struct fs)=>match ty with
   | .agg a=>isF P (isT P n) fs.toList 0 a&&decide (P.cellsOf t=a.size)
   | _=>false
  | some (.array m u)=>match ty with
   | .agg a=>Jl (isT P n) u (P.cellsOf u) m a&&decide (P.cellsOf t=a.size)
   | _=>false
  | _=>false
def Twf:(ty:Ty)→ty.I→Prop
 | .int k,n=>k.min≤n∧n≤k.max
 | .bool,_=>True
 | .str,s=>s.length≤maxLen
 | .list e,l=>l.length≤maxLen∧∀x∈l,Twf e x
 | .unit,_=>True
 | .pair a b,x=>Twf a x.1∧Twf b x.2
 | .agg t,x=>Twf t x
 | .alt _ _ _,_=>True
 | .alt1 _ _,_=>True
 | .inil,_=>True
section
variable {H : Type} {enc : TypeId × Value → H} {P : Program} {W : World} {spare : Nat → Bool} {held : Bool}
abbrev Old (W:World):Addr→Prop:=fun p=>p.block<W.heap.size
theorem trod_rp:∀(n:Nat) (t:TypeId) (ty:Ty) (fuel:Nat) (cs:List Value) (x:DataW H×List MemPlace),isT P n t ty=true→DataW.trod enc P W 0 spare held fuel t cs=some x→
  ∃y:ty.I,LR (Rp (Old W) W) (cellsV ty y) cs∧Twf ty y
 | 0,t,ty,fuel,cs,x,ht,h=>by simp[isT] at ht
 | n+1,t,ty,fuel,cs,x,ht,h=>by
  have ih:=trod_rp n
  simp only[isT] at ht
  split at ht
  ·rename_i hu
   simp only[decide_eq_true_eq] at ht;subst ht
   obtain⟨b,rfl,_⟩:=DataW.trod_bool hu h
   exact⟨b,.cons (.bool b) .nil,trivial⟩
  ·rename_i k hu
   simp only[decide_eq_true_eq] at ht;subst ht
   obtain⟨m,rfl,_,hw⟩:=DataW.trod_int hu h
   simp only[Lit.wf,Bool.and_eq_true,decide_eq_true_eq] at hw
   exact⟨m,.cons (.int k m) .nil,hw⟩
  ·rename_i hu
   simp only[decide_eq_true_eq] at ht;subst ht
   obtain⟨s,rfl,_,hs⟩:=DataW.trod_string hu h
   exact⟨s.data.toList,.cons (.str s _ rfl) .nil,by simp_all[Twf,Array.length_toList]⟩
  ·rename_i u hu
   split at ht
   ·rename_i e
    simp only[Bool.and_eq_true,decide_eq_true_eq] at ht
    obtain⟨hte,hsz⟩:=ht
    rcases DataW.trod_slice hu h with⟨rfl,_⟩ | ⟨a,len,cap,elems,rest,m,_,rfl,_,_,hl,hm,hlen,hel,_,_⟩
    ·exact⟨[],.cons .slz .nil,by simp[Twf]⟩
    ·-- element by element
     have key:∀k,k≤len→∃(l:List e.I) (vs:List Value),l.length=k∧vs.length=k*e.size∧LR (Rp (Old W) W) (l.flatMap (cellsV e)) vs∧
       (∀(j:Nat) (v:Value),vs[j]? = some v→Old W (a.add j)∧W.cell? (a.add j)=some v)∧∀x∈l,Twf e x:=by
      intro k
      induction k with
      | zero=>exact fun _=>⟨[],[],rfl,by simp,by simpa using .nil,by simp,by simp⟩
      | succ k ihk=>
       intro hk
       obtain⟨l,vs,h1,h2,h3,h4,h5⟩:=ihk (by omega)
       have hi:=hel k (by omega)
       rw[List.getElem?_eq_getElem (by omega)] at hi
       obtain⟨cs',hc,hx⟩:=Option.bind_eq_some_iff.1 hi
       obtain⟨y,hy1,hy2⟩:=ih u e m cs' _ hte hx
       obtain⟨_,hcl,hcell⟩:=World.cells?_some hc
       rw[hsz] at hcl hcell
       refine⟨l++[y],vs++cs',by simp[h1],by grind,by simpa using h3.append hy1,fun j v hv=>?_,fun x hx=>?_⟩
       ·rw[List.getElem?_append] at hv
        split at hv
        ·exact h4 j v hv
        ·rename_i hj
         rw[h2] at hj hv
         have hlt:j-k*e.size<e.size:=by grind
         have:=hcell _ hlt
         (rw[hv,add_add,show k*e.size+(j-k*e.size)=j from by omega] at this<;>grind[add_add,World.cell?,Array.getElem?_eq_none])
       grind
     obtain⟨l,vs,h1,h2,h3,h4,h5⟩:=key len (Nat.le_refl _)
     subst h1
     exact⟨l,.cons (.sl hl h4 h3.1 h3.2) .nil,by grind[Twf]⟩
   ·cases ht
  ·rename_i fs hu
   split at ht
   ·rename_i a
    simp only[Bool.and_eq_true,decide_eq_true_eq] at ht
    obtain⟨htf,hsz⟩:=ht
    obtain⟨xs,m,_,_,hcl,hxl,hel⟩:=DataW.trod_struct hu h
    have key:∀(l:List Field) (off i0:Nat) (ty:Ty),isF P (isT P n) l off ty=true→(∀(i:Nat) (f:Field),l[i]? = some f→fs[i0+i]? = some f)→cs.length=off+ty.size→
      ∃y:ty.I,LR (Rp (Old W) W) (cellsV ty y) (cs.drop off)∧Twf ty y:=by
     intro l
     induction l with
     | nil=>
      intro off i0 ty hF hfs hl
      simp only[isF,decide_eq_true_eq] at hF
      subst hF
      refine⟨(),?_,trivial⟩
      have:cs.drop off=[]:=List.drop_eq_nil_of_le (by grind[Ty.size])
      rw[this];exact .nil
     | cons f r ihl=>
      intro off i0 ty hF hfs hl
      have hf0:=hfs 0 f rfl
      cases r with
      | nil=>
       simp only[isF,Bool.and_eq_true,decide_eq_true_eq] at hF
       grind[Array.getElem?_eq_some_iff,List.getElem?_eq_getElem,List.take_of_length_le]
      | cons g r=>
       simp only[isF] at hF
       split at hF
       ·rename_i a b
        simp only[Bool.and_eq_true,decide_eq_true_eq] at hF
        obtain⟨⟨⟨e1,e2⟩,e3⟩,e4⟩:=hF
        have hx:=hel _ f hf0
        have hlt:i0+0<xs.length:=by grind
        rw[List.getElem?_eq_getElem hlt] at hx
        obtain⟨y,h1,h2⟩:=ih f.type a m _ _ e2 hx
        obtain⟨z,h3,h4⟩:=ihl (off+a.size) (i0+1) b e4 (fun i f' hf'=>by
         have:=hfs (i+1) f' hf'
         grind) (by grind[Ty.size])
        refine⟨(y,z),?_,h2,h4⟩
        rw[e1,e3] at h1
        have:=h1.append h3
        rw[←List.drop_drop,List.take_append_drop] at this
        exact this
       ·cases hF
    obtain⟨y,h1,h2⟩:=key fs.toList 0 0 a htf (fun i f hf=>by grind) (by omega)
    exact⟨y,h1,h2⟩
   ·cases ht
  ·rename_i m u hu
   split at ht
   ·rename_i a
    simp only[Bool.and_eq_true,decide_eq_true_eq] at ht
    obtain⟨hta,hsz⟩:=ht
    obtain⟨xs,q,_,_,hcl,hxl,hel⟩:=DataW.trod_array hu h
    have key:∀(k i0:Nat) (ty:Ty),Jl (isT P n) u (P.cellsOf u) k ty=true→i0+k=m→cs.length=i0*P.cellsOf u+ty.size→
      ∃y:ty.I,LR (Rp (Old W) W) (cellsV ty y) (cs.drop (i0*P.cellsOf u))∧Twf ty y:=by
     intro k
     induction k with
     | zero=>
      intro i0 ty hA hk hl
      simp only[Jl,decide_eq_true_eq] at hA
      subst hA
      refine⟨(),?_,trivial⟩
      have:cs.drop (i0*P.cellsOf u)=[]:=List.drop_eq_nil_of_le (by grind[Ty.size])
      rw[this];exact .nil
     | succ k ihk=>
      intro i0 ty hA hk hl
      have hx:=hel i0 (by omega)
      rw[List.getElem?_eq_getElem (by omega)] at hx
      cases k with
      | zero=>
       simp only[Jl,Bool.and_eq_true,decide_eq_true_eq] at hA
       grind[List.take_of_length_le]
      | succ k=>
       simp only[Jl] at hA
       split at hA
       ·rename_i a b
        simp only[Bool.and_eq_true,decide_eq_true_eq] at hA
        obtain⟨⟨e1,e2⟩,e3⟩:=hA
        obtain⟨y,h1,h2⟩:=ih u a q _ _ e1 hx
        obtain⟨z,h3,h4⟩:=ihk (i0+1) b e3 (by omega) (by grind[Ty.size])
        refine⟨(y,z),?_,h2,h4⟩
        have:=h1.append h3
        rw[show (i0+1)*P.cellsOf u=i0*P.cellsOf u+P.cellsOf u from Nat.succ_mul _ _,←List.drop_drop,List.take_append_drop] at this
        exact this
       ·cases hA
    obtain⟨y,h1,h2⟩:=key m 0 a hta (by omega) (by omega)
    exact⟨y,by rw[Nat.zero_mul] at h1;exact h1,h2⟩
   ·cases ht
  ·cases ht
theorem arg_ok {base:Nat} {n:Nat} {t:TypeId} {ty:Ty} {v:Value} {d:DataW H} {p:List MemPlace} (ht:isT P n t ty=true) (hval:Value.okWide P W .any base t v) (h:DataW.Trod enc P W 0 spare held t v d p):
  ∃y:ty.I,Rp (Old W) W (valW ty y) v∧Twf ty y:=by
 obtain⟨fuel,hf⟩:=h
 obtain⟨y,h1,h2⟩:=trod_rp n t ty fuel _ _ ht hf
 refine⟨y,?_,h2⟩
 cases n with
 | zero=>simp[isT] at ht
 | succ n=>
  simp only[isT] at ht
  split at ht
  ·rename_i hu
   simp only[decide_eq_true_eq] at ht;subst ht
   obtain⟨b,rfl⟩:=okWide_bool hu hval
   exact .bs (h1.2 0 _ _ rfl rfl)
  ·rename_i k hu
   simp only[decide_eq_true_eq] at ht;subst ht
   obtain⟨m,rfl⟩:=okWide_int hu hval
   exact h1.2 0 _ _ rfl rfl
  ·rename_i hu
   simp only[decide_eq_true_eq] at ht;subst ht
   obtain⟨s,rfl⟩:=okWide_string hu hval
   exact h1.2 0 _ _ rfl rfl
  ·rename_i u hu
   split at ht
   ·rename_i e
    obtain⟨a,len,cap,rfl⟩:=okWide_slice hu hval
    exact .lst (h1.2 0 _ _ rfl rfl)
   ·cases ht
  ·rename_i fs hu
   split at ht
   ·rename_i a
    simp only[Value.okWide,hu] at hval
    obtain⟨cs,rfl,_⟩:=hval
    have h3:=cellsW_rp (.agg a) y _ h1
    exact .agg h3.1 h3.2
   ·cases ht
  ·rename_i m u hu
   split at ht
   ·rename_i a
    simp only[Value.okWide,hu] at hval
    obtain⟨cs,rfl,_⟩:=hval
    have h3:=cellsW_rp (.agg a) y _ h1
    exact .agg h3.1 h3.2
   ·cases ht
  ·cases ht
end
theorem yB (t:Nat):¬(tabU [] []).live t:=fun h=>h.elim
theorem law_of {P:Program} {f:FuncId} {args:List V} (hs:Spec P f args [] (.bs true) [] []) (w:World) (cargs:Array Value) (hr:LR (Rp (Old w) w) args cargs.toList):
  Calls P f cargs w fun e w'=>e=.returned (.bool true)∧Below w.heap.size w w':=by
 have htr:TR (Old w) (tabU [] []) (fun _=>0) w:=⟨fun t=>trivial,fun t u ht=>absurd ht (yB t),fun t ht=>absurd ht (yB t)⟩
 refine(hs w cargs (fun _=>0) (Old w) htr (hr.mono fun d u hd=>.pure (hd.mono fun p hp=>⟨⟨hp,hp,fun t ht=>absurd ht (yB t)⟩,rfl⟩))).mono fun e w'=>?_
 rintro⟨v,β',rfl,hk,_,hv,_⟩
 refine⟨?_,(hk.mono (Y:=fun _=>False) fun k _ ⟨t,ht,_⟩=>ht).below⟩
 rw[hv.bs_]
theorem wr_i64 {z:Int} (h:-9223372036854775808≤z) (h2:z≤9223372036854775807):wr .i64 z=z:=by
 grind[lo,hi,wr]
theorem wr_u8 {z:Int} (h:0≤z) (h2:z≤255):wr .u8 z=z:=by
 grind[lo,hi,wr]
theorem dT {p:Prop} [Decidable p] (h:p):decide p=true:=decide_eq_true h
theorem dF {p:Prop} [Decidable p] (h:¬p):decide p=false:=decide_eq_false h
theorem cnd_t {α:Type} {x y:α}:cnd true x y=x:=id rfl
theorem cnd_f {α:Type} {x y:α}:cnd false x y=y:=id rfl
theorem obind_s {α β:Type} {a:α} {f:α→Option β}:obind (some a) f=f a:=id rfl
theorem selim_l {α β γ:Type} {f:α→γ} {g:β→γ} {a:α}:selim f g (.inl a)=f a:=id rfl
theorem selim_r {α β γ:Type} {f:α→γ} {g:β→γ} {b:β}:selim f g (.inr b)=g b:=id rfl
theorem loopN_run {σ ρ:Type} {f:σ→Option (σ⊕ρ)} (I:σ→Prop) (m:σ→Nat) (J:ρ→Prop)
  (hs:∀x,I x→(∃y,f x=some (.inl y)∧I y∧m y<m x)∨∃r,f x=some (.inr r)∧J r):∀(N:Nat) (x:σ),I x→m x<N→∃r,loopN N f x=some r∧J r
 | 0,x,_,h=>by omega
 | N+1,x,hx,h=>by
  rcases hs x hx with⟨y,h1,h2,h3⟩ | ⟨r,h1,h2⟩
  ·obtain⟨r,h4,h5⟩:=loopN_run I m J hs N y h2 (by omega)
   grind[loopN]
  grind[loopN]
theorem obind_loop {σ ρ β:Type} {f:σ→Option (σ⊕ρ)} {k:ρ→Option β} {x:σ} {N:Nat} {res:Option β} (I:σ→Prop) (m:σ→Nat) (J:ρ→Prop) (hx:I x) (hm:m x<N) (hk:∀r,J r→k r=res)
  (hs:∀x,I x→(∃y,f x=some (.inl y)∧I y∧m y<m x)∨∃r,f x=some (.inr r)∧J r):obind (loopN N f x) k=res:=by
 obtain⟨r,h1,h2⟩:=loopN_run I m J hs N x hx hm
 rw[h1];exact hk r h2
theorem law_of2 {P:Program} {f:FuncId} {args:List V} (hs:Spec2 P f args [] (.bs true) [] []) (w:World) (cargs:Array Value) (hr:LR (Rp (Old w) w) args cargs.toList):
  Calls P f cargs w fun e w'=>e=.returned (.bool true)∧Below w.heap.size w w':=law_of (y9 hs rfl rfl) w cargs hr
theorem clone_split {P:Program} {f:FuncId} {e:Ty} {ty:Nat} {l r:List e.I} (hA:Spec2 P f [.snil] [] (.acc 2000000 0) [] [.nrow ty false true ⟨e,[]⟩]) (hB:Spec2 P f [.nl ⟨e,l⟩] [] (.acc 2000000 0) [] [.nrow ty false true ⟨e,r⟩]) (hr:l=[]→r=[]):
  Spec2 P f [.lst ⟨e,l⟩] [] (.acc 2000000 0) [] [.nrow ty false true ⟨e,r⟩]:=by
 intro w cargs β S htr hargs
 obtain⟨v,us,ev,hv,hn⟩:=hargs.head
 have:us=[]:=List.eq_nil_of_length_eq_zero hn.1.symm
 subst this
 have hp:Rp (Stable S (tabU [] []) β w) w (.lst ⟨e,l⟩) v:=by cases hv with | pure h=>exact h
 have key:∀n cells,Rp (Stable S (tabU [] []) β w) w (.sl n cells) v→(v=.slice none 0 0∧n=0)∨∃a c,v=.slice (some a) n c:=fun n cells h=>by
  (cases h<;>grind)
 have hp2:=hp
 cases hp2 with
 | lst h=>
  rcases key _ _ h with⟨rfl,h0⟩ | ⟨a,c,rfl⟩
  ·have hl:l=[]:=List.eq_nil_of_length_eq_zero h0
   have hr':=hr hl
   subst hr'
   exact hA w cargs β S htr (by rw[ev];exact .cons (.pure .snil) .nil)
  ·exact hB w cargs β S htr (by rw[ev];exact .cons (.pure (.nl hp)) .nil)
def Jb (a:Int):List Int→List Int
 | []=>[a]
 | b::r=>if a≤b then a::b::r else b::Jb a r
def srt:List Int→List Int
 | []=>[]
 | a::r=>Jb a (srt r)
theorem xr (a:Int):∀l:List Int,(Jb a l).Perm (a::l)
 | []=>.refl _
 | b::r=>by
  unfold Jb
  split
  ·exact .refl _
  ·exact((xr a r).cons b).trans (.swap a b r)
theorem y7:∀l:List Int,(srt l).Perm l
 | []=>.refl _
 | a::r=>(xr a (srt r)).trans ((y7 r).cons a)
theorem ZL (a:Int):∀l:List Int,l.Pairwise (·≤·)→(Jb a l).Pairwise (·≤·)
 | [],_=>List.pairwise_singleton _ _
 | b::r,h=>by
  have hp:=List.pairwise_cons.1 h
  unfold Jb
  split
  ·rename_i c
   refine List.pairwise_cons.2 ⟨fun x hx=>?_,h⟩
   rcases List.mem_cons.1 hx with e | e
   ·rw[e];exact c
   ·exact Int.le_trans c (hp.1 x e)
  ·rename_i c
   refine List.pairwise_cons.2 ⟨fun x hx=>?_,ZL a r hp.2⟩
   rcases List.mem_cons.1 ((xr a r).mem_iff.1 hx) with e | e
   ·omega
   ·exact hp.1 x e
theorem J4:∀l:List Int,(srt l).Pairwise (·≤·)
 | []=>List.Pairwise.nil
 | a::r=>ZL a _ (J4 r)
theorem srt_eq (l:List Int):srt l=l.mergeSort fun a b=>decide (a≤b):=by
 refine List.Perm.eq_of_pairwise (le:=(·≤·)) (fun a b _ _ h1 h2=>Int.le_antisymm h1 h2) (J4 l) ?_ ((y7 l).trans (List.mergeSort_perm l _).symm)
 have h:=List.pairwise_mergeSort (le:=fun a b:Int=>decide (a≤b)) (fun a b c h1 h2=>by grind) (fun a b=>by grind) l
 grind
end Go.Abs
