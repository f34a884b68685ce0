/- NodeDown: for all arguments the call returns true. The law is brought to a function of Lean's own (W_..) by the machine of the texts beside it, and that is reckoned; no condition. -/
import Derived.Test.YtgpgmncgbebgdaaGreatNodeDownW1
namespace Go.Proofs.YtgpgmncgbebgdaaGreat.nodeDownX
open Go.Abs Go.RowKit Go.ChangeShapes Go.WideShapes Go.ChangeAt
set_option maxRecDepth 100000
set_option linter.unusedVariables false
set_option linter.unusedSimpArgs false
noncomputable section
/-! What is reckoned. -/
-- PURE
theorem wr_m {z:Int} (h:-140737488355328≤z) (h2:z≤140737488355328):wr .i64 z=z:=wr_i64 (by omega) (by omega)
theorem wr_s {z:Int} (h:0≤z) (h2:z≤140737488355328):wr .i64 z=z:=wr_i64 (by omega) (by omega)
theorem cnd_T {α:Type} {p:Prop} {i:Decidable p} {x y:α} (h:p):cnd (@decide p i) x y=x:=by rw[decide_eq_true h];rfl
theorem cnd_F {α:Type} {p:Prop} {i:Decidable p} {x y:α} (h:¬p):cnd (@decide p i) x y=y:=by rw[decide_eq_false h];rfl
theorem loopG {σ ρ:Type} {f:σ→Option (σ⊕ρ)} (I:Nat→σ→Prop) (B:Nat) (J:ρ→Prop) (hb:∀k x,I k x→k≤B) (hs:∀k x,I k x→(∃y,f x=some (.inl y)∧I (k+1) y)∨∃r,f x=some (.inr r)∧J r):
    ∀(M k:Nat) (x:σ),I k x→B<M+k→∃r,loopN M f x=some r∧J r
  | 0,k,x,h,hm=>by have:=hb k x h;omega
  | M+1,k,x,h,hm=>by
    rcases hs k x h with⟨y,h1,h2⟩ | ⟨r,h1,h2⟩
    · obtain⟨r,h4,h5⟩:=loopG I B J hb hs M (k+1) y h2 (by omega)
      exact⟨r,by simp only[loopN,h1];exact h4,h5⟩
    · exact⟨r,by simp only[loopN,h1],h2⟩
theorem loop_G {σ ρ β:Type} {f:σ→Option (σ⊕ρ)} {g:ρ→Option β} {x:σ} {N:Nat} (Q:Option β→Prop) (I:Nat→σ→Prop) (B:Nat) (J:ρ→Prop) (hx:I 0 x) (hm:B<N) (hk:∀r,J r→Q (g r)) (hb:∀k x,I k x→k≤B)
    (hs:∀k x,I k x→(∃y,f x=some (.inl y)∧I (k+1) y)∨∃r,f x=some (.inr r)∧J r):Q (obind (loopN N f x) g):=by
  obtain⟨r,h1,h2⟩:=loopG I B J hb hs N 0 x hx (by omega)
  rw[h1];exact hk r h2
theorem tm (x k:Int) (h:0≤x):Int.tmod x k=x % k:=Int.tmod_eq_emod_of_nonneg h
abbrev Kd:=Int×Int×Int
abbrev kD:Kd:=((0:Int),(0:Int),(0:Int))
abbrev Ms:=Int×Int×Int×Int×Int×Int×List Int×Int×Int×List UInt8
abbrev TT:=Int×Int×Int×Int×Int×Int×List Int×Int×Int×Int×Int×Int×List Kd
theorem drop_consK {l:List Kd} {i:Nat} (h:i<l.length):l.drop i=l.getD i kD::l.drop (i+1):=by
  rw[List.drop_eq_getElem_cons h,List.getD_eq_getElem?_getD,List.getElem?_eq_getElem h];rfl
theorem getD_memK {l:List Kd} {i:Nat} (h:i<l.length):l.getD i kD∈l:=by
  rw[List.getD_eq_getElem?_getD,List.getElem?_eq_getElem h];exact List.getElem_mem h
def Kw (n:Int):List Kd→Prop
  | []=>True
  | w::r=>n≤w.1∧w.1≤8∧Kw (w.1+1) r
theorem Kw.mono:∀{l:List Kd} {n n':Int},Kw n l→n'≤n→Kw n' l
  | [],_,_,_,_=>trivial
  | w::r,n,n',h,h1=>⟨by have:=h.1;omega,h.2.1,h.2.2⟩
theorem Kw.len:∀{l:List Kd} {n:Int},Kw n l→n≤9→(l.length:Int)≤9-n
  | [],_,_,_=>by simp;omega
  | w::r,n,h,h1=>by
    have:=h.2.2.len (by have:=h.2.1;omega)
    have:=h.1
    simp only[List.length_cons];omega
theorem Kw.mem:∀{l:List Kd} {n:Int},Kw n l→∀w∈l,n≤w.1∧w.1≤8
  | [],_,_,_,h=>by simp at h
  | x::r,n,h,w,hw=>by
    rcases List.mem_cons.1 hw with rfl | hw
    · exact⟨h.1,h.2.1⟩
    · have:=h.2.2.mem w hw;have:=h.1;omega
theorem Kw.filter (p:Kd→Bool):∀{l:List Kd} {n:Int},Kw n l→Kw n (l.filter p)
  | [],_,_=>trivial
  | w::r,n,h=>by
    rw[List.filter_cons]
    split
    · exact⟨h.1,h.2.1,Kw.filter p h.2.2⟩
    · exact(Kw.filter p h.2.2).mono (by have:=h.1;omega)
theorem Kw.drop:∀{l:List Kd} {n:Int},Kw n l→∀k,Kw n (l.drop k)
  | l,_,h,0=>by simpa using h
  | [],_,_,k+1=>by simp;trivial
  | w::r,n,h,k+1=>(h.2.2.drop k).mono (by have:=h.1;omega)
def findK:List Kd→Int→Bool×Kd
  | [],_=>(false,kD)
  | w::r,s=>if w.1=s then(true,w) else findK r s
theorem findK_none:∀{l:List Kd} {n:Int},Kw n l→∀s,s<n→findK l s=(false,kD)
  | [],_,_,_,_=>rfl
  | w::r,n,h,s,hs=>by
    have:=h.1
    simp only[findK]
    rw[if_neg (by omega)]
    exact findK_none h.2.2 s (by omega)
def insNK (x:Int):List Kd→Nat
  | []=>0
  | w::r=>if x≤w.1 then 0 else insNK x r+1
def putK (k:Kd):List Kd→List Kd
  | []=>[k]
  | w::r=>if w.1=k.1 then k::r else if k.1<w.1 then k::w::r else w::putK k r
theorem insNK_le (x:Int):∀l,insNK x l≤l.length
  | []=>by simp[insNK]
  | w::r=>by
    simp only[insNK,List.length_cons]
    have:=insNK_le x r
    split<;>omega
theorem Kw.put:∀{l:List Kd} {n:Int} {k:Kd},Kw n l→n≤k.1→k.1≤8→Kw n (putK k l)
  | [],_,_,_,h1,h2=>⟨h1,h2,trivial⟩
  | w::r,n,k,h,h1,h2=>by
    simp only[putK]
    by_cases c:w.1=k.1
    · rw[if_pos c];exact⟨h1,h2,by rw[←c];exact h.2.2⟩
    · rw[if_neg c]
      by_cases c2:k.1<w.1
      · rw[if_pos c2];exact⟨h1,h2,by omega,h.2.1,h.2.2⟩
      · rw[if_neg c2];exact⟨h.1,h.2.1,h.2.2.put (by omega) h2⟩
theorem putK_mem (k:Kd):∀(l:List Kd) (w:Kd),w∈putK k l→w=k∨w∈l
  | [],w,h=>by simp[putK] at h;exact .inl h
  | y::r,w,h=>by
    simp only[putK] at h
    split at h
    · rcases List.mem_cons.1 h with h | h
      · exact .inl h
      · exact .inr (by simp[h])
    · split at h
      · rcases List.mem_cons.1 h with h | h
        · exact .inl h
        · exact .inr h
      · rcases List.mem_cons.1 h with h | h
        · exact .inr (by simp[h])
        · rcases putK_mem k r w h with h | h
          · exact .inl h
          · exact .inr (by simp[h])
theorem seek_eq (N:Nat) (hN:2000≤N) (l:List Kd) (s n:Int) (hw:Kw n l) (hl:l.length≤1000):W_R N (l,s)=some (if (findK l s).1=true then .inl ((insNK s l:Int),(findK l s).2) else .inr (insNK s l:Int)):=by
  unfold W_R V_R
  try simp only
  refine loop_G (N:=N) (fun o=>o=some (if (findK l s).1=true then(.inl ((insNK s l:Int),(findK l s).2):(Int×Kd)⊕Int) else .inr (insNK s l:Int))) (fun k (v:Int)=>v=k∧k≤l.length∧findK (l.drop k) s=findK l s∧insNK s (l.drop k)+k=insNK s l) l.length
    (fun r:PUnit⊕(Int×Kd)⊕Int=>(r=.inl ()∧(findK l s).1=false∧insNK s l=l.length)∨(r=.inr (if (findK l s).1=true then(.inl ((insNK s l:Int),(findK l s).2):(Int×Kd)⊕Int) else .inr (insNK s l:Int)))) ⟨rfl,by omega,rfl,by simp⟩ (by omega) ?_ (fun k v h=>h.2.1) ?_
  · rintro r (⟨rfl,h,h2⟩ | rfl)
    · rw[selim_l,h,if_neg (by simp),h2]
    · rw[selim_r]
  · rintro k v ⟨e,hk,hg,hi⟩
    subst e
    by_cases c:(k:Int)<l.length
    case neg=>
      right
      rw[dF c,cnd_f]
      rw[List.drop_eq_nil_of_le (by omega)] at hg hi
      exact⟨_,rfl,.inl ⟨rfl,by rw[←hg];rfl,by simp only[insNK] at hi;omega⟩⟩
    have hwd:=hw.drop k
    rw[drop_consK (by omega)] at hg hi hwd
    simp only[findK,insNK] at hg hi
    rw[dT c,cnd_t,dT (by omega),Bool.and_self,cnd_t,Int.toNat_natCast]
    by_cases c2:(l.getD k kD).1=s
    · right
      rw[if_pos c2] at hg
      rw[if_pos (by omega)] at hi
      rw[dT c2,cnd_t]
      refine⟨_,rfl,.inr ?_⟩
      rw[←hg,if_pos rfl,←hi]
      simp
    rw[if_neg c2] at hg
    rw[dF c2,cnd_f]
    by_cases c3:s<(l.getD k kD).1
    · right
      rw[if_pos (by omega)] at hi
      rw[dT c3,cnd_t]
      have:=findK_none hwd.2.2 s (by omega)
      rw[this] at hg
      refine⟨_,rfl,.inr ?_⟩
      rw[←hg,if_neg (by simp)]
      congr 2;omega
    · left
      rw[if_neg (by omega)] at hi
      rw[dF c3,cnd_f,wr_m (by omega) (by omega)]
      exact⟨_,rfl,by omega,by omega,hg,by omega⟩
theorem find_eq (N:Nat) (hN:2000≤N) (l:List Kd) (s n:Int) (hw:Kw n l) (hl:l.length≤1000):W_n N (l,s)=some (findK l s):=by
  unfold W_n V_n
  rw[seek_eq N hN l s n hw hl,obind_s]
  have hnone:∀(l:List Kd),(findK l s).1=false→findK l s=(false,kD):=by
    intro l
    induction l with
    | nil=>intro _;rfl
    | cons w r ih=>
      intro h
      simp only[findK] at h ⊢
      split at h
      · cases h
      · rename_i q;rw[if_neg q];exact ih h
  cases h:(findK l s).1 with
  | true=>rw[if_pos rfl,selim_l,←h]
  | false=>rw[if_neg (by simp),selim_r,hnone l h]
def oldK (l:List Kd) (id inc:Int):Bool:=(findK l id).1&&decide (inc<(findK l id).2.2.1)
theorem old_eq (N:Nat) (hN:2000≤N) (l:List Kd) (s inc n:Int) (hw:Kw n l) (hl:l.length≤1000):W_A N (l,s,inc)=some (oldK l s inc):=by
  unfold W_A V_A oldK
  try simp only
  rw[find_eq N hN l s n hw hl,obind_s]
  cases h:(findK l s).1 with
  | true=>rw[cnd_t,Bool.true_and]
  | false=>rw[cnd_f,Bool.false_and]
theorem pCloneK (N:Nat) (l:List Kd) (hl:l.length≤100000000):W_f N l=some l:=by
  unfold W_f V_f
  rw[cnd_T (by omega)]
theorem pCloneN (N:Nat) (l:List Int) (hl:l.length≤100000000):W_e N l=some l:=by
  unfold W_e V_e
  rw[cnd_T (by omega)]
theorem putK_in:∀(l:List Kd) (n:Int) (k:Kd),Kw n l→(findK l k.1).1=true→insNK k.1 l<l.length∧putL l [k] (insNK k.1 l)=putK k l
  | [],_,_,_,h=>by simp[findK] at h
  | w::r,n,k,hw,h=>by
    simp only[findK] at h
    by_cases c:w.1=k.1
    · simp only[insNK,putK]
      rw[if_pos (by omega),if_pos c]
      exact⟨by simp,by simp[putL]⟩
    · rw[if_neg c] at h
      have c2:¬k.1≤w.1:=by
        intro q
        have:=findK_none hw.2.2 k.1 (by omega)
        rw[this] at h;cases h
      obtain⟨a,b⟩:=putK_in r _ k hw.2.2 h
      simp only[insNK,putK]
      rw[if_neg c2,if_neg c,if_neg (by omega),←b]
      refine⟨by simp only[List.length_cons];omega,?_⟩
      simp[putL,Nat.add_right_comm]
theorem putK_new:∀(l:List Kd) (n:Int) (k:Kd),Kw n l→(findK l k.1).1=false→List.take (insNK k.1 l) l++([k]++List.drop (insNK k.1 l) l)=putK k l
  | [],_,_,_,h=>rfl
  | w::r,n,k,hw,h=>by
    simp only[findK] at h
    by_cases c:w.1=k.1
    · rw[if_pos c] at h;cases h
    · rw[if_neg c] at h
      simp only[insNK,putK]
      rw[if_neg c]
      by_cases c2:k.1<w.1
      · rw[if_pos (by omega),if_pos c2];rfl
      · rw[if_neg (by omega),if_neg c2]
        simp only[List.take_succ_cons,List.drop_succ_cons,List.cons_append]
        rw[←putK_new r _ k hw.2.2 h];rfl
theorem hear_eq (N:Nat) (hN:2000≤N) (l:List Kd) (n:Int) (k:Kd) (hw:Kw n l) (hl:l.length≤1000):W_x N (l,k)=some (if oldK l k.1 k.2.1=true then(l,false) else(putK k l,true)):=by
  unfold W_x V_x
  try simp only
  rw[pCloneK N l (by omega),obind_s,old_eq N hN l k.1 k.2.1 n hw hl,obind_s]
  cases ho:oldK l k.1 k.2.1 with
  | true=>rw[cnd_t,if_pos rfl]
  | false=>
    rw[cnd_f,if_neg (by simp),seek_eq N hN l k.1 n hw hl,obind_s]
    have hle:=insNK_le k.1 l
    cases h:(findK l k.1).1 with
    | true=>
      obtain⟨a,b⟩:=putK_in l n k hw h
      rw[if_pos rfl,selim_l]
      try simp only
      rw[dT (by omega),dT (by omega),Bool.and_self,cnd_t,obind_s,selim_l,Int.toNat_natCast]
      try simp only
      rw[←b]
    | false=>
      rw[if_neg (by simp),selim_r,obind_s,selim_r]
      unfold W_aA
      try simp only
      rw[dT (by omega),dT (by omega),dT (by rfl),dT (by omega)]
      simp only[Bool.and_self,cnd_t,obind_s,Int.toNat_natCast]
      rw[←putK_new l n k hw h]
theorem getD_mem {l:List Int} {j:Nat} (h:j<l.length):l.getD j 0∈l:=by
  rw[List.getD_eq_getElem?_getD,List.getElem?_eq_getElem h];exact List.getElem_mem h
theorem mem_getD {l:List Int} {x:Int} (h:x∈l):∃j,j<l.length∧l.getD j 0=x:=by
  obtain⟨j,hj,e⟩:=List.getElem_of_mem h
  exact⟨j,hj,by rw[List.getD_eq_getElem?_getD,List.getElem?_eq_getElem hj];exact e⟩
theorem Index_eq (N:Nat) (l:List Int) (x:Int) (hN:l.length<N) (hl:l.length≤140737488355327):∃r,W_aN N (l,x)=some r∧(0≤r↔x∈l):=by
  unfold W_aN V_aN
  obtain ⟨r, h1, h2⟩ := loopN_run (N := N) (f := fun (v : Int) =>
      cnd (decide (v<↑(List.length (Prod.fst (l,x)))))
        (cnd (decide ((0:Int)≤v)&&decide (v<↑(List.length (Prod.fst (l,x)))))
          (cnd (decide (Prod.snd (l,x)=List.getD (Prod.fst (l,x)) (Int.toNat v) (0:Int))) (some (Sum.inr (Sum.inr v)))
            (some (Sum.inl (wr IntKind.i64 (v+(1:Int))))))
          none)
        (some (Sum.inr (Sum.inl ())))) (x:=Int.ofNat 0)
    (fun v=>0≤v∧v≤l.length∧∀j:Nat,(j:Int)<v→l.getD j 0≠x) (fun v=>l.length-v.toNat) (fun r:PUnit⊕Int=>match r with | .inl _=>x∉l | .inr k=>0≤k∧x∈l) (fun v ⟨g1,g2,g3⟩=>by
      try simp only
      by_cases h:v<l.length
      · simp only[dT h,dT g1,Bool.and_self,cnd_t]
        by_cases he:x=l.getD v.toNat 0
        · right
          rw[dT he,cnd_t]
          exact⟨_,rfl,g1,by rw[he];exact getD_mem (by omega)⟩
        · left
          rw[dF he,cnd_f,wr_s (by omega) (by omega)]
          refine⟨_,rfl,⟨by omega,by omega,fun j hj=>?_⟩,by omega⟩
          by_cases hjv:(j:Int)<v
          · exact g3 j hjv
          · have:j=v.toNat:=by omega
            subst this
            exact fun e=>he e.symm
      · right
        rw[dF h,cnd_f]
        refine⟨_,rfl,fun hm=>?_⟩
        obtain⟨j,hj,e⟩:=mem_getD hm
        exact g3 j (by omega) e) ⟨by simp,by simp,fun j hj=>by simp at hj;omega⟩ (by simp;omega)
  rw[h1,obind_s]
  cases r with
  | inl u=>exact⟨-1,rfl,by simp only at h2;simp[h2]⟩
  | inr k=>exact⟨k,rfl,by simp only at h2;simp[h2.1,h2.2]⟩
theorem Has_eq (N:Nat) (l:List Int) (x:Int) (hN:l.length<N) (hl:l.length≤140737488355327):W_0 N (l,x)=some (decide (x∈l)):=by
  obtain⟨r,h1,h2⟩:=Index_eq N l x hN hl
  unfold W_0 V_0 W_bt V_bt
  simp only[h1,obind_s]
  by_cases h:x∈l
  · rw[dT (h2.2 h),dT h]
  · rw[dF (fun e=>h (h2.1 e)),dF h]
def VP (x:List Int):Prop:=1≤x.length∧x.length≤10∧x.getD 0 0=1∧∀j,j<x.length→1≤x.getD j 0∧x.getD j 0≤8∧x.getD j 0∉x.take j
open Classical in
theorem read_eq (N:Nat) (x:List Int) (hN:12≤N):W_T N x=some (if VP x then .inl x else .inr ()):=by
  unfold W_T V_T
  by_cases h1:(x.length:Int)<1
  · rw[dT h1,cnd_t,obind_s,cnd_t,if_neg (fun h=>by have:=h.1;omega)]
  rw[dF h1,cnd_f,obind_s]
  by_cases h2:(10:Int)<x.length
  · rw[dT h2,cnd_t,if_neg (fun h=>by have:=h.2.1;omega)]
  rw[dF h2,cnd_f,dT (show (0:Int)≤0 by omega),dT (show (0:Int)<x.length by omega),Bool.and_self,cnd_t]
  by_cases h3:x.getD 0 0=1
  case neg=>rw[dT h3,cnd_t,if_neg (fun h=>h3 h.2.2.1)]
  rw[dF (by simpa using h3),cnd_f]
  refine obind_loop (fun v:Int=>0≤v∧v≤x.length∧∀j:Nat,(j:Int)<v→1≤x.getD j 0∧x.getD j 0≤8∧x.getD j 0∉x.take j) (fun v=>x.length-v.toNat)
    (fun r:PUnit⊕List Int⊕PUnit=>(r=.inl ()∧VP x)∨(r=.inr (.inr ())∧¬VP x)) ⟨by simp,by simp,fun j hj=>by simp at hj;omega⟩ (by simp;omega) ?_ ?_
  · rintro r (⟨rfl,h⟩ | ⟨rfl,h⟩)
    · rw[selim_l,if_pos h]
    · rw[selim_r,if_neg h]
  · rintro v ⟨g1,g2,g3⟩
    by_cases h:v<x.length
    · simp only[dT h,dT g1,Bool.and_self,cnd_t,dT (show v≤x.length by omega),List.drop_zero]
      have bad:¬(1≤x.getD v.toNat 0∧x.getD v.toNat 0≤8∧x.getD v.toNat 0∉x.take v.toNat)→¬VP x:=fun hb hv=>hb (hv.2.2.2 v.toNat (by omega))
      by_cases b1:x.getD v.toNat 0<1
      · right
        rw[dT b1,cnd_t,obind_s,cnd_t]
        exact⟨_,rfl,.inr ⟨rfl,bad (fun h=>by omega)⟩⟩
      rw[dF b1,cnd_f,obind_s]
      by_cases b2:8<x.getD v.toNat 0
      · right
        rw[dT b2,cnd_t]
        exact⟨_,rfl,.inr ⟨rfl,bad (fun h=>by omega)⟩⟩
      rw[dF b2,cnd_f,Has_eq N _ _ (by rw[List.length_take];omega) (by rw[List.length_take];omega),obind_s]
      by_cases b3:x.getD v.toNat 0∈x.take v.toNat
      · right
        rw[dT b3,cnd_t]
        exact⟨_,rfl,.inr ⟨rfl,bad (fun h=>h.2.2 b3)⟩⟩
      left
      rw[dF b3,cnd_f,wr_s (by omega) (by omega)]
      refine⟨_,rfl,⟨by omega,by omega,fun j hj=>?_⟩,by omega⟩
      by_cases hjv:(j:Int)<v
      · exact g3 j hjv
      · have:j=v.toNat:=by omega
        subst this
        exact⟨by omega,by omega,b3⟩
    · right
      rw[dF h,cnd_f]
      exact⟨_,rfl,.inl ⟨rfl,by omega,by omega,h3,fun j hj=>g3 j (by omega)⟩⟩
open Classical in
theorem Add_eq (N:Nat) (p:List Int) (id:Int) (hN:12≤N) (hl:p.length≤1000):W_J N (p,id)=some (if VP (p++[id]) then(p++[id],true) else([],false)):=by
  unfold W_J V_J W_e V_e
  try simp only
  rw[dT (by omega),cnd_t,obind_s,dT (by simp;omega),cnd_t,read_eq N _ hN,obind_s]
  split
  · rw[selim_l]
  · rw[selim_r]
open Classical in
theorem all_loop {N len:Nat} {β:Type} {f:Int→Option (Int⊕(PUnit⊕β))} (bad:Nat→Prop) (r:β) (hN:len<N)
    (hf:∀v:Int,0≤v→v<len→f v=if bad v.toNat then some (.inr (.inr r)) else some (.inl (v+1))) (he:∀v:Int,0≤v→¬v<len→f v=some (.inr (.inl ()))):
    loopN N f (Int.ofNat 0)=some (if ∃j,j<len∧bad j then .inr r else .inl ()):=by
  obtain ⟨q, h1, h2⟩ := loopN_run (N := N) (f := f) (x := Int.ofNat 0) (fun v => 0 ≤ v ∧ v ≤ len ∧ ∀ j : Nat, (j : Int) < v → ¬ bad j) (fun v => len - v.toNat)
    (fun q=>q=if ∃j,j<len∧bad j then .inr r else .inl ()) (fun v ⟨g1,g2,g3⟩=>by
      by_cases h:v<len
      · rw[hf v g1 h]
        by_cases hb:bad v.toNat
        · right
          rw[if_pos hb]
          exact⟨_,rfl,by rw[if_pos ⟨v.toNat,by omega,hb⟩]⟩
        · left
          rw[if_neg hb]
          refine⟨_,rfl,⟨by omega,by omega,fun j hj=>?_⟩,by omega⟩
          by_cases hjv:(j:Int)<v
          · exact g3 j hjv
          · have:j=v.toNat:=by omega
            subst this;exact hb
      · right
        rw[he v g1 h]
        exact⟨_,rfl,by rw[if_neg];rintro⟨j,hj,hb⟩;exact g3 j (by omega) hb⟩) ⟨by simp,by simp,fun j hj=>by simp at hj;omega⟩ (by simp;omega)
  rw[h1,h2]
open Classical in
theorem rHas_eq (N:Nat) (l:List Int) (x:Int) (hN:l.length<N) (hl:l.length≤140737488355327):W_Z N (l,x)=some (decide (x∈l)):=by
  unfold W_Z V_Z
  try simp only
  rw[all_loop (len:=l.length) (fun j=>l.getD j 0=x) true hN (fun v h1 h2=>by
    rw[dT h2,cnd_t,dT h1,Bool.and_self,cnd_t]
    by_cases h:l.getD v.toNat 0=x
    · rw[dT h,cnd_t,if_pos h]
    · rw[dF h,cnd_f,if_neg h,wr_s (by omega) (by omega)]) (fun v _ h=>by rw[dF h,cnd_f]),obind_s]
  by_cases h:x∈l
  · rw[if_pos (mem_getD h),selim_r,dT h]
  · rw[if_neg (fun⟨j,hj,e⟩=>h (e▸getD_mem hj)),selim_l,dF h]
open Classical in
theorem rMay_eq (N:Nat) (x:List Int) (hN:12≤N):W_M N x=some (decide (VP x)):=by
  unfold W_M V_M
  by_cases h1:(x.length:Int)<1
  · rw[dT h1,cnd_t,obind_s,cnd_t,dF (fun h=>by have:=h.1;omega)]
  rw[dF h1,cnd_f,obind_s]
  by_cases h2:(10:Int)<x.length
  · rw[dT h2,cnd_t,dF (fun h=>by have:=h.2.1;omega)]
  rw[dF h2,cnd_f,dT (show (0:Int)≤0 by omega),dT (show (0:Int)<x.length by omega),Bool.and_self,cnd_t]
  by_cases h3:x.getD 0 0=1
  case neg=>rw[dT h3,cnd_t,dF (fun h=>h3 h.2.2.1)]
  rw[dF (by simpa using h3),cnd_f]
  rw[all_loop (len:=x.length) (fun j=>¬(1≤x.getD j 0∧x.getD j 0≤8∧x.getD j 0∉x.take j)) false (by omega) (fun v g1 g2=>by
    rw[dT g2,dT g1,cnd_t,Bool.and_self,cnd_t,dT (show v≤x.length by omega),cnd_t,Bool.and_self,cnd_t,cnd_t,List.drop_zero]
    by_cases b1:x.getD v.toNat 0<1
    · rw[dT b1,cnd_t,if_pos (fun h=>by omega)]
    rw[dF b1,cnd_f]
    by_cases b2:8<x.getD v.toNat 0
    · rw[dT b2,cnd_t,if_pos (fun h=>by omega)]
    rw[dF b2,cnd_f,rHas_eq N _ _ (by rw[List.length_take];omega) (by rw[List.length_take];omega),obind_s]
    by_cases b3:x.getD v.toNat 0∈x.take v.toNat
    · rw[dT b3,cnd_t,if_pos (fun h=>h.2.2 b3)]
    rw[dF b3,cnd_f,if_neg (fun h=>h ⟨by omega,by omega,b3⟩),wr_s (by omega) (by omega)]) (fun v _ h=>by rw[dF h,cnd_f]),obind_s]
  by_cases hv:VP x
  · rw[if_neg (fun⟨j,hj,hb⟩=>hb (hv.2.2.2 j hj)),selim_l,dT hv]
  · rw[if_pos,selim_r,dF hv]
    refine Classical.byContradiction fun hn=>hv ⟨by omega,by omega,h3,fun j hj=>Classical.byContradiction fun hb=>hn ⟨j,hj,hb⟩⟩
open Classical in
theorem rAdd_eq (N:Nat) (p:List Int) (id:Int) (hN:12≤N) (hl:p.length≤1000):W_r N (p,id)=some (if VP (p++[id]) then(p++[id],true) else([],false)):=by
  unfold W_r V_r
  try simp only
  rw[dT (by omega),cnd_t,dT (by simp;omega),cnd_t,rMay_eq N _ hN,obind_s]
  by_cases h:VP (p++[id])
  · rw[dT h,if_pos h,Bool.not_true,cnd_f]
  · rw[dF h,if_neg h,Bool.not_false,cnd_t]
theorem Num_eq (N:Nat) (m:Int) (l:List Int) (n:Int) (hm:1≤m) (hn:0≤n) (hn2:n≤1000000) (hel:∀x∈l,0≤x∧x≤255):∃k n',W_a N (m,l,n)=some (k,l,n')∧0≤k∧k<m∧n≤n'∧n'≤n+1:=by
  unfold W_a V_a
  try simp only
  by_cases h:(l.length:Int)≤n
  · rw[dT h,cnd_t];exact⟨_,_,rfl,by omega,by omega,by omega,by omega⟩
  rw[dF h,cnd_f,dF (by omega),cnd_f,wr_s (z:=n+1) (by omega) (by omega),wr_s (z:=n+1-1) (by omega) (by omega),dT (by omega),dT (by omega),Bool.and_self,cnd_t,dF (by omega),Bool.not_false,cnd_t]
  have hb:=hel (l.getD (n+1-1).toNat 0) (getD_mem (by omega))
  rw[wr_s (by omega) (by omega),Int.tmod_eq_emod_of_nonneg (by omega)]
  exact⟨_,_,rfl,Int.emod_nonneg _ (by omega),Int.emod_lt_of_pos _ (by omega),by omega,by omega⟩
open Classical in
theorem May_eq (N:Nat) (p:List Int) (hN:12≤N):W_bi N p=some (decide (VP p)):=by
  unfold W_bi V_bi
  rw[read_eq N _ hN,obind_s]
  split
  · rename_i h;rw[selim_l,decide_eq_true h]
  · rename_i h;rw[selim_r,decide_eq_false h]
theorem VP_one:VP [1]:=⟨by decide,by decide,by decide,fun j hj=>by
    have:j=0:=by simp at hj;omega
    subst this;decide⟩
theorem Path_eq (N:Nat) (l:List Int) (n:Int) (hN:12≤N) (hn:0≤n) (hn2:n≤1000) (hel:∀x∈l,0≤x∧x≤255):∃p n',W_B N (l,n)=some (p,l,n')∧VP p∧n≤n'∧n'≤n+5:=by
  unfold W_B V_B
  obtain⟨k,n1,e1,a1,a2,a3,a4⟩:=Num_eq N 4 l n (by omega) hn (by omega) hel
  rw[e1,obind_s]
  refine loop_G (N:=N) (x:=([1],(k,(l,n1)))) (fun o=>∃p n',o=some (p,l,n')∧VP p∧n≤n'∧n'≤n+5) (fun j (v:List Int×Int×List Int×Int)=>v.2.1=k-j∧(j:Int)≤k∧VP v.1∧v.2.2.1=l∧n1≤v.2.2.2∧v.2.2.2≤n1+j) 4 (fun r:List Int×List Int×Int=>VP r.1∧r.2.1=l∧n1≤r.2.2∧r.2.2≤n1+4) ⟨by simp,by omega,VP_one,rfl,by simp,by simp⟩ (by omega) ?_ (fun j v h=>by have:=h.2.1;omega) ?_
  · rintro⟨p,l',m⟩ ⟨h1,h2,h3,h4⟩
    simp only at h1 h2 h3 h4
    subst h2
    exact⟨_,_,rfl,h1,by omega,by omega⟩
  · rintro j ⟨p,i,l',m⟩ ⟨h1,h2,h3,h4,h5,h6⟩
    simp only at h1 h3 h4 h5 h6 ⊢
    subst h1 h4
    by_cases c:0<k-(j:Int)
    case neg=>right;rw[dF c,cnd_f];exact⟨_,rfl,h3,rfl,h5,by simp only;omega⟩
    left
    obtain⟨q,m2,e2,b1,b2,b3,b4⟩:=Num_eq N 7 l' m (by omega) (by omega) (by omega) hel
    rw[dT c,cnd_t,e2,obind_s]
    try simp only
    rw[wr_m (z:=2+q) (by omega) (by omega),rAdd_eq N p (2+q) hN (by have:=h3.2.1;omega),obind_s,wr_m (z:=k-(j:Int)-1) (by omega) (by omega)]
    by_cases cv:VP (p++[2+q])
    · rw[if_pos cv,cnd_t]
      exact⟨_,rfl,by simp only;omega,by omega,cv,rfl,by simp only;omega,by simp only;omega⟩
    · rw[if_neg cv,cnd_f]
      exact⟨_,rfl,by simp only;omega,by omega,h3,rfl,by simp only;omega,by simp only;omega⟩
theorem VP_mem {p:List Int} (h:VP p):∀v∈p,1≤v∧v≤8:=by
  intro v hv
  obtain⟨j,hj,rfl⟩:=mem_getD hv
  have:=h.2.2.2 j hj
  exact⟨this.1,this.2.1⟩
theorem in_eq (N:Nat) (v a b:Int):W_t N (v,a,b)=some (decide (a≤v∧v≤b)):=by
  unfold W_t V_t
  try simp only
  by_cases h:a≤v
  · rw[dT h,cnd_t];simp only[h,true_and]
  · rw[dF h,cnd_f];simp only[h,false_and,decide_false]
def ownF (m:Ms):Ms:=
  if m.1=2 then(m.1,m.2.1,m.2.2.1,m.2.2.2.1,m.2.2.2.2.1,m.2.2.2.2.2.1,m.2.2.2.2.2.2.1,m.2.2.2.2.2.2.2.1,0,[])
  else if m.1=5 then(m.1,m.2.1,m.2.2.1,m.2.2.2.1,m.2.2.2.2.1,m.2.2.2.2.2.1,m.2.2.2.2.2.2.1,0,m.2.2.2.2.2.2.2.2.1,[])
  else if m.1=7 then(m.1,m.2.1,m.2.2.1,m.2.2.2.1,0,0,[],m.2.2.2.2.2.2.2.1,0,m.2.2.2.2.2.2.2.2.2)
  else if m.1=8∨m.1=9 then(m.1,m.2.1,m.2.2.1,m.2.2.2.1,0,0,[],m.2.2.2.2.2.2.2.1,m.2.2.2.2.2.2.2.2.1,[])
  else(m.1,m.2.1,m.2.2.1,m.2.2.2.1,0,0,[],0,0,[])
theorem own_eq (N:Nat) (m:Ms):W_bp N m=some (ownF m):=by
  obtain⟨k,f,t,i,e,a,p,lo,hi,s⟩:=m
  unfold W_bp V_bp ownF
  try simp only
  by_cases h2:k=2
  · rw[dT h2,cnd_t,if_pos h2]
  rw[dF h2,cnd_f,if_neg h2]
  by_cases h5:k=5
  · rw[dT h5,cnd_t,if_pos h5]
  rw[dF h5,cnd_f,if_neg h5]
  by_cases h7:k=7
  · rw[dT h7,cnd_t,if_pos h7]
  rw[dF h7,cnd_f,if_neg h7]
  by_cases h8:k=8
  · rw[dT h8,cnd_t,obind_s,if_pos (.inl h8)]
    simp only[cnd_t]
  rw[dF h8,cnd_f,obind_s]
  try simp only
  by_cases h9:k=9
  · rw[dT h9,cnd_t,if_pos (.inr h9)]
  · rw[dF h9,cnd_f,if_neg (fun q=>q.elim h8 h9)]
open Classical in
theorem Equal_eq (N:Nat) (a b:List Int) (hN:a.length<N) (hl:a.length≤140737488355327):W_aO N (a,b)=some (decide (a=b)):=by
  unfold W_aO V_aO
  try simp only
  by_cases h:(a.length:Int)=b.length
  case neg=>
    rw[dT (show (a.length:Int)≠b.length from h),cnd_t]
    have:¬a=b:=fun q=>h (by rw[q])
    rw[dF this]
  rw[dF (fun q:(a.length:Int)≠b.length=>q h),cnd_f]
  have hlen:a.length=b.length:=by omega
  refine obind_loop (fun v:Int=>∃i:Nat,v=i∧i≤a.length∧a.take i=b.take i) (fun v=>a.length-v.toNat) (fun r:PUnit⊕Bool=>(r=.inl ()∧a=b)∨(r=.inr false∧a≠b)) ⟨0,rfl,Nat.zero_le _,rfl⟩ (by show a.length-(Int.ofNat 0).toNat<N;omega) ?_ ?_
  · rintro r (⟨rfl,h⟩ | ⟨rfl,h⟩)
    · rw[selim_l,dT h]
    · rw[selim_r,dF h]
  · rintro v ⟨i,rfl,hi,ht⟩
    by_cases hlt:i<a.length
    · rw[dT (by omega),cnd_t,dT (by omega),Bool.and_self,cnd_t,dT (by omega),Bool.and_self,cnd_t,Int.toNat_natCast]
      have g1:a.getD i 0=a[i]:=by rw[List.getD_eq_getElem?_getD,List.getElem?_eq_getElem hlt];rfl
      have g2:b.getD i 0=b[i]'(by omega):=by rw[List.getD_eq_getElem?_getD,List.getElem?_eq_getElem (by omega)];rfl
      rw[g1,g2]
      by_cases hq:a[i]=b[i]'(by omega)
      · left
        rw[dF (fun q:a[i]≠b[i]'(by omega)=>q hq),cnd_f,wr_m (by omega) (by omega)]
        refine⟨_,rfl,⟨i+1,by omega,by omega,?_⟩,by omega⟩
        rw[List.take_add_one,List.take_add_one,ht,List.getElem?_eq_getElem hlt,List.getElem?_eq_getElem (by omega),hq]
      · right
        rw[dT hq,cnd_t]
        refine⟨_,rfl,.inr ⟨rfl,fun q=>hq ?_⟩⟩
        subst q;rfl
    · right
      rw[dF (by omega),cnd_f]
      refine⟨_,rfl,.inl ⟨rfl,?_⟩⟩
      rw[List.take_of_length_le (by omega),List.take_of_length_le (by omega)] at ht
      exact ht
open Classical in
theorem Same_eq (N:Nat) (m w:Ms) (hN:m.2.2.2.2.2.2.1.length<N) (hl:m.2.2.2.2.2.2.1.length≤140737488355327):W_bn N (m,w)=some (decide (m=w)):=by
  obtain⟨k,f,t,i,e,a,p,lo,hi,s⟩:=m
  obtain⟨k',f',t',i',e',a',p',lo',hi',s'⟩:=w
  unfold W_bn V_bn
  have hE:=Equal_eq N p p' hN hl
  try simp only
  by_cases h1:k=k'
  case neg=>simp only[decide_true,decide_false,cnd_t,cnd_f,obind_s,Prod.mk.injEq,h1,false_and,and_false,true_and]
  subst k'
  by_cases h2:f=f'
  case neg=>simp only[decide_true,decide_false,cnd_t,cnd_f,obind_s,Prod.mk.injEq,h2,false_and,and_false,true_and]
  subst f'
  by_cases h3:t=t'
  case neg=>simp only[decide_true,decide_false,cnd_t,cnd_f,obind_s,Prod.mk.injEq,h3,false_and,and_false,true_and]
  subst t'
  by_cases h4:i=i'
  case neg=>simp only[decide_true,decide_false,cnd_t,cnd_f,obind_s,Prod.mk.injEq,h4,false_and,and_false,true_and]
  subst i'
  by_cases h5:e=e'
  case neg=>simp only[decide_true,decide_false,cnd_t,cnd_f,obind_s,Prod.mk.injEq,h5,false_and,and_false,true_and]
  subst e'
  by_cases h6:a=a'
  case neg=>simp only[decide_true,decide_false,cnd_t,cnd_f,obind_s,Prod.mk.injEq,h6,false_and,and_false,true_and]
  subst a'
  simp only[decide_true,cnd_t,obind_s,hE,Prod.mk.injEq,true_and]
  by_cases h7:p=p'
  case neg=>simp only[decide_true,decide_false,cnd_t,cnd_f,obind_s,h7,false_and,and_false,true_and]
  subst h7
  simp only[decide_true,cnd_t,obind_s,true_and]
  by_cases h8:lo=lo'
  case neg=>simp only[decide_true,decide_false,cnd_t,cnd_f,obind_s,h8,false_and,and_false,true_and]
  subst h8
  simp only[decide_true,cnd_t,obind_s,true_and]
  by_cases h9:hi=hi'
  case neg=>simp only[decide_true,decide_false,cnd_t,cnd_f,obind_s,h9,false_and,and_false,true_and]
  subst h9
  simp only[decide_true,cnd_t,obind_s,true_and]
  by_cases h10:s=s'
  · subst h10;simp only[decide_true,beq_self_eq_true]
  · have:(s==s')=false:=by simpa using h10
    simp only[h10,this,decide_false]
def Fits (m:Ms):Prop:=
  if m.1=2∨m.1=5 then(0≤m.2.2.2.2.1∧m.2.2.2.2.1≤1073741824)∧(0≤m.2.2.2.2.2.1∧m.2.2.2.2.2.1≤1073741824)∧VP m.2.2.2.2.2.2.1∧(0≤m.2.2.2.2.2.2.2.1∧m.2.2.2.2.2.2.2.1≤1000000)∧(0≤m.2.2.2.2.2.2.2.2.1∧m.2.2.2.2.2.2.2.2.1≤1000000)
  else if m.1=7 then(1≤m.2.2.2.2.2.2.2.1∧m.2.2.2.2.2.2.2.1≤1000000)∧(m.2.2.2.2.2.2.2.2.2.length:Int)≤12
  else if m.1=8∨m.1=9 then(1≤m.2.2.2.2.2.2.2.1∧m.2.2.2.2.2.2.2.1≤m.2.2.2.2.2.2.2.2.1)∧m.2.2.2.2.2.2.2.2.1≤1000000
  else True
open Classical in
theorem fits_eq (N:Nat) (hN:12≤N) (m:Ms):W_ar N m=some (decide (Fits m)):=by
  obtain⟨k,f,t,i,e,a,p,lo,hi,s⟩:=m
  have hM:=May_eq N p hN
  have fin:∀(k:Int),(k=2∨k=5)→W_ar N (k,f,t,i,e,a,p,lo,hi,s)=some (decide ((0≤e∧e≤1073741824)∧(0≤a∧a≤1073741824)∧VP p∧(0≤lo∧lo≤1000000)∧(0≤hi∧hi≤1000000))):=by
    intro k hk
    unfold W_ar V_ar
    try simp only
    by_cases q1:0≤e∧e≤1073741824<;>by_cases q2:0≤a∧a≤1073741824<;>by_cases q3:VP p<;>by_cases q4:0≤lo∧lo≤1000000<;>by_cases q5:0≤hi∧hi≤1000000<;>rcases hk with hk | hk<;>subst hk <;>
      simp only[Int.reduceEq,decide_true,decide_false,cnd_t,cnd_f,obind_s,in_eq,hM,q1,q2,q3,q4,q5,and_self,and_true,and_false,false_and]
  by_cases h25:k=2∨k=5
  · rw[fin k h25]
    unfold Fits
    try simp only
    rw[if_pos h25]
    exact congrArg some (decide_eq_decide.2 Iff.rfl)
  clear fin
  have n2:¬k=2:=fun q=>h25 (.inl q)
  have n5:¬k=5:=fun q=>h25 (.inr q)
  unfold W_ar V_ar Fits
  simp only[n2,n5,or_self,if_false,decide_false,cnd_f,obind_s,in_eq]
  by_cases h7:k=7
  · simp only[h7,decide_true,cnd_t,if_true]
    by_cases q1:1≤lo∧lo≤1000000
    · simp only[q1,and_self,decide_true,cnd_t,true_and]
    · simp only[q1,decide_false,cnd_f,false_and]
  simp only[h7,decide_false,cnd_f,if_false]
  have fin2:cnd (decide (1≤lo∧lo≤hi)) (some (decide (hi≤1000000))) (some false)=some (decide ((1≤lo∧lo≤hi)∧hi≤1000000)):=by
    by_cases q1:1≤lo∧lo≤hi
    · simp only[q1,and_self,decide_true,cnd_t,true_and]
    · simp only[q1,decide_false,cnd_f,false_and]
  by_cases h8:k=8
  · simp only[h8,decide_true,cnd_t,obind_s,true_or,if_true]
    exact fin2
  simp only[h8,decide_false,cnd_f,obind_s,false_or]
  by_cases h9:k=9
  · simp only[h9,decide_true,cnd_t,if_true]
    exact fin2
  · simp only[h9,decide_false,cnd_f,if_false,decide_true]
def MayP (m:Ms):Prop:=(1≤m.1∧m.1≤9)∧(1≤m.2.1∧m.2.1≤8)∧(1≤m.2.2.1∧m.2.2.1≤8)∧m.2.1≠m.2.2.1∧(1≤m.2.2.2.1∧m.2.2.2.1≤1073741824)∧m=ownF m∧Fits m
open Classical in
theorem MayM_eq (N:Nat) (hN:12≤N) (m:Ms) (hl:m.2.2.2.2.2.2.1.length<N) (hl2:m.2.2.2.2.2.2.1.length≤140737488355327):W_bo N m=some (decide (MayP m)):=by
  have hS:=Same_eq N m (ownF m) hl hl2
  have hF:=fits_eq N hN m
  have hO:=own_eq N m
  obtain⟨k,f,t,i,e,a,p,lo,hi,s⟩:=m
  unfold W_bo V_bo MayP
  simp only[in_eq,obind_s]
  by_cases q1:1≤k∧k≤9
  case neg=>simp only[q1,decide_false,cnd_f,obind_s,false_and]
  simp only[q1,and_self,decide_true,cnd_t,obind_s,true_and]
  by_cases q2:1≤f∧f≤8
  case neg=>simp only[q2,decide_false,cnd_f,obind_s,false_and]
  simp only[q2,and_self,decide_true,cnd_t,obind_s,true_and]
  by_cases q3:1≤t∧t≤8
  case neg=>simp only[q3,decide_false,cnd_f,obind_s,false_and]
  simp only[q3,and_self,decide_true,cnd_t,obind_s,true_and]
  by_cases q4:f=t
  case pos=>simp only[q4,ne_eq,not_true_eq_false,decide_false,cnd_f,obind_s,false_and]
  simp only[ne_eq,q4,not_false_eq_true,decide_true,cnd_t,obind_s,true_and]
  by_cases q5:1≤i∧i≤1073741824
  case neg=>simp only[q5,decide_false,cnd_f,false_and]
  simp only[q5,and_self,decide_true,cnd_t,true_and]
  rw[hO,obind_s]
  rw[hS,obind_s]
  by_cases q6:(k,f,t,i,e,a,p,lo,hi,s)=ownF (k,f,t,i,e,a,p,lo,hi,s)
  · rw[dT q6,cnd_t,hF,obind_s]
    congr 1
    apply Bool.eq_iff_iff.2
    simp only[decide_eq_true_eq]
    exact⟨fun q=>⟨q6,q⟩,fun q=>q.2⟩
  · rw[dF q6,cnd_f]
    congr 1
    symm
    apply dF
    exact fun q=>q6 q.1
theorem Text_eq (N:Nat) (l:List Int) (n:Int) (hn:0≤n) (hn2:n≤1000) (hel:∀x∈l,0≤x∧x≤255):∃s n',W_w N (l,n)=some (s,l,n')∧s.length≤12∧n≤n'∧n'≤n+1:=by
  unfold W_w V_w
  try simp only
  obtain⟨k,n1,e1,a1,a2,a3,a4⟩:=Num_eq N 5 l n (by omega) hn (by omega) hel
  rw[e1,obind_s]
  try simp only
  rw[dT a1,cnd_t,dT (by omega),cnd_t]
  refine⟨_,_,rfl,?_,a3,a4⟩
  obtain⟨j,rfl⟩:∃j:Nat,k=j:=⟨k.toNat,by omega⟩
  have:j=0∨j=1∨j=2∨j=3∨j=4:=by omega
  rcases this with rfl | rfl | rfl | rfl | rfl<;>decide
structure Sh (m:Ms):Prop where
  k:0≤m.1∧m.1<128
  f:0≤m.2.1∧m.2.1<128
  t:0≤m.2.2.1∧m.2.2.1<128
  i:0≤m.2.2.2.1∧m.2.2.2.1<128
  e:0≤m.2.2.2.2.1∧m.2.2.2.2.1<128
  a:0≤m.2.2.2.2.2.1∧m.2.2.2.2.2.1<128
  p:∀v∈m.2.2.2.2.2.2.1,0≤v∧v<128
  lo:0≤m.2.2.2.2.2.2.2.1∧m.2.2.2.2.2.2.2.1<128
  hi:0≤m.2.2.2.2.2.2.2.2.1∧m.2.2.2.2.2.2.2.2.1<128
theorem Msg_eqn (N:Nat) (hN:1000≤N) (to:Int) (l:List Int) (n0:Int) (hn0:0≤n0) (hn1:n0≤500) (hto:1≤to∧to≤8) (hel:∀x∈l,0≤x∧x≤255):∃m n',W_C N (to,l,n0)=some ((l,n'),m)∧MayP m∧Sh m∧m.2.2.1=to∧m.2.2.2.1≤3∧0≤n'∧n'≤n0+20:=by
  unfold W_C V_C
  try simp only
  obtain⟨b,n1,e1,a1,a2,a3,a4⟩:=Num_eq N 8 l n0 (by omega) (by omega) (by omega) hel
  rw[e1,obind_s]
  try simp only
  have hf:∃f,cnd (decide (wr .i64 ((1:Int)+b)=to)) (some (wr .i64 ((1:Int)+Int.tmod to 8),(l,n1),(0:Int),(0:Int),(0:Int),(0:Int),(0:Int),(0:Int),([]:List Int),(0:Int),(0:Int),([]:List UInt8))) (some (wr .i64 ((1:Int)+b),(l,n1),(0:Int),(0:Int),(0:Int),(0:Int),(0:Int),(0:Int),([]:List Int),(0:Int),(0:Int),([]:List UInt8)))=some (f,(l,n1),(0:Int),(0:Int),(0:Int),(0:Int),(0:Int),(0:Int),([]:List Int),(0:Int),(0:Int),([]:List UInt8))∧1≤f∧f≤8∧f≠to:=by
    have w1:wr .i64 (1+b)=1+b:=wr_m (by omega) (by omega)
    rw[w1,Int.tmod_eq_emod_of_nonneg (by omega)]
    by_cases c:1+b=to
    · rw[dT c,cnd_t,wr_m (by omega) (by omega)]
      exact⟨_,rfl,by omega,by omega,by omega⟩
    · rw[dF c,cnd_f]
      exact⟨_,rfl,by omega,by omega,c⟩
  obtain⟨f,hf1,hf2,hf3,hf4⟩:=hf
  rw[hf1,obind_s]
  try simp only
  obtain⟨k,n2,e2,b1,b2,b3,b4⟩:=Num_eq N 9 l n1 (by omega) (by omega) (by omega) hel
  rw[e2,obind_s]
  try simp only
  obtain⟨i,n3,e3,c1,c2,c3,c4⟩:=Num_eq N 3 l n2 (by omega) (by omega) (by omega) hel
  rw[e3,obind_s]
  try simp only
  have wk:wr .i64 (1+k)=1+k:=wr_m (by omega) (by omega)
  have wi:wr .i64 (1+i)=1+i:=wr_m (by omega) (by omega)
  rw[wk,wi]
  obtain⟨K,hK⟩:∃K,K=1+k:=⟨_,rfl⟩
  obtain⟨I,hI⟩:∃I,I=1+i:=⟨_,rfl⟩
  rw[←hK,←hI]
  have hb:(1≤K∧K≤9)∧(1≤f∧f≤8)∧(1≤to∧to≤8)∧f≠to∧(1≤I∧I≤1073741824):=⟨by omega,by omega,hto,hf4,by omega⟩
  by_cases k2:K=2
  · rw[dT k2,cnd_t]
    obtain⟨e,n4,e4,d1,d2,d3,d4⟩:=Num_eq N 20 l n3 (by omega) (by omega) (by omega) hel
    rw[e4,obind_s]
    try simp only
    obtain⟨a,n5,e5,g1,g2,g3,g4⟩:=Num_eq N 25 l n4 (by omega) (by omega) (by omega) hel
    rw[e5,obind_s]
    try simp only
    obtain⟨p,n6,e6,p1,p2,p3⟩:=Path_eq N l n5 (by omega) (by omega) (by omega) hel
    rw[e6,obind_s]
    try simp only
    obtain⟨lo,n7,e7,q1,q2,q3,q4⟩:=Num_eq N 9 l n6 (by omega) (by omega) (by omega) hel
    rw[e7,obind_s]
    refine⟨_,_,rfl,⟨hb.1,hb.2.1,hb.2.2.1,hb.2.2.2.1,hb.2.2.2.2,?_,?_⟩,⟨by simp only;omega,by simp only;omega,by simp only;omega,by simp only;omega,by simp only;omega,by simp only;omega,fun v hv=>by have:=VP_mem p1 v hv;omega,by simp only;omega,by simp⟩,rfl,by first | omega | (simp only;omega),by first | omega | (simp only;omega),by first | omega | (simp only;omega)⟩
    · unfold ownF;simp only;rw[if_pos k2]
    · unfold Fits;simp only;rw[if_pos (.inl k2)];exact⟨by omega,by omega,p1,by omega,by omega⟩
  rw[dF k2,cnd_f]
  by_cases k5:K=5
  · rw[dT k5,cnd_t]
    obtain⟨e,n4,e4,d1,d2,d3,d4⟩:=Num_eq N 20 l n3 (by omega) (by omega) (by omega) hel
    rw[e4,obind_s]
    try simp only
    obtain⟨a,n5,e5,g1,g2,g3,g4⟩:=Num_eq N 25 l n4 (by omega) (by omega) (by omega) hel
    rw[e5,obind_s]
    try simp only
    obtain⟨p,n6,e6,p1,p2,p3⟩:=Path_eq N l n5 (by omega) (by omega) (by omega) hel
    rw[e6,obind_s]
    try simp only
    obtain⟨lo,n7,e7,q1,q2,q3,q4⟩:=Num_eq N 12 l n6 (by omega) (by omega) (by omega) hel
    rw[e7,obind_s]
    refine⟨_,_,rfl,⟨hb.1,hb.2.1,hb.2.2.1,hb.2.2.2.1,hb.2.2.2.2,?_,?_⟩,⟨by simp only;omega,by simp only;omega,by simp only;omega,by simp only;omega,by simp only;omega,by simp only;omega,fun v hv=>by have:=VP_mem p1 v hv;omega,by simp,by simp only;omega⟩,rfl,by first | omega | (simp only;omega),by first | omega | (simp only;omega),by first | omega | (simp only;omega)⟩
    · unfold ownF;simp only;rw[if_neg k2,if_pos k5]
    · unfold Fits;simp only;rw[if_pos (.inr k5)];exact⟨by omega,by omega,p1,by omega,by omega⟩
  rw[dF k5,cnd_f]
  by_cases k7:K=7
  · rw[dT k7,cnd_t]
    obtain⟨lo,n4,e4,d1,d2,d3,d4⟩:=Num_eq N 12 l n3 (by omega) (by omega) (by omega) hel
    rw[e4,obind_s]
    try simp only
    obtain⟨s,n5,e5,g1,g2,g3⟩:=Text_eq N l n4 (by omega) (by omega) hel
    rw[e5,obind_s]
    try simp only
    have w1:wr .i64 (1+lo)=1+lo:=wr_m (by omega) (by omega)
    rw[w1]
    refine⟨_,_,rfl,⟨hb.1,hb.2.1,hb.2.2.1,hb.2.2.2.1,hb.2.2.2.2,?_,?_⟩,⟨by simp only;omega,by simp only;omega,by simp only;omega,by simp only;omega,by simp,by simp,fun v hv=>by simp at hv,by simp only;omega,by simp⟩,rfl,by first | omega | (simp only;omega),by first | omega | (simp only;omega),by first | omega | (simp only;omega)⟩
    · unfold ownF;simp only;rw[if_neg k2,if_neg k5,if_pos k7]
    · unfold Fits;simp only;rw[if_neg (fun q=>q.elim k2 k5),if_pos k7];exact⟨by omega,by omega⟩
  rw[dF k7,cnd_f]
  have two:(K=8∨K=9)→∃m n',(obind (W_a N ((9:Int),l,n3)) fun(b_3:Int×List Int×Int)=>
      obind (W_a N ((6:Int),Prod.fst (Prod.snd b_3),Prod.snd (Prod.snd b_3))) fun(b_4:Int×List Int×Int)=>
        some ((Prod.fst (Prod.snd b_4),Prod.snd (Prod.snd b_4)),K,f,to,I,(0:Int),(0:Int),([]:List Int),wr IntKind.i64 ((1:Int)+Prod.fst b_3),wr IntKind.i64 (wr IntKind.i64 ((1:Int)+Prod.fst b_3)+Prod.fst b_4),([]:List UInt8)))=some ((l,n'),m)∧MayP m∧Sh m∧m.2.2.1=to∧m.2.2.2.1≤3∧0≤n'∧n'≤n0+20:=by
    intro hk
    obtain⟨lo,n4,e4,d1,d2,d3,d4⟩:=Num_eq N 9 l n3 (by omega) (by omega) (by omega) hel
    rw[e4,obind_s]
    try simp only
    obtain⟨hi,n5,e5,g1,g2,g3,g4⟩:=Num_eq N 6 l n4 (by omega) (by omega) (by omega) hel
    rw[e5,obind_s]
    try simp only
    have w1:wr .i64 (1+lo)=1+lo:=wr_m (by omega) (by omega)
    have w2:wr .i64 (1+lo+hi)=1+lo+hi:=wr_m (by omega) (by omega)
    rw[w1,w2]
    refine⟨_,_,rfl,⟨hb.1,hb.2.1,hb.2.2.1,hb.2.2.2.1,hb.2.2.2.2,?_,?_⟩,⟨by simp only;omega,by simp only;omega,by simp only;omega,by simp only;omega,by simp,by simp,fun v hv=>by simp at hv,by simp only;omega,by simp only;omega⟩,rfl,by first | omega | (simp only;omega),by first | omega | (simp only;omega),by first | omega | (simp only;omega)⟩
    · unfold ownF;simp only;rw[if_neg k2,if_neg k5,if_neg k7,if_pos hk]
    · unfold Fits;simp only;rw[if_neg (fun q=>q.elim k2 k5),if_neg k7,if_pos hk];exact⟨⟨by omega,by omega⟩,by omega⟩
  by_cases k8:K=8
  · rw[dT k8,cnd_t,obind_s]
    try simp only
    rw[cnd_t]
    exact two (.inl k8)
  rw[dF k8,cnd_f,obind_s]
  try simp only
  by_cases k9:K=9
  · rw[dT k9,cnd_t]
    exact two (.inr k9)
  · rw[dF k9,cnd_f]
    refine⟨_,_,rfl,⟨hb.1,hb.2.1,hb.2.2.1,hb.2.2.2.1,hb.2.2.2.2,?_,?_⟩,⟨by simp only;omega,by simp only;omega,by simp only;omega,by simp only;omega,by simp,by simp,fun v hv=>by simp at hv,by simp,by simp⟩,rfl,by first | omega | (simp only;omega),by first | omega | (simp only;omega),by first | omega | (simp only;omega)⟩
    · unfold ownF;simp only;rw[if_neg k2,if_neg k5,if_neg k7,if_neg (fun q=>q.elim k8 k9)]
    · unfold Fits;simp only;rw[if_neg (fun q=>q.elim k2 k5),if_neg k7,if_neg (fun q=>q.elim k8 k9)];trivial
theorem filter1 (p:Kd→Bool) (x:Kd):[x].filter (fun k=>!p k)=if p x=true then [] else [x]:=by
  rw[List.filter_cons]
  cases p x<;>rfl
theorem take_snocK {l:List Kd} {k:Nat} (h:k<l.length):l.take (k+1)=l.take k++[l.getD k kD]:=by
  rw[List.take_succ_eq_append_getElem h,List.getD_eq_getElem?_getD,List.getElem?_eq_getElem h];rfl
theorem idx_Drop_eq (N:Nat) (hN:2000≤N) (l:List Kd) (c:Int) (p:Kd→Bool) (hp:∀k∈l,W_u N (k,c)=some (p k,c)) (hl:l.length≤1000):∃r:Int,W_aM N (l,c)=some (r,c)∧((r=-1∧∀x∈l,p x=false)∨∃i:Nat,r=i∧i<l.length∧p (l.getD i kD)=true∧∀x∈l.take i,p x=false):=by
  unfold W_aM V_aM
  try simp only
  refine loop_G (N:=N) (fun o=>∃r:Int,o=some (r,c)∧((r=-1∧∀x∈l,p x=false)∨∃i:Nat,r=i∧i<l.length∧p (l.getD i kD)=true∧∀x∈l.take i,p x=false)) (fun k (v:Int×Int)=>v=(↑k,c)∧k≤l.length∧∀x∈l.take k,p x=false) l.length
    (fun r:Int⊕Int×Int=>(r=.inl c∧∀x∈l,p x=false)∨∃i:Nat,r=.inr ((i:Int),c)∧i<l.length∧p (l.getD i kD)=true∧∀x∈l.take i,p x=false) ⟨rfl,by omega,by simp⟩ (by omega) ?_ (fun k v h=>h.2.1) ?_
  · rintro r (⟨rfl,h⟩ | ⟨i,rfl,h⟩)
    · rw[selim_l];exact⟨-1,rfl,.inl ⟨rfl,h⟩⟩
    · rw[selim_r];exact⟨i,rfl,.inr ⟨i,rfl,h⟩⟩
  · rintro k v ⟨rfl,hk,hq⟩
    try simp only
    by_cases cl:(k:Int)<l.length
    case neg=>
      right
      rw[dF cl,cnd_f]
      refine⟨_,rfl,.inl ⟨rfl,fun x hx=>hq x ?_⟩⟩
      rw[List.take_of_length_le (by omega)];exact hx
    have hm:=getD_memK (l:=l) (i:=k) (by omega)
    rw[dT cl,cnd_t,dT (by omega),Bool.and_self,cnd_t,Int.toNat_natCast]
    show (∃y,obind (W_u N (l.getD k kD,c)) _=_∧_)∨(∃y,obind (W_u N (l.getD k kD,c)) _=_∧_)
    rw[hp _ hm,obind_s]
    try simp only
    cases hb:p (l.getD k kD) with
    | true=>right;rw[cnd_t];exact⟨_,rfl,.inr ⟨k,rfl,by omega,hb,hq⟩⟩
    | false=>
      left
      rw[cnd_f,wr_m (by omega) (by omega)]
      refine⟨_,rfl,by simp,by omega,fun x hx=>?_⟩
      rw[take_snocK (by omega)] at hx
      rcases List.mem_append.1 hx with hx | hx
      · exact hq x hx
      · rw[List.mem_singleton.1 hx];exact hb
theorem del_Drop_eq (N:Nat) (hN:2000≤N) (l:List Kd) (c:Int) (p:Kd→Bool) (hp:∀k∈l,W_u N (k,c)=some (p k,c)) (hl:l.length≤1000):W_aL N (l,c)=some (l.filter (fun k=>!p k),c):=by
  obtain⟨r,h1,h2⟩:=idx_Drop_eq N hN l c p hp hl
  unfold W_aL V_aL
  try simp only
  rw[h1,obind_s]
  try simp only
  rcases h2 with⟨rfl,hall⟩ | ⟨i,rfl,hi,hpi,hq⟩
  · rw[dT rfl,cnd_t,List.filter_eq_self.2 (fun x hx=>by rw[hall x hx];rfl)]
  rw[dF (by omega),cnd_f,wr_m (z:=(i:Int)+1) (by omega) (by omega)]
  have f0:(l.take (i+1)).filter (fun k=>!p k)=l.take i:=by
    rw[take_snocK hi,List.filter_append,List.filter_eq_self.2 (fun x hx=>by rw[hq x hx];rfl)]
    rw[filter1,hpi];simp
  refine loop_G (N:=N) (fun o=>o=some (l.filter (fun k=>!p k),c)) (fun k (v:Int×Int×List Kd×Int)=>∃(a b:Nat),v=((a:Int),(b:Int),v.2.2.1,c)∧b=i+1+k∧a<b∧b≤l.length∧v.2.2.1.length=l.length∧v.2.2.1.take a=(l.take b).filter (fun k=>!p k)∧v.2.2.1.drop b=l.drop b) l.length
    (fun r:Int×List Kd×Int=>∃a:Nat,r=((a:Int),r.2.1,c)∧a≤r.2.1.length∧r.2.1.length=l.length∧r.2.1.take a=l.filter (fun k=>!p k)) ⟨i,i+1,rfl,rfl,by omega,by omega,rfl,f0.symm,rfl⟩ (by omega) ?_ (fun k v h=>by obtain⟨a,b,_,h1,_,h2,_⟩:=h;omega) ?_
  · rintro⟨n,row,c'⟩ ⟨a,e,ha,hlen,hr⟩
    simp only at e ha hlen hr
    injection e with e1 e2
    injection e2 with e3 e4
    subst e1 e4
    have hz:(putL row (List.replicate (row.length-a) ((0:Int),(0:Int),(0:Int))) (0+a)).length=row.length:=by
      simp[putL];omega
    refine(cnd_T (show (0:Int)≤(a:Int) by omega)).trans ?_
    refine(cnd_T (show (a:Int)≤(row.length:Int) by omega)).trans ?_
    refine(cnd_T (show (0:Int)≤(a:Int) by omega)).trans ?_
    refine(cnd_T (show ((0:Nat):Int)+(a:Int)≤((putL row (List.replicate (row.length-a) ((0:Int),(0:Int),(0:Int))) (0+a)).length:Int) by rw[hz];omega)).trans ?_
    have:List.drop (0+0) (List.take (0+0+(a-0)) (putL row (List.replicate (row.length-a) ((0:Int),(0:Int),(0:Int))) (0+a)))=row.take a:=by
      simp only[Nat.zero_add,Nat.sub_zero,List.drop_zero]
      unfold putL
      rw[List.take_append_of_le_length (by simp;omega),List.take_take]
      simp
    show some (List.drop (0+0) (List.take (0+0+(a-0)) (putL row (List.replicate (row.length-a) ((0:Int),(0:Int),(0:Int))) (0+a))),c')=_
    rw[this,hr]
  · rintro k ⟨n,j,row,c'⟩ ⟨a,b,e,hb,hab,hbl,hlen,ht,hd⟩
    simp only at e hlen ht hd
    injection e with e1 e2
    injection e2 with e3 e4
    injection e4 with e5 e6
    subst e1 e3 e6
    try simp only
    by_cases cl:(b:Int)<row.length
    case neg=>
      right
      rw[dF cl,cnd_f]
      refine⟨_,rfl,a,rfl,by simp only;omega,hlen,?_⟩
      try simp only
      rw[ht,List.take_of_length_le (by omega)]
    left
    have hx:row.getD b kD=l.getD b kD:=by
      have h1:=drop_consK (l:=row) (i:=b) (by omega)
      have h2:=drop_consK (l:=l) (i:=b) (by omega)
      rw[hd,h2] at h1
      injection h1 with h1 _
      exact h1.symm
    have hm:=getD_memK (l:=l) (i:=b) (by omega)
    rw[dT cl,cnd_t,dT (by omega),Bool.and_self,cnd_t,Int.toNat_natCast]
    show ∃y,obind (W_u N (row.getD b kD,c')) _=_∧_
    rw[hx,hp _ hm,obind_s]
    try simp only
    have hd1:∀r2:List Kd,r2.drop b=l.drop b→r2.drop (b+1)=l.drop (b+1):=fun r2 h=>by rw[←List.drop_drop,←List.drop_drop,h]
    rw[wr_m (z:=(b:Int)+1) (by omega) (by omega)]
    cases hb2:p (l.getD b kD) with
    | true=>
      rw[Bool.not_true,cnd_f]
      refine⟨_,rfl,a,b+1,by simp only;rfl,by omega,by omega,by omega,hlen,?_,hd1 row hd⟩
      try simp only
      rw[ht,take_snocK (by omega),List.filter_append,filter1,hb2]
      simp
    | false=>
      rw[Bool.not_false,cnd_t,dT (show (0:Int)≤(a:Int) by omega),dT (show (a:Int)<row.length by omega),Bool.and_self,cnd_t,wr_m (z:=(a:Int)+1) (by omega) (by omega),Int.toNat_natCast]
      refine⟨_,rfl,a+1,b+1,by simp only;rfl,by omega,by omega,by omega,?_,?_,?_⟩
      · show (putL row [l.getD b kD] a).length=_
        unfold putL
        simp only[List.length_append,List.length_take,List.length_drop,List.length_singleton];omega
      · show (putL row [l.getD b kD] a).take (a+1)=_
        rw[take_snocK (l:=l) (k:=b) (by omega),List.filter_append,←ht,filter1,hb2]
        unfold putL
        rw[List.take_append,List.take_of_length_le (by simp;omega),List.length_take,show a+1-min a row.length=1 by omega]
        rfl
      · show (putL row [l.getD b kD] a).drop (b+1)=_
        rw[←hd1 row hd]
        unfold putL
        rw[List.drop_append,List.drop_eq_nil_of_le (by simp;omega),List.nil_append,List.drop_append,List.drop_eq_nil_of_le (by simp;omega),List.nil_append,List.drop_drop]
        congr 1
        simp
        omega
theorem drop_eq (N:Nat) (hN:2000≤N) (l:List Kd) (id:Int) (hl:l.length≤1000):W_am N (l,id)=some (l.filter (fun k=>!decide (k.1=id))):=by
  unfold W_am V_am
  try simp only
  rw[pCloneK N l (by omega),obind_s,del_Drop_eq N hN l id (fun k=>decide (k.1=id)) (fun k _=>by unfold W_u V_u;rfl) hl,obind_s]
def freshM:TT→Bool
  | (id,_,now,par,_,_,_,_,born,_,_,_,_)=>if id=1 then true else if par≠0 then decide (now-born≤20) else false
def letgo:TT→Int→TT
  | (id,inc,now,_,_,grd,_,ep,born,_,unt,_,kids),s=>(id,inc,now,0,0,grd,[],ep,born,0,unt,s,kids)
def vainM:TT→TT
  | (id,inc,now,par,pinc,grd,path,ep,born,_,unt,stp,kids)=>(id,inc,now,par,pinc,grd,path,ep,born,0,unt,stp+1,kids)
def sayM:TT→Int→Int→Ms
  | (id,inc,_),k,to=>(k,id,to,inc,0,0,[],0,0,[])
def fullM:TT→Int→Int→Int→Ms
  | (id,inc,now,_,_,_,path,ep,born,_),k,to,lo=>(k,id,to,inc,ep,now-born,path,lo,0,[])
def prK (now:Int) (l:List Kd):List Kd:=l.filter (fun k=>!decide (k.2.2<now-20))
def tick1:TT→TT
  | (id,inc,now,par,pinc,grd,path,ep,born,ask,unt,stp,kids)=>
    if id=1∧(now+1) % 2=0 then(id,inc,now+1,par,pinc,grd,path,ep+1,now+1,ask,unt,stp,prK (now+1) kids)
    else(id,inc,now+1,par,pinc,grd,path,ep,born,ask,unt,stp,prK (now+1) kids)
def tick2 (t:TT):TT:=if t.2.2.2.1≠0∧freshM t=false then letgo t 0 else t
def seekM:TT→TT×List Ms
  | (id,inc,now,par,pinc,grd,path,ep,born,ask,unt,stp,kids)=>
    if ask≠0 then
      if unt≤now then((id,inc,now,par,pinc,grd,path,ep,born,if stp+1=0∧grd≠0∧grd≠id then grd else 1,now+3,stp+1,kids),[(1,id,if stp+1=0∧grd≠0∧grd≠id then grd else 1,inc,0,0,[],0,0,[])])
      else((id,inc,now,par,pinc,grd,path,ep,born,ask,unt,stp,kids),[])
    else((id,inc,now,par,pinc,grd,path,ep,born,if stp=0∧grd≠0∧grd≠id then grd else 1,now+3,stp,kids),[(1,id,if stp=0∧grd≠0∧grd≠id then grd else 1,inc,0,0,[],0,0,[])])
def tick3 (t:TT):TT×List Ms:=if t.2.2.2.1=0∧t.1≠1 then seekM t else(t,[])
def beatM (t:TT):List Ms:=(if t.2.2.2.1≠0 then [sayM t 4 t.2.2.2.1] else [])++(if freshM t=true then t.2.2.2.2.2.2.2.2.2.2.2.2.map fun k=>fullM t 5 k.1 0 else [])
def tickM (t:TT):List Ms×TT:=
  let a:=tick3 (tick2 (tick1 t))
  (if (t.2.2.1+1) % 2=0 then a.2++beatM a.1 else a.2,a.1)
def Tb (B:Int):TT→Prop
  | (id,inc,now,par,pinc,grd,path,ep,born,ask,unt,stp,kids)=>(1≤id∧id≤8)∧(0≤now∧now≤B)∧(-1000≤born∧born≤B)∧(0≤stp∧stp≤B)∧(unt≤B+3∧0≤unt)∧(0≤ep∧ep≤B+1000)∧path.length≤10∧Kw 1 kids∧(0≤ask∧ask≤8)∧(0≤grd∧grd≤8)
theorem Tb.kl {B:Int} {t:TT} (h:Tb B t):t.2.2.2.2.2.2.2.2.2.2.2.2.length≤8:=by
  obtain⟨id,inc,now,par,pinc,grd,path,ep,born,ask,unt,stp,kids⟩:=t
  obtain⟨h1,h2,h3,h4,h5,h6,h7,h8,h9,h10⟩:=h
  have:=h8.len (by omega)
  simp only;omega
theorem tell_eq (N:Nat) (t:TT) (k to:Int):W_i N (t,k,to)=some (sayM t k to):=rfl
theorem letGo_eq (N:Nat) (t:TT) (s:Int):W_s N (t,s)=some (letgo t s):=rfl
theorem vain_eq (N:Nat) {B:Int} (t:TT) (h:Tb B t) (hB:B≤1000000000):W_z N t=some (vainM t):=by
  obtain⟨id,inc,now,par,pinc,grd,path,ep,born,ask,unt,stp,kids⟩:=t
  obtain⟨h1,h2,h3,h4,h5,h6,h7,h8,h9,h10⟩:=h
  unfold W_z V_z vainM
  try simp only
  rw[wr_m (by omega) (by omega)]
theorem fresh_eq (N:Nat) {B:Int} (t:TT) (h:Tb B t) (hB:B≤1000000000):W_bd N t=some (freshM t):=by
  obtain⟨id,inc,now,par,pinc,grd,path,ep,born,ask,unt,stp,kids⟩:=t
  obtain⟨h1,h2,h3,h4,h5,h6,h7,h8,h9,h10⟩:=h
  unfold W_bd V_bd W_K V_K freshM
  try simp only
  rw[wr_m (by omega) (by omega)]
  by_cases c:id=1
  · rw[dT c,cnd_t,if_pos c]
  · rw[dF c,cnd_f,if_neg c]
    by_cases c2:par≠0
    · rw[dT c2,cnd_t,obind_s,if_pos c2]
    · rw[dF c2,cnd_f,if_neg c2]
theorem tellWay_eq (N:Nat) {B:Int} (t:TT) (h:Tb B t) (hB:B≤1000000000) (k to:Int):W_aw N (t,k,to)=some (fullM t k to 0):=by
  obtain⟨id,inc,now,par,pinc,grd,path,ep,born,ask,unt,stp,kids⟩:=t
  obtain⟨h1,h2,h3,h4,h5,h6,h7,h8,h9,h10⟩:=h
  unfold W_aw V_aw W_K V_K
  try simp only
  rw[tell_eq,obind_s,wr_m (by omega) (by omega),obind_s,pCloneN N path (by omega),obind_s]
  rfl
theorem twinT_eq (N:Nat) {B:Int} (t:TT) (h:Tb B t):W_2 N t=some t:=by
  have hk:=h.kl
  obtain⟨id,inc,now,par,pinc,grd,path,ep,born,ask,unt,stp,kids⟩:=t
  obtain⟨h1,h2,h3,h4,h5,h6,h7,h8,h9,h10⟩:=h
  unfold W_2 V_2
  simp only at hk ⊢
  rw[pCloneN N path (by omega),obind_s,pCloneK N kids (by omega),obind_s]
theorem Tb.mono {B B':Int} {t:TT} (h:Tb B t) (hB:B≤B'):Tb B' t:=by
  obtain⟨id,inc,now,par,pinc,grd,path,ep,born,ask,unt,stp,kids⟩:=t
  obtain⟨h1,h2,h3,h4,h5,h6,h7,h8,h9,h10⟩:=h
  exact⟨h1,by omega,by omega,by omega,by omega,by omega,h7,h8,h9,h10⟩
theorem tick1_def (id inc now par pinc grd:Int) (path:List Int) (ep born ask unt stp:Int) (kids:List Kd):tick1 (id,inc,now,par,pinc,grd,path,ep,born,ask,unt,stp,kids)=if id=1∧(now+1) % 2=0 then(id,inc,now+1,par,pinc,grd,path,ep+1,now+1,ask,unt,stp,prK (now+1) kids)
    else(id,inc,now+1,par,pinc,grd,path,ep,born,ask,unt,stp,prK (now+1) kids):=rfl
theorem Tb.t1 {B:Int} {t:TT} (h:Tb B t):Tb (B+1) (tick1 t):=by
  obtain⟨id,inc,now,par,pinc,grd,path,ep,born,ask,unt,stp,kids⟩:=t
  obtain⟨h1,h2,h3,h4,h5,h6,h7,h8,h9,h10⟩:=h
  rw[tick1_def]
  split
  · exact⟨h1,by omega,by omega,by omega,by omega,by omega,h7,h8.filter _,h9,h10⟩
  · exact⟨h1,by omega,by omega,by omega,by omega,by omega,h7,h8.filter _,h9,h10⟩
theorem Tb.off {B:Int} {t:TT} (h:Tb B t) {s:Int} (hs:0≤s∧s≤B):Tb B (letgo t s):=by
  obtain⟨id,inc,now,par,pinc,grd,path,ep,born,ask,unt,stp,kids⟩:=t
  obtain⟨h1,h2,h3,h4,h5,h6,h7,h8,h9,h10⟩:=h
  exact⟨h1,h2,h3,hs,h5,h6,by simp,h8,by omega,h10⟩
theorem Tb.b0 {B:Int} {t:TT} (h:Tb B t):0≤B:=by
  obtain⟨id,inc,now,par,pinc,grd,path,ep,born,ask,unt,stp,kids⟩:=t
  obtain⟨h1,h2,h3,h4,h5,h6,h7,h8,h9,h10⟩:=h
  omega
theorem Tb.t2 {B:Int} {t:TT} (h:Tb B t):Tb B (tick2 t):=by
  unfold tick2
  split
  · exact h.off ⟨by omega,h.b0⟩
  · exact h
theorem Tb.vain {B:Int} {t:TT} (h:Tb B t):Tb (B+1) (vainM t):=by
  obtain⟨id,inc,now,par,pinc,grd,path,ep,born,ask,unt,stp,kids⟩:=t
  obtain⟨h1,h2,h3,h4,h5,h6,h7,h8,h9,h10⟩:=h
  exact⟨h1,by omega,by omega,by omega,by omega,by omega,h7,h8,by omega,h10⟩
theorem Tb.seek {B:Int} {t:TT} (h:Tb B t):Tb (B+1) (seekM t).1∧(seekM t).2.length≤1:=by
  obtain⟨id,inc,now,par,pinc,grd,path,ep,born,ask,unt,stp,kids⟩:=t
  obtain⟨h1,h2,h3,h4,h5,h6,h7,h8,h9,h10⟩:=h
  unfold seekM
  try simp only
  split
  · split
    · exact⟨⟨h1,by omega,by omega,by omega,by omega,by omega,h7,h8,by split<;>omega,h10⟩,by simp⟩
    · exact⟨⟨h1,by omega,by omega,by omega,by omega,by omega,h7,h8,h9,h10⟩,by simp⟩
  · exact⟨⟨h1,by omega,by omega,by omega,by omega,by omega,h7,h8,by split<;>omega,h10⟩,by simp⟩
theorem Tb.t3 {B:Int} {t:TT} (h:Tb B t):Tb (B+1) (tick3 t).1∧(tick3 t).2.length≤1:=by
  unfold tick3
  split
  · exact h.seek
  · exact⟨h.mono (by omega),by simp⟩
theorem Tb.tick {B:Int} {t:TT} (h:Tb B t):Tb (B+2) (tickM t).2:=by
  have:=(h.t1.t2.t3).1
  rwa [show B+1+1=B+2 by omega] at this
def grandM (p:List Int):Int:=if (p.length:Int)<2 then 0 else p.getD (p.length-2) 0
def grdM (p:List Int):Int:=if grandM p=0 then 1 else grandM p
def isUp (t:TT) (m:Ms):Prop:=t.2.2.2.1≠0∧m.2.1=t.2.2.2.1
def isAsk (t:TT) (m:Ms):Prop:=t.2.2.2.2.2.2.2.2.2.1≠0∧m.2.1=t.2.2.2.2.2.2.2.2.2.1
instance (t:TT) (m:Ms):Decidable (isUp t m):=by unfold isUp;infer_instance
instance (t:TT) (m:Ms):Decidable (isAsk t m):=by unfold isAsk;infer_instance
def withK:TT→List Kd→TT
  | (id,inc,now,par,pinc,grd,path,ep,born,ask,unt,stp,_),kids=>(id,inc,now,par,pinc,grd,path,ep,born,ask,unt,stp,kids)
def hearM (l:List Kd) (k:Kd):List Kd:=if oldK l k.1 k.2.1=true then l else putK k l
def mostM (t:TT):Int:=if t.1=1 then 8 else 3
def attachM (t:TT) (m:Ms) (lo:Int):List Ms×TT:=
  if freshM t=false∨m.2.1∈t.2.2.2.2.2.2.1∨((findK t.2.2.2.2.2.2.2.2.2.2.2.2 m.2.1).1=false∧mostM t≤(t.2.2.2.2.2.2.2.2.2.2.2.2.length:Int)) then([sayM t 3 m.2.1],t)
  else([fullM t 2 m.2.1 lo],withK t (hearM t.2.2.2.2.2.2.2.2.2.2.2.2 (m.2.1,m.2.2.2.1,t.2.2.1)))
open Classical in
def acceptM (t:TT) (m:Ms):List Ms×TT:=
  if isUp t m then([],t) else if isAsk t m∧t.2.2.2.1=0 then
    if VP (m.2.2.2.2.2.2.1++[t.1])∧m.2.2.2.2.2.1≤20 then
      ([],(t.1,t.2.1,t.2.2.1,m.2.1,m.2.2.2.1,grdM m.2.2.2.2.2.2.1,m.2.2.2.2.2.2.1++[t.1],m.2.2.2.2.1,t.2.2.1-m.2.2.2.2.2.1,0,t.2.2.2.2.2.2.2.2.2.2.1,0,t.2.2.2.2.2.2.2.2.2.2.2.2))
    else([sayM t 6 m.2.1],vainM t)
  else([sayM t 6 m.2.1],t)
def refuseM (t:TT) (m:Ms):TT:=if isUp t m then letgo t 0 else if isAsk t m then vainM t else t
def beatUpM (t:TT) (m:Ms):List Ms×TT:=
  if (findK t.2.2.2.2.2.2.2.2.2.2.2.2 m.2.1).1=false then([sayM t 3 m.2.1],t) else([],withK t (hearM t.2.2.2.2.2.2.2.2.2.2.2.2 (m.2.1,m.2.2.2.1,t.2.2.1)))
open Classical in
def beatDnM (t:TT) (m:Ms):List Ms×TT:=
  if isUp t m then
    if VP (m.2.2.2.2.2.2.1++[t.1]) then
      ([],(t.1,t.2.1,t.2.2.1,t.2.2.2.1,t.2.2.2.2.1,grdM m.2.2.2.2.2.2.1,m.2.2.2.2.2.2.1++[t.1],if t.2.2.2.2.2.2.2.2.1<t.2.2.1-m.2.2.2.2.2.1 then m.2.2.2.2.1 else t.2.2.2.2.2.2.2.1,if t.2.2.2.2.2.2.2.2.1<t.2.2.1-m.2.2.2.2.2.1 then t.2.2.1-m.2.2.2.2.2.1 else t.2.2.2.2.2.2.2.2.1,t.2.2.2.2.2.2.2.2.2))
    else([sayM t 6 m.2.1],letgo t 1)
  else([sayM t 6 m.2.1],t)
def dispM (t:TT) (m:Ms) (lo:Int):List Ms×TT:=
  if m.1=1 then attachM t m lo else if m.1=2 then acceptM t m else if m.1=3 then([],refuseM t m) else if m.1=4 then beatUpM t m else if m.1=5 then beatDnM t m
  else if m.1=6 then([],withK t (t.2.2.2.2.2.2.2.2.2.2.2.2.filter fun k=>!decide (k.1=m.2.1))) else([],t)
def comesT (t:TT) (m:Ms) (lo:Int):List Ms×TT:=
  if oldK t.2.2.2.2.2.2.2.2.2.2.2.2 m.2.1 m.2.2.2.1=true then([],t) else
  if isUp t m then(if m.2.2.2.1<t.2.2.2.2.1 then([],t) else dispM (if t.2.2.2.2.1<m.2.2.2.1 then letgo t 0 else t) m lo) else dispM t m lo
structure Mb (m:Ms):Prop where
  fr:1≤m.2.1∧m.2.1≤8
  age:0≤m.2.2.2.2.2.1∧m.2.2.2.2.2.1≤1000
  ep:0≤m.2.2.2.2.1∧m.2.2.2.2.1≤1000
  pl:m.2.2.2.2.2.2.1.length≤1000
theorem of_eq (N:Nat) (t:TT) (m:Ms):W_p N (t,m)=some (if isUp t m then .inl () else if isAsk t m then .inr (.inl ()) else .inr (.inr ())):=by
  unfold W_p V_p
  try simp only
  by_cases u:isUp t m
  · rw[if_pos u,dT u.1,cnd_t,dT u.2,cnd_t]
  rw[if_neg u]
  by_cases a:isAsk t m
  · rw[if_pos a]
    by_cases c1:t.2.2.2.1≠0
    · rw[dT c1,cnd_t,dF (fun q=>u ⟨c1,q⟩),cnd_f,dT a.1,cnd_t,dT a.2,cnd_t]
    · rw[dF c1,cnd_f,dT a.1,cnd_t,dT a.2,cnd_t]
  · rw[if_neg a]
    have tail:cnd (decide (t.2.2.2.2.2.2.2.2.2.1≠(0:Int))) (cnd (decide (m.2.1=t.2.2.2.2.2.2.2.2.2.1)) (some (Sum.inr (Sum.inl ()))) (some (Sum.inr (Sum.inr ())))) (some (Sum.inr (Sum.inr ())))=(some (Sum.inr (Sum.inr ())):Option (Unit⊕(Unit⊕Unit))):=by
      by_cases c3:t.2.2.2.2.2.2.2.2.2.1≠0
      · rw[dT c3,cnd_t,dF (fun q=>a ⟨c3,q⟩),cnd_f]
      · rw[dF c3,cnd_f]
    by_cases c1:t.2.2.2.1≠0
    · rw[dT c1,cnd_t,dF (fun q=>u ⟨c1,q⟩),cnd_f]
      exact tail
    · rw[dF c1,cnd_f]
      exact tail
theorem Tb.hear {B:Int} {t:TT} (h:Tb B t) (N:Nat) (hN:2000≤N) (a b c:Int):∃q,W_x N (t.2.2.2.2.2.2.2.2.2.2.2.2,a,b,c)=some (hearM t.2.2.2.2.2.2.2.2.2.2.2.2 (a,b,c),q):=by
  have hk:=h.kl
  obtain⟨id,inc,now,par,pinc,grd,path,ep,born,ask,unt,stp,kids⟩:=t
  obtain⟨h1,h2,h3,h4,h5,h6,h7,h8,h9,h10⟩:=h
  have:=hear_eq N hN kids 1 (a,b,c) h8 (by simp only at hk;omega)
  simp only at this ⊢
  rw[this]
  unfold hearM
  split
  · exact⟨_,rfl⟩
  · exact⟨_,rfl⟩
theorem Tb.find {B:Int} {t:TT} (h:Tb B t) (N:Nat) (hN:2000≤N) (a:Int):W_n N (t.2.2.2.2.2.2.2.2.2.2.2.2,a)=some (findK t.2.2.2.2.2.2.2.2.2.2.2.2 a):=by
  have hk:=h.kl
  obtain⟨id,inc,now,par,pinc,grd,path,ep,born,ask,unt,stp,kids⟩:=t
  obtain⟨h1,h2,h3,h4,h5,h6,h7,h8,h9,h10⟩:=h
  exact find_eq N hN kids a 1 h8 (by simp only at hk;omega)
theorem Tb.old {B:Int} {t:TT} (h:Tb B t) (N:Nat) (hN:2000≤N) (a b:Int):W_A N (t.2.2.2.2.2.2.2.2.2.2.2.2,a,b)=some (oldK t.2.2.2.2.2.2.2.2.2.2.2.2 a b):=by
  have hk:=h.kl
  obtain⟨id,inc,now,par,pinc,grd,path,ep,born,ask,unt,stp,kids⟩:=t
  obtain⟨h1,h2,h3,h4,h5,h6,h7,h8,h9,h10⟩:=h
  exact old_eq N hN kids a b 1 h8 (by simp only at hk;omega)
theorem Tb.pl {B:Int} {t:TT} (h:Tb B t):t.2.2.2.2.2.2.1.length≤10:=by
  obtain⟨id,inc,now,par,pinc,grd,path,ep,born,ask,unt,stp,kids⟩:=t
  obtain⟨h1,h2,h3,h4,h5,h6,h7,h8,h9,h10⟩:=h
  exact h7
theorem Tb.wk {B:Int} {t:TT} (h:Tb B t) {l:List Kd} (hl:Kw 1 l):Tb B (withK t l):=by
  obtain⟨id,inc,now,par,pinc,grd,path,ep,born,ask,unt,stp,kids⟩:=t
  obtain⟨h1,h2,h3,h4,h5,h6,h7,h8,h9,h10⟩:=h
  exact⟨h1,h2,h3,h4,h5,h6,h7,hl,h9,h10⟩
theorem Tb.kw {B:Int} {t:TT} (h:Tb B t):Kw 1 t.2.2.2.2.2.2.2.2.2.2.2.2:=by
  obtain⟨id,inc,now,par,pinc,grd,path,ep,born,ask,unt,stp,kids⟩:=t
  obtain⟨h1,h2,h3,h4,h5,h6,h7,h8,h9,h10⟩:=h
  exact h8
theorem Kw.hear {l:List Kd} (h:Kw 1 l) {k:Kd} (h1:1≤k.1) (h2:k.1≤8):Kw 1 (hearM l k):=by
  unfold hearM
  split
  · exact h
  · exact h.put h1 h2
theorem withK_eq (t:TT) (l:List Kd):(t.1,t.2.1,t.2.2.1,t.2.2.2.1,t.2.2.2.2.1,t.2.2.2.2.2.1,t.2.2.2.2.2.2.1,t.2.2.2.2.2.2.2.1,t.2.2.2.2.2.2.2.2.1,t.2.2.2.2.2.2.2.2.2.1,t.2.2.2.2.2.2.2.2.2.2.1,t.2.2.2.2.2.2.2.2.2.2.2.1,l)=withK t l:=by
  obtain⟨id,inc,now,par,pinc,grd,path,ep,born,ask,unt,stp,kids⟩:=t
  rfl
theorem most_eq (N:Nat) (t:TT):W_bh N t=some (mostM t):=by
  unfold W_bh V_bh mostM
  by_cases c:t.1=1
  · rw[dT c,cnd_t,if_pos c]
  · rw[dF c,cnd_f,if_neg c]
theorem grand_eq (N:Nat) (p:List Int) (h:p.length≤1000):W_a5 N p=some (grandM p):=by
  unfold W_a5 V_a5 grandM
  by_cases c:(p.length:Int)<2
  · rw[dT c,cnd_t,if_pos c]
  · have w:wr .i64 ((p.length:Int)-2)=((p.length-2:Nat):Int):=by rw[wr_m (by omega) (by omega)];omega
    rw[dF c,cnd_f,if_neg c,w,dT (by omega),dT (by omega),Bool.and_self,cnd_t,Int.toNat_natCast]
theorem under_eq (N:Nat) (t:TT) (m:Ms) (w:List Int) (h:m.2.2.2.2.2.2.1.length≤1000):W_H N (t,m,w)=some (t.1,t.2.1,t.2.2.1,t.2.2.2.1,t.2.2.2.2.1,grdM m.2.2.2.2.2.2.1,w,t.2.2.2.2.2.2.2):=by
  unfold W_H V_H grdM
  try simp only
  rw[grand_eq N _ h,obind_s]
  by_cases c:grandM m.2.2.2.2.2.2.1=0
  · rw[dT c,cnd_t,if_pos c]
  · rw[dF c,cnd_f,if_neg c]
theorem refuse_eq (N:Nat) {B:Int} (t:TT) (h:Tb B t) (hB:B≤1000000) (m:Ms):W_ai N (t,m)=some (refuseM t m):=by
  have hv:=vain_eq N t h (by omega)
  unfold W_ai V_ai refuseM
  try simp only
  rw[of_eq,obind_s]
  by_cases u:isUp t m
  · rw[if_pos u,selim_l,selim_l,letGo_eq,obind_s,if_pos u]
  rw[if_neg u,if_neg u]
  by_cases a:isAsk t m
  · rw[if_pos a,selim_r,selim_l,hv,obind_s,if_pos a]
  · rw[if_neg a,selim_r,selim_r,selim_r,selim_r,if_neg a]
theorem VP_rng {p:List Int} (h:VP p):∀x∈p,1≤x∧x≤8:=by
  intro x hx
  obtain⟨j,hj,rfl⟩:=mem_getD hx
  exact⟨(h.2.2.2 j hj).1,(h.2.2.2 j hj).2.1⟩
theorem grdM_rng {p:List Int} (h:∀x∈p,1≤x∧x≤8):0≤grdM p∧grdM p≤8:=by
  have hg:0≤grandM p∧grandM p≤8:=by
    unfold grandM
    split
    · omega
    · have:=h _ (getD_mem (l:=p) (j:=p.length-2) (by omega));omega
  unfold grdM
  split<;>omega
theorem Tb.disp {B:Int} {t:TT} (h:Tb B t) (m:Ms) (hm:Mb m) (lo:Int) (h1B:1≤B):Tb (B+1) (dispM t m lo).2:=by
  have hmo:=h.mono (B':=B+1) (by omega)
  have hk:Tb (B+1) (withK t (hearM t.2.2.2.2.2.2.2.2.2.2.2.2 (m.2.1,m.2.2.2.1,t.2.2.1))):=hmo.wk (h.kw.hear (k:=(m.2.1,m.2.2.2.1,t.2.2.1)) hm.fr.1 hm.fr.2)
  unfold dispM
  split
  · unfold attachM
    split
    · exact hmo
    · exact hk
  split
  · unfold acceptM
    split
    · exact hmo
    split
    · split
      · rename_i q
        have hr:=VP_rng q.1
        have hg:=grdM_rng (p:=m.2.2.2.2.2.2.1) (fun x hx=>hr x (List.mem_append_left _ hx))
        have hl:=q.1.2.1
        have ha:=hm.age;have he:=hm.ep
        obtain⟨id,inc,now,par,pinc,grd,path,ep,born,ask,unt,stp,kids⟩:=t
        obtain⟨h1,h2,h3,h4,h5,h6,h7,h8,h9,h10⟩:=h
        exact⟨h1,by (try simp only);omega,by (try simp only);omega,by (try simp only);omega,by (try simp only);omega,by (try simp only);omega,hl,h8,by (try simp only);omega,hg⟩
      · exact h.vain
    · exact hmo
  split
  · unfold refuseM
    try simp only
    split
    · exact hmo.off ⟨by omega,by omega⟩
    · split
      · exact h.vain
      · exact hmo
  split
  · unfold beatUpM
    split
    · exact hmo
    · exact hk
  split
  · unfold beatDnM
    split
    · split
      · rename_i q
        have hr:=VP_rng q
        have hg:=grdM_rng (p:=m.2.2.2.2.2.2.1) (fun x hx=>hr x (List.mem_append_left _ hx))
        have hl:=q.2.1
        have ha:=hm.age;have he:=hm.ep
        obtain⟨id,inc,now,par,pinc,grd,path,ep,born,ask,unt,stp,kids⟩:=t
        obtain⟨h1,h2,h3,h4,h5,h6,h7,h8,h9,h10⟩:=h
        refine⟨h1,by (try simp only);omega,?_,by (try simp only);omega,by (try simp only);omega,?_,hl,h8,h9,hg⟩
        · simp only;split<;>omega
        · simp only;split<;>omega
      · exact hmo.off ⟨by omega,by omega⟩
    · exact hmo
  split
  · exact hmo.wk (h.kw.filter _)
  · exact hmo
theorem Tb.comes {B:Int} {t:TT} (h:Tb B t) (m:Ms) (hm:Mb m) (lo:Int) (h1B:1≤B):Tb (B+1) (comesT t m lo).2:=by
  have hmo:=h.mono (B':=B+1) (by omega)
  unfold comesT
  split
  · exact hmo
  split
  · split
    · exact hmo
    · split
      · exact(h.off (s:=0) ⟨by omega,by omega⟩).disp m hm lo h1B
      · exact h.disp m hm lo h1B
  · exact h.disp m hm lo h1B
theorem Mb.of {m:Ms} (h:MayP m) (hs:Sh m):Mb m:=by
  have e:=h.2.2.2.2.2.1
  refine⟨h.2.1,⟨hs.a.1,by have:=hs.a.2;omega⟩,⟨hs.e.1,by have:=hs.e.2;omega⟩,?_⟩
  have hf:=h.2.2.2.2.2.2
  unfold Fits at hf
  by_cases c:m.1=2∨m.1=5
  · rw[if_pos c] at hf
    have:=hf.2.2.1.2.1;omega
  · have hp:m.2.2.2.2.2.2.1=[]:=by
      rw[e]
      obtain⟨k,f,t,i,e,a,p,lo,hi,s⟩:=m
      unfold ownF
      simp only at c ⊢
      split
      · rename_i q;exact absurd (.inl q) c
      · split
        · rename_i q;exact absurd (.inr q) c
        · split
          · rfl
          · split<;>rfl
    rw[hp];simp
theorem Over_eq (N:Nat) (l:List Int) (n:Int):W_3 N (l,n)=some (decide ((l.length:Int)≤n),l,n):=rfl
theorem wr_u32 {z:Int} (h:0≤z) (h2:z≤4294967295):wr .u32 z=z:=by
  have e1:lo .u32=0:=by rfl
  have e2:hi .u32=4294967295:=by rfl
  unfold wr
  rw[if_pos ⟨by omega,by omega⟩]
theorem wr_i32 {z:Int} (h:-2147483648≤z) (h2:z≤2147483647):wr .i32 z=z:=by
  have e1:lo .i32=-2147483648:=by rfl
  have e2:hi .i32=2147483647:=by rfl
  unfold wr
  rw[if_pos ⟨by omega,by omega⟩]
theorem getD_memI {l:List Int} {j:Nat} (h:j<l.length):l.getD j 0∈l:=by
  rw[List.getD_eq_getElem?_getD,List.getElem?_eq_getElem h];exact List.getElem_mem h
def X (a b:Int):Int:=((BitVec.ofInt 32 a ^^^ BitVec.ofInt 32 b).toNat:Int)
theorem X_rng (a b:Int):0≤X a b∧X a b≤4294967295:=by
  unfold X
  have:=(BitVec.ofInt 32 a ^^^ BitVec.ofInt 32 b).isLt
  omega
theorem X_wr (a b:Int):wr .u32 ((BitVec.ofInt 32 a ^^^ BitVec.ofInt 32 b).toNat:Int)=X a b:=wr_u32 (X_rng a b).1 (X_rng a b).2
theorem and_one (v:Int) (h:0≤v) (h2:v≤4294967295):wr .u32 ((BitVec.ofInt 32 v &&& BitVec.ofInt 32 1).toNat:Int)=v % 2:=by
  have e:(BitVec.ofInt 32 v &&& BitVec.ofInt 32 1).toNat=(v % 2).toNat:=by
    rw[BitVec.toNat_and,BitVec.toNat_ofInt,BitVec.toNat_ofInt]
    have e1:((1:Int) % ((2 ^ 32:Nat):Int)).toNat=1:=by decide
    have e2:(v % ((2 ^ 32:Nat):Int)).toNat=v.toNat:=by
      have:v % ((2 ^ 32:Nat):Int)=v:=Int.emod_eq_of_lt h (by omega)
      rw[this]
    rw[e1,e2,Nat.and_one_is_mod]
    omega
  rw[e,wr_u32 (by omega) (by omega)]
  omega
def s1 (c:Int):Int:=if c % 2=1 then X (c / 2) 3988292384 else c / 2
theorem s1_rng {c:Int} (h:0≤c) (h2:c≤4294967295):0≤s1 c∧s1 c≤4294967295:=by
  unfold s1
  split
  · exact X_rng _ _
  · omega
def s1n:Nat→Int→Int
  | 0,c=>c
  | n+1,c=>s1 (s1n n c)
theorem s1n_rng {c:Int} (h:0≤c) (h2:c≤4294967295):∀n,0≤s1n n c∧s1n n c≤4294967295
  | 0=>⟨h,h2⟩
  | n+1=>s1_rng (s1n_rng h h2 n).1 (s1n_rng h h2 n).2
theorem loop8 {N:Nat} (hN:9≤N) {f:Int×Int→Option ((Int×Int)⊕Int)} {c:Int} (h:0≤c) (h2:c≤4294967295) (hf:∀v:Int×Int,0≤v.1→v.1≤4294967295→0≤v.2→v.2<8→f v=some (.inl (s1 v.1,v.2+1)))
    (he:∀v:Int×Int,¬v.2<8→f v=some (.inr v.1)):loopN N f (c,0)=some (s1n 8 c):=by
  obtain⟨r,h1,h3⟩:=loopN_run (N:=N) (f:=f) (x:=(c,0)) (fun v=>0≤v.2∧v.2≤8∧v.1=s1n v.2.toNat c) (fun v=>8-v.2.toNat) (fun r=>r=s1n 8 c) (fun v ⟨g1,g2,g3⟩=>by
    by_cases hv:v.2<8
    · left
      have hr:=s1n_rng h h2 v.2.toNat
      rw[hf v (by omega) (by omega) g1 hv]
      refine⟨_,rfl,⟨by simp only;omega,by simp only;omega,?_⟩,by simp only;omega⟩
      try simp only
      rw[show (v.2+1).toNat=v.2.toNat+1 by omega,g3];rfl
    · right
      rw[he v hv]
      refine⟨_,rfl,?_⟩
      rw[g3,show v.2.toNat=8 by omega]) ⟨by simp,by simp,rfl⟩ (by simp;omega)
  rw[h1,h3]
def fold (c:Int) (l:List Int):Int:=l.foldl (fun c b=>s1n 8 (X c b)) c
theorem fold_snoc (c:Int) (l:List Int) (b:Int):fold c (l++[b])=s1n 8 (X (fold c l) b):=by simp[fold]
theorem fold_rng {c:Int} (h:0≤c) (h2:c≤4294967295):∀l:List Int,0≤fold c l∧fold c l≤4294967295:=by
  intro l
  induction l generalizing c with
  | nil=>exact⟨h,h2⟩
  | cons b r ih=>
    have hx:=X_rng c b
    have:=s1n_rng hx.1 hx.2 8
    exact ih this.1 this.2
theorem loopB {N:Nat} {x:List Int} (hN:x.length<N) {f:Int×Int→Option ((Int×Int)⊕Int)} (hf:∀v:Int×Int,0≤v.1→v.1≤4294967295→0≤v.2→v.2<x.length→f v=some (.inl (s1n 8 (X v.1 (x.getD v.2.toNat 0)),v.2+1)))
    (he:∀v:Int×Int,¬v.2<x.length→f v=some (.inr v.1)):loopN N f (4294967295,0)=some (fold 4294967295 x):=by
  obtain⟨r,h1,h3⟩:=loopN_run (N:=N) (f:=f) (x:=(4294967295,0)) (fun v=>0≤v.2∧v.2≤x.length∧v.1=fold 4294967295 (x.take v.2.toNat)) (fun v=>x.length-v.2.toNat) (fun r=>r=fold 4294967295 x) (fun v ⟨g1,g2,g3⟩=>by
    by_cases hv:v.2<x.length
    · left
      have hr:=fold_rng (c:=4294967295) (by omega) (by omega) (x.take v.2.toNat)
      rw[hf v (by omega) (by omega) g1 hv]
      refine⟨_,rfl,⟨by simp only;omega,by simp only;omega,?_⟩,by simp only;omega⟩
      try simp only
      have hl:v.2.toNat<x.length:=by omega
      have e:x.take (v.2.toNat+1)=x.take v.2.toNat++[x.getD v.2.toNat 0]:=by
        rw[List.getD_eq_getElem?_getD,List.getElem?_eq_getElem hl]
        simp
      rw[show (v.2+1).toNat=v.2.toNat+1 by omega,e,fold_snoc,g3]
    · right
      rw[he v hv]
      refine⟨_,rfl,?_⟩
      rw[g3,List.take_of_length_le (by omega)]) ⟨by simp,by simp,rfl⟩ (by simp;omega)
  rw[h1,h3]
theorem obind_self {α:Type} (m:Option α):obind m (fun b=>some b)=m:=by cases m<;>rfl
theorem step_eq (N:Nat) (hN:9≤N) (c b:Int) (hb:0≤b∧b≤255):W_bk N (c,b)=some (s1n 8 (X c b)):=by
  unfold W_bk V_bk
  try simp only
  rw[obind_self,wr_u32 (z:=b) (by omega) (by omega),X_wr]
  refine loop8 hN (X_rng c b).1 (X_rng c b).2 (fun v g1 g2 g3 g4=>?_) (fun v h=>by rw[dF h,cnd_f])
  rw[dT g4,cnd_t,and_one _ g1 g2,X_wr,wr_s (by omega) (by omega)]
  have e:Int.fdiv v.1 ((2:Int) ^ 1)=v.1 / 2:=Int.fdiv_eq_ediv_of_nonneg _ (by decide)
  rw[e]
  unfold s1
  by_cases h:v.1 % 2=1
  · rw[dT h,cnd_t,if_pos h]
  · rw[dF h,cnd_f,if_neg h]
theorem Sum_eq (N:Nat) (x:List Int) (hN:9≤N) (hx:x.length<N) (hl:x.length≤1000000) (h:∀b∈x,0≤b∧b≤255):W_bq N x=some (X (IntKind.max .u32) (fold 4294967295 x)):=by
  unfold W_bq V_bq
  rw[loopB hx (fun v g1 g2 g3 g4=>?_) (fun v h=>by rw[dF h,cnd_f]),obind_s,X_wr]
  have hb:=h _ (getD_memI (l:=x) (j:=v.2.toNat) (by omega))
  rw[dT g4,cnd_t,dT g3,Bool.and_self,cnd_t,wr_i32 (by omega) (by omega),step_eq N hN _ _ hb,obind_s,wr_s (by omega) (by omega)]
def U8 (l:List Int):Prop:=∀n∈l,0≤n∧n≤255
theorem U8_all {l:List Int} (h:U8 l):(List.all l fun(n:Int)=>decide ((0:Int)≤n)&&decide (n<(256:Int)))=true:=by
  rw[List.all_eq_true]
  intro n hn
  have:=h n hn
  simp only[Bool.and_eq_true,decide_eq_true_eq];omega
theorem U8_app {a b:List Int} (ha:U8 a) (hb:U8 b):U8 (a++b):=fun n hn=>(List.mem_append.1 hn).elim (ha n) (hb n)
theorem U8_take {a:List Int} (ha:U8 a) (k:Nat):U8 (a.take k):=fun n hn=>ha n (List.mem_of_mem_take hn)
theorem U8_drop {a:List Int} (ha:U8 a) (k:Nat):U8 (a.drop k):=fun n hn=>ha n (List.mem_of_mem_drop hn)
theorem U8_get {a:List Int} (ha:U8 a) (j:Nat) (hj:j<a.length):0≤a.getD j 0∧a.getD j 0≤255:=by
  rw[List.getD_eq_getElem?_getD,List.getElem?_eq_getElem hj]
  exact ha _ (List.getElem_mem hj)
def encF:Nat→Int→List Int
  | 0,v=>[v]
  | k+1,v=>if v<128 then [v] else(v % 128+128)::encF k (v / 128)
theorem encF_U8:∀(k:Nat) (v:Int),0≤v→v<128*128 ^ k→U8 (encF k v)∧(encF k v).length≤k+1∧0<(encF k v).length
  | 0,v,h,h2=>by
    refine⟨fun n hn=>?_,by simp[encF],by simp[encF]⟩
    simp only[encF,List.mem_singleton] at hn
    subst hn
    simp at h2
    omega
  | k+1,v,h,h2=>by
    simp only[encF]
    split
    · refine⟨fun n hn=>?_,by simp,by simp⟩
      simp only[List.mem_singleton] at hn
      subst hn;omega
    · have h3:v<128*128 ^ k*128:=by rw[Int.pow_succ] at h2;omega
      obtain⟨a,b,_⟩:=encF_U8 k (v / 128) (by omega) (by omega)
      refine⟨fun n hn=>?_,by simp only[List.length_cons];omega,by simp⟩
      rcases List.mem_cons.1 hn with rfl | hn
      · omega
      · exact a n hn
theorem putLoop {f:Int×List Int→Option ((Int×List Int)⊕(Int×List Int))} (h1:∀v l,0≤v→v<128→f (v,l)=some (.inr (v,l)))
    (h2:∀v l,128≤v→v≤1073741824→l.length≤2000→f (v,l)=some (.inl (v / 128,l++[v % 128+128]))):
    ∀(k N:Nat) (v:Int) (l:List Int),k<N→0≤v→v≤1073741824→v<128*128 ^ k→l.length+k≤2000→∃v' l',loopN N f (v,l)=some (v',l')∧l'++[v']=l++encF k v∧0≤v'∧v'<128
  | k,0,v,l,hN,_,_,_,_=>by omega
  | 0,N+1,v,l,hN,hv,hm,hk,hl=>by
    simp at hk
    exact⟨v,l,by simp only[loopN,h1 v l hv hk],rfl,hv,hk⟩
  | k+1,N+1,v,l,hN,hv,hm,hk,hl=>by
    by_cases c:v<128
    · exact⟨v,l,by simp only[loopN,h1 v l hv c],by simp only[encF,if_pos c],hv,c⟩
    · have h3:v<128*128 ^ k*128:=by rw[Int.pow_succ] at hk;omega
      obtain⟨v',l',e1,e2,e3,e4⟩:=putLoop h1 h2 k N (v / 128) (l++[v % 128+128]) (by omega) (by omega) (by omega) (by omega) (by simp only[List.length_append,List.length_singleton];omega)
      refine⟨v',l',by simp only[loopN,h2 v l (by omega) hm (by omega)];exact e1,?_,e3,e4⟩
      rw[e2]
      simp only[encF,if_neg c,List.append_assoc,List.singleton_append]
def enc (v:Int):List Int:=encF 4 v
theorem Clone_b (N:Nat) (l:List Int) (hl:l.length≤1000):W_g N l=some l:=by
  unfold W_g V_g
  rw[dT (by omega),cnd_t]
theorem stepP1 (v : Int) (l : List Int) (h : v < 128) : cnd (decide ((128 : Int) ≤ v))
              (cnd (decide ((List.length l+List.length [wr IntKind.u8 (wr IntKind.i64 (Int.tmod v (128:Int)+(128:Int)))])*(1:Nat)≤(140737488355328:Nat)))
                (some (Sum.inl (wr IntKind.i64 (Int.tdiv v (128:Int)),l++[wr IntKind.u8 (wr IntKind.i64 (Int.tmod v (128:Int)+(128:Int)))])))
                none)
              (some (Sum.inr (v,l):(Int×List Int)⊕(Int×List Int)))=some (Sum.inr (v,l)):=by rw[dF (by omega),cnd_f]
theorem stepP2 (v : Int) (l : List Int) (h : 128 ≤ v) (h2 : v ≤ 1073741824) (hl : l.length ≤ 2000) : cnd (decide ((128 : Int) ≤ v))
              (cnd (decide ((List.length l+List.length [wr IntKind.u8 (wr IntKind.i64 (Int.tmod v (128:Int)+(128:Int)))])*(1:Nat)≤(140737488355328:Nat)))
                (some (Sum.inl (wr IntKind.i64 (Int.tdiv v (128:Int)),l++[wr IntKind.u8 (wr IntKind.i64 (Int.tmod v (128:Int)+(128:Int)))])))
                none)
              (some (Sum.inr (v,l):(Int×List Int)⊕(Int×List Int)))=some (Sum.inl (v / 128,l++[v % 128+128])):=by
  rw[dT h,cnd_t,Int.tmod_eq_emod_of_nonneg (by omega),Int.tdiv_eq_ediv_of_nonneg (by omega),wr_m (by omega) (by omega),wr_m (by omega) (by omega),wr_u8 (by omega) (by omega),dT (by simp only[List.length_singleton];omega),cnd_t]
theorem Put_eq (N : Nat) (hN : 100 ≤ N) (l : List Int) (v : Int) (hl : l.length ≤ 1000) (h0 : 0 ≤ v) (h1 : v ≤ 1073741824) : W_X N (l, v) = some (l ++ enc v) := by
  unfold W_X V_X
  simp only[Clone_b N l hl,obind_s]
  rw[dF (by omega),cnd_f,dF (by omega),cnd_f]
  obtain⟨v',l',e1,e2,e3,e4⟩:=putLoop (f:=fun(v:Int×List Int)=>cnd (decide ((128:Int)≤Prod.fst v))
              (cnd (decide ((List.length (Prod.snd v)+List.length [wr IntKind.u8 (wr IntKind.i64 (Int.tmod (Prod.fst v) (128:Int)+(128:Int)))])*(1:Nat)≤(140737488355328:Nat)))
                (some (Sum.inl (wr IntKind.i64 (Int.tdiv (Prod.fst v) (128:Int)),Prod.snd v++[wr IntKind.u8 (wr IntKind.i64 (Int.tmod (Prod.fst v) (128:Int)+(128:Int)))])))
                none)
              (some (Sum.inr (Prod.fst v,Prod.snd v)))) (fun v l h h2=>stepP1 v l h2) (fun v l h h2 hl=>stepP2 v l h h2 hl) 4 N v l (by omega) h0 h1 (by omega) (by omega)
  rw[e1,obind_s]
  try simp only
  have hlen:l'.length≤1010:=by
    have:=congrArg List.length e2
    have h3:=(encF_U8 4 v h0 (by omega)).2.1
    simp only[List.length_append,List.length_singleton] at this
    omega
  rw[wr_u8 e3 (by omega),dT (by simp only[List.length_singleton];omega),cnd_t,e2]
  rfl
theorem enc_U8 {v:Int} (h0:0≤v) (h1:v≤1073741824):U8 (enc v)∧(enc v).length≤5∧0<(enc v).length:=encF_U8 4 v h0 (by omega)
def by8 (s:List UInt8):List Int:=List.map (fun(b:UInt8)=>(↑(UInt8.toNat b):Int)) s
theorem by8_U8 (s:List UInt8):U8 (by8 s):=by
  intro n hn
  obtain⟨b,_,rfl⟩:=List.mem_map.1 hn
  have:=b.toNat_lt
  omega
theorem PutText_eq (N:Nat) (hN:100≤N) (l:List Int) (s:List UInt8) (hl:l.length≤1000) (hs:s.length≤200):W_aU N (l,s)=some (l++enc s.length++by8 s):=by
  have h3:=(enc_U8 (v:=(s.length:Int)) (by omega) (by omega)).2.1
  unfold W_aU V_aU
  try simp only
  rw[dF (by omega),cnd_f,Put_eq N hN l _ hl (by omega) (by omega),obind_s,dT (by simp only[List.length_append,List.length_map];omega),cnd_t]
  rfl
def rd:List Int→Nat→Int→Int→Option (Int×Int)
  | [],_,_,_=>none
  | c::r,i,v,u=>if 5≤i then none else if c<128 then(if (0<i∧c=0)∨1073741824<v+c % 128*u then none else some (v+c % 128*u,(i:Int)+1)) else rd r (i+1) (v+c % 128*u) (u*128)
theorem rd_big:∀(l:List Int) (i:Nat) (v u:Int),U8 l→1073741824<v→0≤u→rd l i v u=none
  | [],_,_,_,_,_,_=>rfl
  | c::r,i,v,u,hU,hv,hu=>by
    have hc:=hU c (by simp)
    have hm:0≤c % 128*u:=Int.mul_nonneg (by omega) hu
    simp only[rd]
    split
    · rfl
    · split
      · rw[if_pos (.inr (by omega))]
      · exact rd_big r _ _ _ (fun n hn=>hU n (by simp[hn])) (by omega) (by omega)
theorem rd_rng:∀(l:List Int) (i:Nat) (v u:Int) (x n:Int),U8 l→0≤v→0≤u→rd l i v u=some (x,n)→0≤x∧x≤1073741824∧(i:Int)+1≤n∧n≤i+l.length∧n≤5
  | [],_,_,_,_,_,_,_,_,h=>by cases h
  | c::r,i,v,u,x,n,hU,hv,hu,h=>by
    have hc:=hU c (by simp)
    have hm:0≤c % 128*u:=Int.mul_nonneg (by omega) hu
    simp only[rd] at h
    split at h
    · cases h
    · split at h
      · split at h
        · cases h
        · rename_i h5 _ hn
          have hn2:¬1073741824<v+c % 128*u:=fun q=>hn (.inr q)
          injection h with h
          injection h with h1 h2
          subst h1 h2
          simp only[List.length_cons]
          omega
      · have:=rd_rng r (i+1) _ _ x n (fun n hn=>hU n (by simp[hn])) (by omega) (by omega) h
        simp only[List.length_cons]
        omega
theorem drop_cons {l:List Int} {i:Nat} (h:i<l.length):l.drop i=l.getD i 0::l.drop (i+1):=by
  rw[List.drop_eq_getElem_cons h,List.getD_eq_getElem?_getD,List.getElem?_eq_getElem h];rfl
def pw (i:Nat):Int:=128 ^ i
theorem pw_succ (i:Nat):pw (i+1)=pw i*128:=Int.pow_succ _ _
theorem pw_pos (i:Nat):0<pw i:=Int.pow_pos (by omega)
theorem pw_le {i:Nat} (h:i≤5):pw i≤34359738368:=by
  have:i=0∨i=1∨i=2∨i=3∨i=4∨i=5:=by omega
  rcases this with rfl | rfl | rfl | rfl | rfl | rfl<;>decide
structure RdI (x:List Int) (v u:Int) (i:Nat):Prop where
  le:i≤x.length
  i5:i≤5
  eu:u=pw i
  v0:0≤v
  v1:v<pw i
  same:rd (x.drop i) i v u=rd x 0 0 1
theorem RdI.zero (x:List Int):RdI x 0 1 0:=⟨by omega,by omega,rfl,by omega,by decide,rfl⟩
theorem RdI.bnd {x:List Int} {v u:Int} {i:Nat} (h:RdI x v u i) (hU:U8 x) (hi:i<x.length):0≤v+x.getD i 0 % 128*u∧v+x.getD i 0 % 128*u<pw (i+1)∧0≤x.getD i 0 % 128*u∧x.getD i 0 % 128*u≤127*pw i:=by
  have hc:=U8_get hU i hi
  have hp:=pw_pos i
  have e:=h.eu
  have v0:=h.v0
  have v1:=h.v1
  have h1:0≤x.getD i 0 % 128*u:=Int.mul_nonneg (by omega) (by omega)
  have h2:x.getD i 0 % 128*u≤127*u:=Int.mul_le_mul_of_nonneg_right (by omega) (by omega)
  rw[pw_succ]
  refine⟨by omega,by omega,h1,by omega⟩
theorem RdI.next {x:List Int} {v u:Int} {i:Nat} (h:RdI x v u i) (hU:U8 x) (hi:i<x.length) (h5:i<5) (hc:¬x.getD i 0<128):RdI x (v+x.getD i 0 % 128*u) (u*128) (i+1):=by
  obtain⟨b1,b2,_⟩:=h.bnd hU hi
  refine⟨by omega,by omega,by rw[h.eu,pw_succ],b1,b2,?_⟩
  rw[←h.same,drop_cons hi]
  simp only[rd]
  rw[if_neg (by omega),if_neg hc]
theorem RdI.at_ {x:List Int} {v u:Int} {i:Nat} (h:RdI x v u i) (hi:i<x.length):rd x 0 0 1=if 5≤i then none else if x.getD i 0<128 then(if (0<i∧x.getD i 0=0)∨1073741824<v+x.getD i 0 % 128*u then none else some (v+x.getD i 0 % 128*u,(i:Int)+1)) else rd (x.drop (i+1)) (i+1) (v+x.getD i 0 % 128*u) (u*128):=by
  rw[←h.same,drop_cons hi]
  rfl
theorem RdI.stop {x:List Int} {v u:Int} {i:Nat} (h:RdI x v u i) (hi:x.length≤i):rd x 0 0 1=none:=by
  rw[←h.same,List.drop_eq_nil_of_le hi];rfl
def tk (o:Option (Int×Int)):Int×Int×Bool:=match o with
  | some (v,n)=>(v,n,true)
  | none=>(0,0,false)
def tt (x:List Int):List UInt8×Int×Bool:=match rd x 0 0 1 with
  | some (v,n)=>if (x.length:Int)-n<v then([],0,false) else(bytesI ((x.take (n+v).toNat).drop n.toNat),n+v,true)
  | none=>([],0,false)
theorem mul_split (v u:Int):v % 128*u+v / 128*(u*128)=v*u:=by
  have h:=Int.emod_add_mul_ediv v 128
  have e:v / 128*(u*128)=128*(v / 128)*u:=by rw[Int.mul_comm u 128,←Int.mul_assoc,Int.mul_comm (v / 128) 128]
  rw[e,←Int.add_mul,h]
theorem rd_enc:∀(k:Nat) (v:Int) (r:List Int) (i:Nat) (acc u:Int),0≤v→v<128*128 ^ k→i+k≤4→(0<i→0<v)→acc+v*u≤1073741824→0≤u→rd (encF k v++r) i acc u=some (acc+v*u,(i:Int)+((encF k v).length:Int))
  | 0,v,r,i,acc,u,h0,h1,hi,hp,hm,hu=>by
    simp at h1
    simp only[encF,List.singleton_append,rd]
    rw[if_neg (by omega),if_pos h1,if_neg (by
      rintro(⟨a,b⟩ | a)
      · have:=hp a;omega
      · rw[Int.emod_eq_of_lt h0 h1] at a;omega),Int.emod_eq_of_lt h0 h1]
    rfl
  | k+1,v,r,i,acc,u,h0,h1,hi,hp,hm,hu=>by
    simp only[encF]
    split
    · rename_i hv
      simp only[List.singleton_append,rd]
      rw[if_neg (by omega),if_pos hv,if_neg (by
        rintro(⟨a,b⟩ | a)
        · have:=hp a;omega
        · rw[Int.emod_eq_of_lt h0 hv] at a;omega),Int.emod_eq_of_lt h0 hv]
      rfl
    · rename_i hv
      have h3:v<128*128 ^ k*128:=by rw[Int.pow_succ] at h1;omega
      have e1:(v % 128+128) % 128=v % 128:=by omega
      have e2:acc+v % 128*u+v / 128*(u*128)=acc+v*u:=by rw[Int.add_assoc,mul_split]
      simp only[List.cons_append,rd]
      rw[if_neg (by omega),if_neg (by omega),e1,rd_enc k (v / 128) r (i+1) (acc+v % 128*u) (u*128) (by omega) (by omega) (by omega) (fun _=>by omega) (by rw[e2];exact hm) (by omega),e2]
      simp only[List.length_cons]
      congr 2
      omega
theorem bytes_by8 (s:List UInt8):bytesI (by8 s)=s:=by
  unfold bytesI by8
  rw[List.map_map]
  conv=>rhs;rw[←List.map_id s]
  apply List.map_congr_left
  intro b _
  simp
theorem rd_put {v:Int} (h0:0≤v) (h1:v≤1073741824) (r:List Int):rd (enc v++r) 0 0 1=some (v,((enc v).length:Int)):=by
  have:=rd_enc 4 v r 0 0 1 h0 (by omega) (by omega) (fun h=>by omega) (by omega) (by omega)
  unfold enc
  rw[this]
  congr 2<;>omega
theorem tt_put (s:List UInt8) (r:List Int) (hs:s.length≤200):tt (enc s.length++by8 s++r)=(s,(((enc s.length++by8 s).length:Nat):Int),true):=by
  have hb:(by8 s).length=s.length:=by simp[by8]
  unfold tt
  rw[List.append_assoc,rd_put (by omega) (by omega)]
  try simp only
  rw[if_neg (by simp only[List.length_append,hb];omega)]
  have e1:(((enc s.length).length:Int)+(s.length:Int)).toNat=(enc s.length++by8 s).length:=by rw[List.length_append,hb];omega
  rw[e1,←List.append_assoc,List.take_left,Int.toNat_natCast,List.drop_left,bytes_by8]
  rw[List.length_append,hb]
  congr 2
theorem read_eq_2 (N:Nat) (hN:100≤N) (x:List Int) (hx:x.length≤1000) (hU:U8 x):W_S N x=some (match rd x 0 0 1 with | some p=>.inl p | none=>.inr ()):=by
  unfold W_S V_S
  refine obind_loop (fun v:Int×Int×Int=>∃i:Nat,v.2.2=i∧RdI x v.1 v.2.1 i) (fun v=>6-v.2.2.toNat) (fun r:PUnit⊕Int×Int⊕PUnit=>(r=.inl ()∧rd x 0 0 1=none)∨∃p,r=.inr (.inl p)∧rd x 0 0 1=some p) ⟨0,rfl,RdI.zero x⟩ (by show 6-Int.toNat 0<N;omega) ?_ ?_
  · rintro r (⟨rfl,h⟩ | ⟨p,rfl,h⟩)
    · rw[selim_l,h]
    · rw[selim_r,h]
  · rintro⟨v,u,w⟩ ⟨i,hi,hI⟩
    simp only at hi hI ⊢
    subst hi
    by_cases hlt:(i:Int)<x.length
    case neg=>right;rw[dF hlt,cnd_f];exact⟨_,rfl,.inl ⟨rfl,hI.stop (by omega)⟩⟩
    have hix:i<x.length:=by omega
    rw[dT hlt,cnd_t,Int.toNat_natCast]
    have hat:=hI.at_ hix
    rw[dT (Int.natCast_nonneg i),Bool.and_self,cnd_t]
    by_cases h5:(i:Int)=5
    · right;rw[dT h5,cnd_t,obind_s,cnd_t];rw[if_pos (by omega)] at hat
      exact⟨_,rfl,.inl ⟨rfl,hat⟩⟩
    have hi5:=hI.i5
    rw[if_neg (by omega)] at hat
    have hp:=pw_le (i:=i) (by omega)
    have hp1:=pw_le (i:=i+1) (by omega)
    have hp0:=pw_pos i
    obtain⟨b1,b2,b3,b4⟩:=hI.bnd hU hix
    have hc:=U8_get hU i hix
    have hu:=hI.eu
    have w1:wr .i64 (Int.tmod (x.getD i 0) 128)=x.getD i 0 % 128:=by rw[Int.tmod_eq_emod_of_nonneg hc.1,wr_m (by omega) (by omega)]
    have w2:wr .i64 (x.getD i 0 % 128*u)=x.getD i 0 % 128*u:=wr_m (by omega) (by omega)
    have w3:wr .i64 (v+x.getD i 0 % 128*u)=v+x.getD i 0 % 128*u:=wr_m (by omega) (by omega)
    have w4:wr .i64 (u*128)=u*128:=wr_m (by omega) (by omega)
    have w5:wr .i64 ((i:Int)+1)=(i:Int)+1:=wr_m (by omega) (by omega)
    rw[dF h5,cnd_f,obind_s,w1,w2,w3,w4,w5]
    clear w1 w2 w3 w4 w5
    by_cases hm:1073741824<v+x.getD i 0 % 128*u
    · right
      rw[dT hm,cnd_t]
      refine⟨_,rfl,.inl ⟨rfl,?_⟩⟩
      rw[hat]
      split
      · rw[if_pos (.inr hm)]
      · exact rd_big _ _ _ _ (U8_drop hU _) hm (by omega)
    rw[dF hm,cnd_f]
    have go:¬(0<i∧x.getD i 0=0)→(∃y:Int×Int×Int,cnd (decide (x.getD i 0<(128:Int))) (some (Sum.inr (Sum.inr (Sum.inl (v+x.getD i 0 % 128*u,(i:Int)+1))))) (some (Sum.inl (v+x.getD i 0 % 128*u,u*128,(i:Int)+1)))=some (.inl y:(Int×Int×Int)⊕(PUnit⊕Int×Int⊕PUnit))∧(∃i:Nat,y.2.2=i∧RdI x y.1 y.2.1 i)∧6-y.2.2.toNat<6-(i:Int).toNat)∨
        ∃r,cnd (decide (x.getD i 0<(128:Int))) (some (Sum.inr (Sum.inr (Sum.inl (v+x.getD i 0 % 128*u,(i:Int)+1))))) (some (Sum.inl (v+x.getD i 0 % 128*u,u*128,(i:Int)+1)))=some (.inr r:(Int×Int×Int)⊕(PUnit⊕Int×Int⊕PUnit))∧((r=.inl ()∧rd x 0 0 1=none)∨∃p,r=.inr (.inl p)∧rd x 0 0 1=some p):=by
      intro hz
      by_cases hs:x.getD i 0<128
      · right
        rw[dT hs,cnd_t]
        rw[if_pos hs,if_neg (fun q=>q.elim hz hm)] at hat
        exact⟨_,rfl,.inr ⟨_,rfl,hat⟩⟩
      · left
        rw[dF hs,cnd_f]
        refine⟨(v+x.getD i 0 % 128*u,u*128,(i:Int)+1),rfl,⟨i+1,(Int.natCast_succ i).symm,hI.next hU hix (by omega) hs⟩,?_⟩
        show 6-((i:Int)+1).toNat<6-(i:Int).toNat
        omega
    by_cases hz0:x.getD i 0=0
    · rw[dT hz0,cnd_t]
      by_cases hi0:(0:Int)<(i:Int)
      · right
        rw[dT hi0,cnd_t]
        rw[if_pos (show x.getD i 0<128 by omega),if_pos (.inl ⟨by omega,hz0⟩)] at hat
        exact⟨_,rfl,.inl ⟨rfl,hat⟩⟩
      · rw[dF hi0,cnd_f]
        exact go (fun q=>hi0 (by omega))
    · rw[dF hz0,cnd_f]
      exact go (fun q=>hz0 q.2)
theorem Take_eq (N:Nat) (hN:100≤N) (x:List Int) (hx:x.length≤1000) (hU:U8 x):W_bf N x=some (tk (rd x 0 0 1)):=by
  unfold W_bf V_bf
  rw[read_eq_2 N hN x hx hU,obind_s]
  cases rd x 0 0 1 with
  | none=>rfl
  | some p=>rfl
theorem TakeText_eq (N:Nat) (hN:100≤N) (x:List Int) (hx:x.length≤1000) (hU:U8 x):W_aR N x=some (tt x):=by
  unfold W_aR V_aR tt
  rw[read_eq_2 N hN x hx hU,obind_s]
  cases hr:rd x 0 0 1 with
  | none=>rfl
  | some p=>
    obtain⟨v,n⟩:=p
    obtain⟨h1,h2,h3,h4,h5⟩:=rd_rng x 0 0 1 v n hU (by omega) (by omega) hr
    simp only[selim_l]
    have w1:wr .i64 ((x.length:Int)-n)=(x.length:Int)-n:=wr_m (by omega) (by omega)
    have w2:wr .i64 (n+v)=n+v:=wr_m (by omega) (by omega)
    rw[w1,w2]
    clear w1 w2
    by_cases hc:(x.length:Int)-n<v
    · rw[dT hc,cnd_t,if_pos hc]
    · rw[dF hc,cnd_f,if_neg hc,dT (by omega),dT (by omega),dT (by omega),Bool.and_self,Bool.and_self,cnd_t,U8_all (U8_drop (U8_take hU _) _),cnd_t]
theorem PutNum_eq (N:Nat) (hN:100≤N) (l:List Int) (v:Int) (hl:l.length≤1000) (h0:0≤v) (h1:v≤1073741824):W_N N (l,v)=some (l++enc v):=by
  unfold W_N V_N
  try simp only
  rw[dT (by omega),cnd_t]
  obtain⟨v',l',e1,e2,e3,e4⟩:=putLoop (f:=fun(v:Int×List Int)=>cnd (decide ((128:Int)≤Prod.fst v))
              (cnd (decide ((List.length (Prod.snd v)+List.length [wr IntKind.u8 (wr IntKind.i64 (Int.tmod (Prod.fst v) (128:Int)+(128:Int)))])*(1:Nat)≤(140737488355328:Nat)))
                (some (Sum.inl (wr IntKind.i64 (Int.tdiv (Prod.fst v) (128:Int)),Prod.snd v++[wr IntKind.u8 (wr IntKind.i64 (Int.tmod (Prod.fst v) (128:Int)+(128:Int)))])))
                none)
              (some (Sum.inr (Prod.fst v,Prod.snd v)))) (fun v l h h2=>stepP1 v l h2) (fun v l h h2 hl=>stepP2 v l h h2 hl) 4 N v l (by omega) h0 h1 (by omega) (by omega)
  rw[e1,obind_s]
  try simp only
  have hlen:l'.length≤1010:=by
    have:=congrArg List.length e2
    have h3:=(encF_U8 4 v h0 (by omega)).2.1
    simp only[List.length_append,List.length_singleton] at this
    omega
  rw[wr_u8 e3 (by omega),dT (by simp only[List.length_singleton];omega),cnd_t,e2]
  rfl
theorem rPutText_eq (N:Nat) (hN:100≤N) (l:List Int) (s:List UInt8) (hl:l.length≤1000) (hs:s.length≤200):W_aT N (l,s)=some (l++enc s.length++by8 s):=by
  have h3:=(enc_U8 (v:=(s.length:Int)) (by omega) (by omega)).2.1
  unfold W_aT V_aT
  try simp only
  rw[PutNum_eq N hN l _ hl (by omega) (by omega),obind_s,dT (by simp only[List.length_append,List.length_map];omega),cnd_t]
  rfl
theorem rSum_eq (N:Nat) (x:List Int) (hN:9≤N) (hx:x.length<N) (hl:x.length≤1000000) (h:∀b∈x,0≤b∧b≤255):W_bc N x=some (X (IntKind.max .u32) (fold 4294967295 x)):=by
  unfold W_bc V_bc
  rw[loopB hx (fun v g1 g2 g3 g4=>?_) (fun v h=>by rw[dF h,cnd_f]),obind_s,X_wr]
  have hb:=h _ (getD_memI (l:=x) (j:=v.2.toNat) (by omega))
  rw[dT g4,cnd_t,dT g3,Bool.and_self,cnd_t,wr_u32 (z:=x.getD v.2.toNat 0) (by omega) (by omega),X_wr,loop8 hN (X_rng _ _).1 (X_rng _ _).2 (fun w k1 k2 k3 k4=>?_) (fun v h=>by rw[dF h,cnd_f]),obind_s,wr_s (by omega) (by omega)]
  have e:Int.tdiv w.1 2=w.1 / 2:=Int.tdiv_eq_ediv_of_nonneg k1
  have e2:Int.tmod w.1 2=w.1 % 2:=Int.tmod_eq_emod_of_nonneg k1
  rw[dT k4,cnd_t,e,e2,wr_u32 (z:=w.1 / 2) (by omega) (by omega),X_wr,wr_s (by omega) (by omega)]
  unfold s1
  by_cases h:w.1 % 2=1
  · rw[dT h,cnd_t,if_pos h]
  · rw[dF h,cnd_f,if_neg h]
theorem numLoop {N:Nat} (hN:100≤N) (l:List Int) {f:List Int×Int→Option ((List Int×Int)⊕List Int)} (hr:∀v∈l,0≤v∧v≤1073741824) (h0:∀b,f (b,(l.length:Int))=some (.inr b))
    (h1:∀(i:Nat) b,i<l.length→b.length≤1000→f (b,(i:Int))=some (.inl (b++enc (l.getD i 0),(i:Int)+1))):
    ∀(k i M:Nat) (b:List Int),i+k=l.length→k<M→b.length+5*k≤1000→loopN M f (b,(i:Int))=some (b++(l.drop i).flatMap enc)
  | 0,i,0,b,_,hM,_=>by omega
  | 0,i,M+1,b,hi,_,_=>by
    have:i=l.length:=by omega
    subst this
    simp only[loopN,h0,List.drop_length,List.flatMap_nil,List.append_nil]
  | k+1,i,0,b,_,hM,_=>by omega
  | k+1,i,M+1,b,hi,hM,hb=>by
    have hil:i<l.length:=by omega
    have e:l.getD i 0=l[i]:=by rw[List.getD_eq_getElem?_getD,List.getElem?_eq_getElem hil];rfl
    have hv:=hr l[i] (List.getElem_mem hil)
    have he:=(enc_U8 hv.1 hv.2).2.1
    simp only[loopN,h1 i b hil (by omega)]
    rw[show (i:Int)+1=((i+1:Nat):Int) by omega,numLoop hN l hr h0 h1 k (i+1) M _ (by omega) (by omega) (by rw[List.length_append,e];omega),List.append_assoc,e,List.drop_eq_getElem_cons hil,List.flatMap_cons]
theorem numbers_eq (N:Nat) (hN:1000≤N) (b l:List Int) (hr:∀v∈l,0≤v∧v≤1073741824) (hb:b.length+5*l.length≤1000):W_av N (b,l)=some (b++l.flatMap enc):=by
  unfold W_av V_av
  try simp only
  rw[show (b,(0:Int))=(b,((0:Nat):Int)) from rfl,numLoop (N:=N) (by omega) l hr _ _ l.length 0 N b (by omega) (by omega) hb,obind_s,List.drop_zero]
  · intro b
    try simp only
    rw[dF (by omega),cnd_f]
  · intro i b hi hb
    have e:l.getD i 0=l[i]:=by rw[List.getD_eq_getElem?_getD,List.getElem?_eq_getElem hi];rfl
    have hv:=hr l[i] (List.getElem_mem hi)
    try simp only
    rw[dT (by omega),cnd_t,dT (by omega),Bool.and_self,cnd_t,Int.toNat_natCast,Put_eq N (by omega) b _ hb (by rw[e];exact hv.1) (by rw[e];exact hv.2),obind_s,wr_m (by omega) (by omega)]
def cs (b:List Int):Int:=X (IntKind.max .u32) (fold 4294967295 b)
def sm (b:List Int):List Int:=[cs b / 16777216 % 256,cs b / 65536 % 256,cs b / 256 % 256,cs b % 256]
theorem wr_u8m {z:Int}:wr .u8 z=z % 256:=by rw[wr_eq];simp[IntKind.wrap,IntKind.bits,IntKind.signed]
theorem cs_rng (b:List Int):0≤cs b∧cs b≤4294967295:=X_rng _ _
theorem sm_U8 (b:List Int):U8 (sm b):=by
  intro n hn
  simp only[sm,List.mem_cons,List.not_mem_nil,or_false] at hn
  omega
theorem sum_eq (N:Nat) (hN:1000≤N) (b:List Int) (hb:b.length≤900) (hU:U8 b):W_bs N b=some (sm b):=by
  unfold W_bs V_bs
  rw[Sum_eq N b (by omega) (by omega) (by omega) hU,obind_s]
  have hc:=cs_rng b
  show some [wr .u8 (Int.fdiv (cs b) (2 ^ 24)),wr .u8 (Int.fdiv (cs b) (2 ^ 16)),wr .u8 (Int.fdiv (cs b) (2 ^ 8)),wr .u8 (cs b)]=some (sm b)
  rw[wr_u8m,wr_u8m,wr_u8m,wr_u8m,Int.fdiv_eq_ediv_of_nonneg _ (by decide),Int.fdiv_eq_ediv_of_nonneg _ (by decide),Int.fdiv_eq_ediv_of_nonneg _ (by decide)]
  rfl
def bd (m:Ms):List Int:=[m.1,m.2.1,m.2.2.1,m.2.2.2.1,m.2.2.2.2.1,m.2.2.2.2.2.1,(m.2.2.2.2.2.2.1.length:Int)].flatMap enc++m.2.2.2.2.2.2.1.flatMap enc++[m.2.2.2.2.2.2.2.1,m.2.2.2.2.2.2.2.2.1].flatMap enc++enc m.2.2.2.2.2.2.2.2.2.length++by8 m.2.2.2.2.2.2.2.2.2
structure Rg (m:Ms):Prop where
  k:0≤m.1∧m.1≤1073741824
  f:0≤m.2.1∧m.2.1≤1073741824
  t:0≤m.2.2.1∧m.2.2.1≤1073741824
  i:0≤m.2.2.2.1∧m.2.2.2.1≤1073741824
  e:0≤m.2.2.2.2.1∧m.2.2.2.2.1≤1073741824
  a:0≤m.2.2.2.2.2.1∧m.2.2.2.2.2.1≤1073741824
  pl:m.2.2.2.2.2.2.1.length≤10
  p:∀v∈m.2.2.2.2.2.2.1,0≤v∧v≤1073741824
  lo:0≤m.2.2.2.2.2.2.2.1∧m.2.2.2.2.2.2.2.1≤1073741824
  hi:0≤m.2.2.2.2.2.2.2.2.1∧m.2.2.2.2.2.2.2.2.1≤1073741824
  s:m.2.2.2.2.2.2.2.2.2.length≤12
theorem MayP.rg {m:Ms} (h:MayP m):Rg m:=by
  obtain⟨k,f,t,i,e,a,p,lo,hi,s⟩:=m
  obtain⟨h1,h2,h3,h4,h5,h6,h7⟩:=h
  simp only at h1 h2 h3 h4 h5
  unfold ownF at h6
  unfold Fits at h7
  simp only at h6 h7
  by_cases c2:k=2
  · rw[if_pos c2] at h6
    rw[if_pos (.inl c2)] at h7
    simp only[Prod.mk.injEq,true_and] at h6
    obtain⟨g1,g2⟩:=h6
    subst g1 g2
    exact⟨by simp only;omega,by simp only;omega,by simp only;omega,by simp only;omega,h7.1,h7.2.1,h7.2.2.1.2.1,fun v hv=>by have:=VP_mem h7.2.2.1 v hv;omega,by simp only;omega,by simp only;omega,by simp⟩
  rw[if_neg c2] at h6
  by_cases c5:k=5
  · rw[if_pos c5] at h6
    rw[if_pos (.inr c5)] at h7
    simp only[Prod.mk.injEq,true_and] at h6
    obtain⟨g1,g2⟩:=h6
    subst g1
    exact⟨by simp only;omega,by simp only;omega,by simp only;omega,by simp only;omega,h7.1,h7.2.1,h7.2.2.1.2.1,fun v hv=>by have:=VP_mem h7.2.2.1 v hv;omega,by simp only;omega,by simp only;omega,by simp only;rw[g2];simp⟩
  rw[if_neg c5] at h6
  rw[if_neg (fun q=>q.elim c2 c5)] at h7
  by_cases c7:k=7
  · rw[if_pos c7] at h6 h7
    simp only[Prod.mk.injEq,true_and,and_true] at h6
    obtain⟨g1,g2,g3,g4⟩:=h6
    subst g1 g2 g3 g4
    exact⟨by simp only;omega,by simp only;omega,by simp only;omega,by simp only;omega,by simp,by simp,by simp,fun v hv=>by simp at hv,by simp only;omega,by simp,by have:=h7.2;simp only;omega⟩
  rw[if_neg c7] at h6 h7
  by_cases c8:k=8∨k=9
  · rw[if_pos c8] at h6 h7
    simp only[Prod.mk.injEq,true_and] at h6
    obtain⟨g1,g2,g3,g4⟩:=h6
    subst g1 g2 g3 g4
    exact⟨by simp only;omega,by simp only;omega,by simp only;omega,by simp only;omega,by simp,by simp,by simp,fun v hv=>by simp at hv,by simp only;omega,by simp only;omega,by simp⟩
  · rw[if_neg c8] at h6
    simp only[Prod.mk.injEq,true_and] at h6
    obtain⟨g1,g2,g3,g4,g5,g6⟩:=h6
    subst g1 g2 g3 g4 g5 g6
    exact⟨by simp only;omega,by simp only;omega,by simp only;omega,by simp only;omega,by simp,by simp,by simp,fun v hv=>by simp at hv,by simp,by simp,by simp⟩
theorem flat_U8 {l:List Int} (h:∀v∈l,0≤v∧v≤1073741824):U8 (l.flatMap enc)∧(l.flatMap enc).length≤5*l.length:=by
  induction l with
  | nil=>exact⟨fun n hn=>by simp at hn,by simp⟩
  | cons v l ih=>
    obtain⟨i1,i2⟩:=ih (fun x hx=>h x (by simp[hx]))
    have hv:=h v (by simp)
    have he:=enc_U8 hv.1 hv.2
    exact⟨U8_app he.1 i1,by simp only[List.flatMap_cons,List.length_append,List.length_cons];omega⟩
theorem Rg.r7 {m:Ms} (h:Rg m):∀v∈[m.1,m.2.1,m.2.2.1,m.2.2.2.1,m.2.2.2.2.1,m.2.2.2.2.2.1,(m.2.2.2.2.2.2.1.length:Int)],0≤v∧v≤1073741824:=by
  intro v hv
  have:=h.pl
  simp only[List.mem_cons,List.not_mem_nil,or_false] at hv
  rcases hv with rfl | rfl | rfl | rfl | rfl | rfl | rfl
  · exact h.k
  · exact h.f
  · exact h.t
  · exact h.i
  · exact h.e
  · exact h.a
  · omega
theorem Rg.r2 {m:Ms} (h:Rg m):∀v∈[m.2.2.2.2.2.2.2.1,m.2.2.2.2.2.2.2.2.1],0≤v∧v≤1073741824:=by
  intro v hv
  simp only[List.mem_cons,List.not_mem_nil,or_false] at hv
  rcases hv with rfl | rfl
  · exact h.lo
  · exact h.hi
theorem bd_U8 {m:Ms} (h:Rg m):U8 (bd m)∧(bd m).length≤200:=by
  have q1:=flat_U8 h.r7
  have q2:=flat_U8 h.p
  have q3:=flat_U8 h.r2
  have hs:=h.s
  have hp:=h.pl
  have q4:=enc_U8 (v:=(m.2.2.2.2.2.2.2.2.2.length:Int)) (by omega) (by omega)
  refine⟨U8_app (U8_app (U8_app (U8_app q1.1 q2.1) q3.1) q4.1) (by8_U8 _),?_⟩
  have l1:=q1.2;have l2:=q2.2;have l3:=q3.2;have l4:=q4.2.1
  simp only[List.length_cons,List.length_nil] at l1 l3
  unfold bd
  simp only[List.length_append,by8,List.length_map]
  omega
open Classical in
theorem PutM_eq (N:Nat) (hN:1000≤N) (m:Ms) (hl:m.2.2.2.2.2.2.1.length<900):W_br N m=some (if MayP m then bd m++sm (bd m) else []):=by
  have hM:=MayM_eq N (by omega) m (by omega) (by omega)
  obtain⟨k,f,t,i,e,a,p,lo,hi,s⟩:=m
  unfold W_br V_br
  try simp only
  rw[hM,obind_s]
  by_cases h:MayP (k,f,t,i,e,a,p,lo,hi,s)
  case neg=>rw[dF h,Bool.not_false,cnd_t,if_neg h]
  have hg:=h.rg
  have q1:=flat_U8 hg.r7
  have q2:=flat_U8 hg.p
  have q3:=flat_U8 hg.r2
  have hp:=hg.pl
  have hs:=hg.s
  have hB:=bd_U8 hg
  have l1:=q1.2;have l2:=q2.2;have l3:=q3.2
  simp only[List.length_cons,List.length_nil] at l1 l2 l3 hp hs
  rw[dT h,Bool.not_true,cnd_f,if_pos h]
  rw[numbers_eq N hN [] _ hg.r7 (by simp),obind_s,List.nil_append]
  try simp only
  rw[numbers_eq N hN _ _ hg.p (by simp only;omega),obind_s]
  try simp only
  rw[numbers_eq N hN _ _ hg.r2 (by simp only[List.length_append,List.length_cons,List.length_nil];omega),obind_s,PutText_eq N (by omega) _ s (by simp only[List.length_append];omega) (by omega),obind_s]
  have eb:bd (k,f,t,i,e,a,p,lo,hi,s)=[k,f,t,i,e,a,(p.length:Int)].flatMap enc++p.flatMap enc++[lo,hi].flatMap enc++enc s.length++by8 s:=rfl
  rw[←eb,sum_eq N hN _ (by omega) hB.1,obind_s,dT (by have:(sm (bd (k,f,t,i,e,a,p,lo,hi,s))).length=4:=rfl;omega),cnd_t]
theorem bd_app (m:Ms) (r:List Int):bd m++r=enc m.1++(enc m.2.1++(enc m.2.2.1++(enc m.2.2.2.1++(enc m.2.2.2.2.1++(enc m.2.2.2.2.2.1++(enc (m.2.2.2.2.2.2.1.length:Int)++(m.2.2.2.2.2.2.1.flatMap enc++(enc m.2.2.2.2.2.2.2.1++(enc m.2.2.2.2.2.2.2.2.1++(enc (m.2.2.2.2.2.2.2.2.2.length:Int)++(by8 m.2.2.2.2.2.2.2.2.2++r))))))))))):=by
  simp only[bd,List.flatMap_cons,List.flatMap_nil,List.append_assoc,List.append_nil]
theorem by8_bytes {l:List Int} (h:U8 l):by8 (bytesI l)=l:=by
  unfold bytesI by8
  rw[List.map_map]
  conv=>rhs;rw[←List.map_id l]
  apply List.map_congr_left
  intro n hn
  have:=h n hn
  simp
  omega
def At (b:List Int) (at_:Int) (r:List Int):Prop:=0≤at_∧at_≤b.length∧b.drop at_.toNat=r
theorem rnum_eq (N:Nat) (hN:1000≤N) {b:List Int} {a:Int} (hb:b.length≤900) (hU:U8 b) (h0:0≤a) (h1:a≤b.length):W_D N (b,a,.inr ())=some (match rd (b.drop a.toNat) 0 0 1 with
    | some (v,n)=>(v,b,a+n,.inr ())
    | none=>(0,b,a,.inl a)):=by
  unfold W_D V_D
  try simp only
  have hT:=Take_eq N (by omega) (b.drop a.toNat) (by rw[List.length_drop];omega) (U8_drop hU _)
  rw[selim_r,dT h0,dT h1,Bool.and_self,cnd_t,List.take_length,hT,obind_s]
  cases hr:rd (b.drop a.toNat) 0 0 1 with
  | none=>
    simp only[tk,Bool.not_false,cnd_t,obind_s]
    rw[wr_m (by omega) (by omega),Int.add_zero]
  | some p=>
    obtain⟨v,n⟩:=p
    obtain⟨g1,g2,g3,g4,g5⟩:=rd_rng _ 0 0 1 v n (U8_drop hU _) (by omega) (by omega) hr
    simp only[tk,Bool.not_true,cnd_f,obind_s]
    rw[wr_m (by omega) (by omega)]
theorem rtxt_eq (N:Nat) (hN:1000≤N) {b:List Int} {a:Int} (hb:b.length≤900) (hU:U8 b) (h0:0≤a) (h1:a≤b.length):W_aB N (b,a,.inr ())=some ((tt (b.drop a.toNat)).1,b,a+(tt (b.drop a.toNat)).2.1,if (tt (b.drop a.toNat)).2.2 then .inr () else .inl a)∧
    0≤(tt (b.drop a.toNat)).2.1∧(tt (b.drop a.toNat)).2.1≤(b.drop a.toNat).length∧(tt (b.drop a.toNat)).1.length≤b.length:=by
  have hT:=TakeText_eq N (by omega) (b.drop a.toNat) (by rw[List.length_drop];omega) (U8_drop hU _)
  have hl:(b.drop a.toNat).length≤b.length:=by rw[List.length_drop];omega
  have hR:0≤(tt (b.drop a.toNat)).2.1∧(tt (b.drop a.toNat)).2.1≤(b.drop a.toNat).length∧(tt (b.drop a.toNat)).1.length≤b.length:=by
    unfold tt
    cases hr:rd (b.drop a.toNat) 0 0 1 with
    | none=>exact⟨by simp,by simp,by simp⟩
    | some p=>
      obtain⟨v,n⟩:=p
      obtain⟨g1,g2,g3,g4,g5⟩:=rd_rng _ 0 0 1 v n (U8_drop hU _) (by omega) (by omega) hr
      try simp only
      split
      · exact⟨by simp,by simp,by simp⟩
      · refine⟨by simp only;omega,by simp only;omega,?_⟩
        simp only[bytesI,List.length_map,List.length_drop,List.length_take] at hl ⊢
        omega
  refine⟨?_,hR⟩
  unfold W_aB V_aB
  try simp only
  rw[selim_r,dT h0,dT h1,Bool.and_self,cnd_t,List.take_length,hT,obind_s]
  have hl2:((b.drop a.toNat).length:Int)≤b.length:=by omega
  cases h3:(tt (b.drop a.toNat)).2.2
  · simp only[Bool.not_false,cnd_t,obind_s]
    rw[wr_m (by omega) (by omega)]
    rfl
  · simp only[Bool.not_true,cnd_f,obind_s]
    rw[wr_m (by omega) (by omega)]
    rfl
theorem At.num (N:Nat) (hN:1000≤N) {b r:List Int} {a v:Int} (hb:b.length≤900) (hU:U8 b) (hv:0≤v∧v≤1073741824) (h:At b a (enc v++r)):∃a',W_D N (b,a,.inr ())=some (v,b,a',.inr ())∧At b a' r:=by
  obtain⟨h0,h1,h2⟩:=h
  have e:=rnum_eq N hN hb hU h0 h1
  rw[h2,rd_put hv.1 hv.2] at e
  refine⟨_,e,by omega,?_,?_⟩
  · have:=congrArg List.length h2
    rw[List.length_drop,List.length_append] at this
    omega
  · rw[show (a+((enc v).length:Int)).toNat=a.toNat+(enc v).length by omega,←List.drop_drop,h2,List.drop_left]
theorem At.txt (N:Nat) (hN:1000≤N) {b r:List Int} {a:Int} {s:List UInt8} (hb:b.length≤900) (hU:U8 b) (hs:s.length≤200) (h:At b a (enc s.length++by8 s++r)):∃a',W_aB N (b,a,.inr ())=some (s,b,a',.inr ()):=by
  obtain⟨h0,h1,h2⟩:=h
  have e:=(rtxt_eq N hN hb hU h0 h1).1
  rw[h2,tt_put s r hs] at e
  exact⟨_,e⟩
abbrev Rs:=List Int×Int×(Int⊕Unit)
def St0 (x:Rs) (k f t i e a:Int) (p:List Int):Int×Int×Int×Int×Int×Int×Int×Int×List UInt8×List Int×Rs×Int×Int×Int×Int×Int×Int×Int×Int×List UInt8×List Int:=
  (0,0,0,0,0,0,0,0,[],[],x,k,f,t,i,e,a,0,0,[],p)
theorem read_exact (N:Nat) (hN:1000≤N) {m:Ms} (hg:Rg m) {b r:List Int} (hb:b.length≤900) (hU:U8 b) (h:b=bd m++r):W_bj N b=some (.inr (),m):=by
  obtain⟨k,f,t,i,e,a,p,lo,hi,s⟩:=m
  have hA:At b 0 (bd (k,f,t,i,e,a,p,lo,hi,s)++r):=⟨by omega,by omega,by rw[h];rfl⟩
  rw[bd_app] at hA
  have hp:=hg.pl
  have hs:=hg.s
  simp only at hA hp hs
  unfold W_bj V_bj
  obtain⟨a1,e1,hA⟩:=hA.num N hN hb hU hg.k
  rw[e1,obind_s]
  try simp only
  obtain⟨a2,e2,hA⟩:=hA.num N hN hb hU hg.f
  rw[e2,obind_s]
  try simp only
  obtain⟨a3,e3,hA⟩:=hA.num N hN hb hU hg.t
  rw[e3,obind_s]
  try simp only
  obtain⟨a4,e4,hA⟩:=hA.num N hN hb hU hg.i
  rw[e4,obind_s]
  try simp only
  obtain⟨a5,e5,hA⟩:=hA.num N hN hb hU hg.e
  rw[e5,obind_s]
  try simp only
  obtain⟨a6,e6,hA⟩:=hA.num N hN hb hU hg.a
  rw[e6,obind_s]
  try simp only
  obtain⟨a7,e7,hA⟩:=hA.num N hN hb hU ⟨by omega,by omega⟩
  rw[e7,obind_s]
  try simp only
  refine loop_G (N:=N) (fun o=>o=some ((Sum.inr ():Int⊕Unit),k,f,t,i,e,a,p,lo,hi,s)) (fun j v=>∃at_:Int,v=(((p.length-j:Nat):Int),St0 (b,at_,.inr ()) k f t i e a (p.take j))∧j≤p.length∧At b at_ ((p.drop j).flatMap enc++(enc lo++(enc hi++(enc (s.length:Int)++(by8 s++r)))))) p.length
    (fun q=>∃at_:Int,q=St0 (b,at_,.inr ()) k f t i e a p∧At b at_ (enc lo++(enc hi++(enc (s.length:Int)++(by8 s++r))))) ⟨a7,rfl,by omega,hA⟩ (by omega) ?_ (fun j v ⟨_,_,h,_⟩=>h) ?_
  · rintro q ⟨a8,rfl,hA⟩
    simp only[St0]
    obtain⟨a9,e9,hA⟩:=hA.num N hN hb hU hg.lo
    rw[e9,obind_s]
    try simp only
    obtain⟨a10,e10,hA⟩:=hA.num N hN hb hU hg.hi
    rw[e10,obind_s]
    try simp only
    rw[←List.append_assoc] at hA
    obtain⟨a11,e11⟩:=hA.txt N hN hb hU (by omega)
    rw[e11,obind_s]
  · rintro j v ⟨at_,rfl,hj,hA⟩
    simp only[St0]
    by_cases c:j<p.length
    · left
      rw[List.drop_eq_getElem_cons c,List.flatMap_cons,List.append_assoc] at hA
      obtain⟨a8,e8,hA⟩:=hA.num N hN hb hU (hg.p _ (List.getElem_mem c))
      rw[dT (by omega),cnd_t,selim_r,e8,obind_s]
      try simp only
      refine⟨_,cnd_T (by simp only[List.length_cons,List.length_nil,List.length_take];omega),a8,?_,by omega,hA⟩
      rw[wr_m (by omega) (by omega),show ((p.length-j:Nat):Int)-1=((p.length-(j+1):Nat):Int) by omega,List.take_add_one,List.getElem?_eq_getElem c]
      rfl
    · right
      have e:j=p.length:=by omega
      subst e
      rw[dF (by omega),cnd_f]
      refine⟨_,rfl,at_,?_,?_⟩
      · rw[List.take_length]
      · rw[List.drop_length] at hA
        exact hA
theorem bEqual_eq (N:Nat) (a b:List Int) (ha:U8 a) (hb:U8 b):W_aV N (a,b)=some (decide (a=b)):=by
  unfold W_aV V_aV
  try simp only
  rw[U8_all ha,cnd_t,U8_all hb,cnd_t]
  congr 1
  show (bytesI a==bytesI b)=decide (a=b)
  by_cases c:a=b
  · subst c;rw[dT rfl,BEq.rfl]
  · rw[dF c]
    apply beq_eq_false_iff_ne.2
    intro q
    have q:=congrArg by8 q
    rw[by8_bytes ha,by8_bytes hb] at q
    exact c q
theorem Take_good (N:Nat) (hN:1000≤N) {m:Ms} (h:MayP m):W_aq N (bd m++sm (bd m))=some (true,m):=by
  have hg:=h.rg
  have hB:=bd_U8 hg
  have hU:=U8_app hB.1 (sm_U8 (bd m))
  have hl:(bd m++sm (bd m)).length≤300:=by rw[List.length_append];have:(sm (bd m)).length=4:=rfl;omega
  have hR:=read_exact N hN hg (b:=bd m++sm (bd m)) (r:=sm (bd m)) (by omega) hU rfl
  have hp:=hg.pl
  have hP:=PutM_eq N hN m (by omega)
  rw[if_pos h] at hP
  have hE:=bEqual_eq N _ _ hU hU
  rw[dT rfl] at hE
  obtain⟨k,f,t,i,e,a,p,lo,hi,s⟩:=m
  unfold W_aq V_aq
  rw[hR,obind_s,selim_r]
  try simp only
  rw[hP,obind_s,hE,obind_s,Bool.not_true,cnd_f]
open Classical in
theorem SameI_eq (N:Nat) (a b:List Int) (hN:a.length<N) (hl:a.length≤140737488355327):W_aQ N (a,b)=some (decide (a=b)):=by
  unfold W_aQ V_aQ
  try simp only
  by_cases h:(a.length:Int)=b.length
  case neg=>
    rw[dT (show (a.length:Int)≠b.length from h),cnd_t]
    have:¬a=b:=fun q=>h (by rw[q])
    rw[dF this]
  rw[dF (fun q:(a.length:Int)≠b.length=>q h),cnd_f]
  have hlen:a.length=b.length:=by omega
  refine obind_loop (fun v:Int=>∃i:Nat,v=i∧i≤a.length∧a.take i=b.take i) (fun v=>a.length-v.toNat) (fun r:PUnit⊕Bool=>(r=.inl ()∧a=b)∨(r=.inr false∧a≠b)) ⟨0,rfl,Nat.zero_le _,rfl⟩ (by show a.length-(Int.ofNat 0).toNat<N;omega) ?_ ?_
  · rintro r (⟨rfl,h⟩ | ⟨rfl,h⟩)
    · rw[selim_l,dT h]
    · rw[selim_r,dF h]
  · rintro v ⟨i,rfl,hi,ht⟩
    by_cases hlt:i<a.length
    · rw[dT (by omega),cnd_t,dT (by omega),Bool.and_self,cnd_t,dT (by omega),Bool.and_self,cnd_t,Int.toNat_natCast]
      have g1:a.getD i 0=a[i]:=by rw[List.getD_eq_getElem?_getD,List.getElem?_eq_getElem hlt];rfl
      have g2:b.getD i 0=b[i]'(by omega):=by rw[List.getD_eq_getElem?_getD,List.getElem?_eq_getElem (by omega)];rfl
      rw[g1,g2]
      by_cases hq:a[i]=b[i]'(by omega)
      · left
        rw[dF (fun q:a[i]≠b[i]'(by omega)=>q hq),cnd_f,wr_m (by omega) (by omega)]
        refine⟨_,rfl,⟨i+1,by omega,by omega,?_⟩,by omega⟩
        rw[List.take_add_one,List.take_add_one,ht,List.getElem?_eq_getElem hlt,List.getElem?_eq_getElem (by omega),hq]
      · right
        rw[dT hq,cnd_t]
        refine⟨_,rfl,.inr ⟨rfl,fun q=>hq ?_⟩⟩
        subst q;rfl
    · right
      rw[dF (by omega),cnd_f]
      refine⟨_,rfl,.inl ⟨rfl,?_⟩⟩
      rw[List.take_of_length_le (by omega),List.take_of_length_le (by omega)] at ht
      exact ht
open Classical in
theorem rSame_eq (N:Nat) (m w:Ms) (hN:m.2.2.2.2.2.2.1.length<N) (hl:m.2.2.2.2.2.2.1.length≤140737488355327):W_at N (m,w)=some (decide (m=w)):=by
  obtain⟨k,f,t,i,e,a,p,lo,hi,s⟩:=m
  obtain⟨k',f',t',i',e',a',p',lo',hi',s'⟩:=w
  unfold W_at V_at
  have hE:=SameI_eq N p p' hN hl
  try simp only
  by_cases h1:k=k'
  case neg=>simp only[decide_true,decide_false,cnd_t,cnd_f,obind_s,Prod.mk.injEq,h1,false_and,and_false,true_and]
  subst h1
  by_cases h2:f=f'
  case neg=>simp only[decide_true,decide_false,cnd_t,cnd_f,obind_s,Prod.mk.injEq,h2,false_and,and_false,true_and]
  subst h2
  by_cases h3:t=t'
  case neg=>simp only[decide_true,decide_false,cnd_t,cnd_f,obind_s,Prod.mk.injEq,h3,false_and,and_false,true_and]
  subst h3
  by_cases h4:i=i'
  case neg=>simp only[decide_true,decide_false,cnd_t,cnd_f,obind_s,Prod.mk.injEq,h4,false_and,and_false,true_and]
  subst h4
  by_cases h5:e=e'
  case neg=>simp only[decide_true,decide_false,cnd_t,cnd_f,obind_s,Prod.mk.injEq,h5,false_and,and_false,true_and]
  subst h5
  by_cases h6:a=a'
  case neg=>simp only[decide_true,decide_false,cnd_t,cnd_f,obind_s,Prod.mk.injEq,h6,false_and,and_false,true_and]
  subst h6
  by_cases h8:lo=lo'
  case neg=>simp only[decide_true,decide_false,cnd_t,cnd_f,obind_s,Prod.mk.injEq,h8,false_and,and_false,true_and]
  subst h8
  by_cases h9:hi=hi'
  case neg=>simp only[decide_true,decide_false,cnd_t,cnd_f,obind_s,Prod.mk.injEq,h9,false_and,and_false,true_and]
  subst h9
  by_cases h10:s=s'
  case neg=>
    have:(s==s')=false:=by simpa using h10
    simp only[decide_true,decide_false,cnd_t,cnd_f,obind_s,Prod.mk.injEq,h10,this,false_and,and_false,true_and]
  subst h10
  simp only[decide_true,beq_self_eq_true,cnd_t,obind_s,hE,Prod.mk.injEq,true_and,and_true]
open Classical in
theorem rMay_all (N:Nat) (hN:12≤N) (m:Ms) (hS:∀x:Ms,x.2.2.2.2.2.2.1.length≤m.2.2.2.2.2.2.1.length→W_at N (x,m)=some (decide (x=m))):W_ac N m=some (decide (MayP m)):=by
  obtain⟨k,f,t,i,e,a,p,lo,hi,s⟩:=m
  have hM:=rMay_eq N p hN
  have hq:∀v,W_ay N v=some (decide (0≤v∧v≤1000000)):=fun v=>by
    unfold W_ay V_ay
    by_cases h:0≤v
    · simp only[h,decide_true,cnd_t,true_and]
    · simp only[h,decide_false,cnd_f,false_and]
  have hsp:W_v N (lo,hi)=some (decide ((1≤lo∧lo≤hi)∧hi≤1000000)):=by
    unfold W_v V_v
    try simp only
    by_cases h:1≤lo
    · simp only[h,decide_true,cnd_t,obind_s,true_and]
      by_cases h2:lo≤hi
      · simp only[h2,decide_true,cnd_t,true_and]
      · simp only[h2,decide_false,cnd_f,false_and]
    · simp only[h,decide_false,cnd_f,obind_s,false_and]
  simp only at hS
  by_cases g1:(1≤k∧k≤9)∧(1≤f∧f≤8)∧(1≤t∧t≤8)∧f≠t∧(1≤i∧i≤1073741824)
  case neg=>
    have hno:¬MayP (k,f,t,i,e,a,p,lo,hi,s):=fun h=>g1 ⟨h.1,h.2.1,h.2.2.1,h.2.2.2.1,h.2.2.2.2.1⟩
    rw[dF hno]
    unfold W_ac V_ac
    try simp only
    by_cases a1:k<1
    · simp only[a1,decide_true,cnd_t,obind_s]
    simp only[a1,decide_false,cnd_f,obind_s]
    by_cases a2:9<k
    · simp only[a2,decide_true,cnd_t,obind_s]
    simp only[a2,decide_false,cnd_f,obind_s]
    by_cases a3:f<1
    · simp only[a3,decide_true,cnd_t,obind_s]
    simp only[a3,decide_false,cnd_f,obind_s]
    by_cases a4:8<f
    · simp only[a4,decide_true,cnd_t,obind_s]
    simp only[a4,decide_false,cnd_f,obind_s]
    by_cases a5:t<1
    · simp only[a5,decide_true,cnd_t,obind_s]
    simp only[a5,decide_false,cnd_f,obind_s]
    by_cases a6:8<t
    · simp only[a6,decide_true,cnd_t,obind_s]
    simp only[a6,decide_false,cnd_f,obind_s]
    by_cases a7:f=t
    · simp only[a7,decide_true,cnd_t,obind_s]
    simp only[a7,decide_false,cnd_f,obind_s]
    by_cases a8:i<1
    · simp only[a8,decide_true,cnd_t,obind_s]
    simp only[a8,decide_false,cnd_f,obind_s]
    have a9:1073741824<i:=by
      apply Classical.byContradiction
      intro a9
      exact g1 ⟨by omega,by omega,by omega,a7,by omega⟩
    simp only[a9,decide_true,cnd_t]
  have hbase:MayP (k,f,t,i,e,a,p,lo,hi,s)↔((k,f,t,i,e,a,p,lo,hi,s)=ownF (k,f,t,i,e,a,p,lo,hi,s)∧Fits (k,f,t,i,e,a,p,lo,hi,s)):=⟨fun h=>h.2.2.2.2.2,fun h=>⟨g1.1,g1.2.1,g1.2.2.1,g1.2.2.2.1,g1.2.2.2.2,h⟩⟩
  have a1:¬k<1:=by omega
  have a2:¬9<k:=by omega
  have a3:¬f<1:=by omega
  have a4:¬8<f:=by omega
  have a5:¬t<1:=by omega
  have a6:¬8<t:=by omega
  have a7:¬f=t:=g1.2.2.2.1
  have a8:¬i<1:=by omega
  have a9:¬1073741824<i:=by omega
  unfold W_ac V_ac
  simp only[a1,a2,a3,a4,a5,a6,a7,a8,a9,decide_false,cnd_f,obind_s]
  rw[show decide (MayP (k,f,t,i,e,a,p,lo,hi,s))=decide ((k,f,t,i,e,a,p,lo,hi,s)=ownF (k,f,t,i,e,a,p,lo,hi,s)∧Fits (k,f,t,i,e,a,p,lo,hi,s)) from decide_eq_decide.2 hbase]
  clear hbase
  have fin:∀(x:Ms),x.2.2.2.2.2.2.1.length≤p.length→ownF (k,f,t,i,e,a,p,lo,hi,s)=x→(x=(k,f,t,i,e,a,p,lo,hi,s)→Fits (k,f,t,i,e,a,p,lo,hi,s))→(obind (W_at N (x,(k,f,t,i,e,a,p,lo,hi,s))) fun(b:Bool)=>some b)=some (decide ((k,f,t,i,e,a,p,lo,hi,s)=ownF (k,f,t,i,e,a,p,lo,hi,s)∧Fits (k,f,t,i,e,a,p,lo,hi,s))):=by
    intro x hx ho hf
    rw[hS x hx,obind_s,ho]
    exact congrArg some (decide_eq_decide.2 ⟨fun q=>⟨q.symm,hf q⟩,fun q=>q.1.symm⟩)
  have nof:¬Fits (k,f,t,i,e,a,p,lo,hi,s)→some false=some (decide ((k,f,t,i,e,a,p,lo,hi,s)=ownF (k,f,t,i,e,a,p,lo,hi,s)∧Fits (k,f,t,i,e,a,p,lo,hi,s))):=fun h=>congrArg some (dF (fun q=>h q.2)).symm
  by_cases k2:k=2
  · have ho:ownF (k,f,t,i,e,a,p,lo,hi,s)=(k,f,t,i,e,a,p,lo,0,[]):=by unfold ownF;simp only;rw[if_pos k2]
    have hF:Fits (k,f,t,i,e,a,p,lo,hi,s)↔(0≤e∧e≤1073741824)∧(0≤a∧a≤1073741824)∧VP p∧(0≤lo∧lo≤1000000)∧(0≤hi∧hi≤1000000):=by unfold Fits;simp only;rw[if_pos (.inl k2)]
    subst k2
    simp only[Int.reduceEq,decide_true,decide_false,cnd_t,cnd_f,obind_s]
    by_cases b1:0≤e
    case neg=>
      simp only[b1,decide_false,cnd_t,cnd_f,obind_s]
      exact nof (fun q=>b1 (hF.1 q).1.1)
    simp only[b1,decide_true,cnd_t,obind_s]
    by_cases b2:e≤1073741824
    case neg=>
      simp only[b2,decide_false,cnd_t,cnd_f,obind_s]
      exact nof (fun q=>b2 (hF.1 q).1.2)
    simp only[b2,decide_true,cnd_t,obind_s]
    by_cases b3:0≤a
    case neg=>
      simp only[b3,decide_false,cnd_t,cnd_f,obind_s]
      exact nof (fun q=>b3 (hF.1 q).2.1.1)
    simp only[b3,decide_true,cnd_t,obind_s]
    by_cases b4:a≤1073741824
    case neg=>
      simp only[b4,decide_false,cnd_t,cnd_f,obind_s]
      exact nof (fun q=>b4 (hF.1 q).2.1.2)
    simp only[b4,decide_true,cnd_t,obind_s,hM]
    by_cases b5:VP p
    case neg=>
      simp only[b5,decide_false,cnd_t,cnd_f,obind_s]
      exact nof (fun q=>b5 (hF.1 q).2.2.1)
    simp only[b5,decide_true,cnd_t,obind_s,hq]
    by_cases b6:0≤lo∧lo≤1000000
    case neg=>
      simp only[b6,decide_false,cnd_t,cnd_f,obind_s]
      exact nof (fun q=>b6 (hF.1 q).2.2.2.1)
    simp only[b6,and_self,decide_true,cnd_t,obind_s]
    refine fin (2,f,t,i,e,a,p,lo,0,[]) (Nat.le_refl _) ho (fun q=>hF.2 ⟨⟨b1,b2⟩,⟨b3,b4⟩,b5,b6,?_⟩)
    simp only[Prod.mk.injEq] at q
    omega
  by_cases k5:k=5
  · have ho:ownF (k,f,t,i,e,a,p,lo,hi,s)=(k,f,t,i,e,a,p,0,hi,[]):=by unfold ownF;simp only;rw[if_neg k2,if_pos k5]
    have hF:Fits (k,f,t,i,e,a,p,lo,hi,s)↔(0≤e∧e≤1073741824)∧(0≤a∧a≤1073741824)∧VP p∧(0≤lo∧lo≤1000000)∧(0≤hi∧hi≤1000000):=by unfold Fits;simp only;rw[if_pos (.inr k5)]
    subst k5
    simp only[Int.reduceEq,decide_true,decide_false,cnd_t,cnd_f,obind_s]
    by_cases b1:0≤e
    case neg=>
      simp only[b1,decide_false,cnd_t,cnd_f,obind_s]
      exact nof (fun q=>b1 (hF.1 q).1.1)
    simp only[b1,decide_true,cnd_t,obind_s]
    by_cases b2:e≤1073741824
    case neg=>
      simp only[b2,decide_false,cnd_t,cnd_f,obind_s]
      exact nof (fun q=>b2 (hF.1 q).1.2)
    simp only[b2,decide_true,cnd_t,obind_s]
    by_cases b3:0≤a
    case neg=>
      simp only[b3,decide_false,cnd_t,cnd_f,obind_s]
      exact nof (fun q=>b3 (hF.1 q).2.1.1)
    simp only[b3,decide_true,cnd_t,obind_s]
    by_cases b4:a≤1073741824
    case neg=>
      simp only[b4,decide_false,cnd_t,cnd_f,obind_s]
      exact nof (fun q=>b4 (hF.1 q).2.1.2)
    simp only[b4,decide_true,cnd_t,obind_s,hM]
    by_cases b5:VP p
    case neg=>
      simp only[b5,decide_false,cnd_t,cnd_f,obind_s]
      exact nof (fun q=>b5 (hF.1 q).2.2.1)
    simp only[b5,decide_true,cnd_t,obind_s,hq]
    by_cases b6:0≤hi∧hi≤1000000
    case neg=>
      simp only[b6,decide_false,cnd_t,cnd_f,obind_s]
      exact nof (fun q=>b6 (hF.1 q).2.2.2.2)
    simp only[b6,and_self,decide_true,cnd_t,obind_s]
    refine fin (5,f,t,i,e,a,p,0,hi,[]) (Nat.le_refl _) ho (fun q=>hF.2 ⟨⟨b1,b2⟩,⟨b3,b4⟩,b5,?_,b6⟩)
    simp only[Prod.mk.injEq] at q
    omega
  by_cases k7:k=7
  · have ho:ownF (k,f,t,i,e,a,p,lo,hi,s)=(k,f,t,i,0,0,[],lo,0,s):=by unfold ownF;simp only;rw[if_neg k2,if_neg k5,if_pos k7]
    have hF:Fits (k,f,t,i,e,a,p,lo,hi,s)↔(1≤lo∧lo≤1000000)∧(s.length:Int)≤12:=by unfold Fits;simp only;rw[if_neg (fun q=>q.elim k2 k5),if_pos k7]
    subst k7
    simp only[Int.reduceEq,decide_true,decide_false,cnd_t,cnd_f,obind_s]
    by_cases b1:1≤lo
    case neg=>
      simp only[b1,decide_false,cnd_t,cnd_f,obind_s]
      exact nof (fun q=>b1 (hF.1 q).1.1)
    simp only[b1,decide_true,cnd_t,obind_s,hq]
    by_cases b2:0≤lo∧lo≤1000000
    case neg=>
      simp only[b2,decide_false,cnd_t,cnd_f,obind_s]
      exact nof (fun q=>b2 ⟨by omega,(hF.1 q).1.2⟩)
    simp only[b2,and_self,decide_true,cnd_t,obind_s]
    by_cases b3:(s.length:Int)≤12
    case neg=>
      simp only[b3,decide_false,cnd_t,cnd_f,obind_s]
      exact nof (fun q=>b3 (hF.1 q).2)
    simp only[b3,decide_true,cnd_t,obind_s]
    exact fin (7,f,t,i,0,0,[],lo,0,s) (Nat.zero_le _) ho (fun _=>hF.2 ⟨⟨b1,b2.2⟩,b3⟩)
  by_cases k8:k=8∨k=9
  · have ho:ownF (k,f,t,i,e,a,p,lo,hi,s)=(k,f,t,i,0,0,[],lo,hi,[]):=by unfold ownF;simp only;rw[if_neg k2,if_neg k5,if_neg k7,if_pos k8]
    have hF:Fits (k,f,t,i,e,a,p,lo,hi,s)↔(1≤lo∧lo≤hi)∧hi≤1000000:=by unfold Fits;simp only;rw[if_neg (fun q=>q.elim k2 k5),if_neg k7,if_pos k8]
    have e8:(cnd (decide (k=8)) (some true) (some (decide (k=9))):Option Bool)=some true:=by
      rcases k8 with q | q
      · rw[dT q,cnd_t]
      · rw[dF (by omega),cnd_f,dT q]
    simp only[k2,k5,k7,decide_false,cnd_f,obind_s]
    have two:∀{α:Type} (g:Bool→α),cnd (decide (k=8)) (some (g (decide (k=8)))) (some (g (decide (k=9))))=some (g true):=by
      intro α g
      rcases k8 with q | q
      · rw[dT q,cnd_t]
      · rw[dF (show ¬k=8 by omega),cnd_f,dT q]
    rw[two (fun c=>(c,(k,f,t,i,e,a,p,lo,hi,s),k,f,t,i,(0:Int),(0:Int),([]:List Int),(0:Int),(0:Int),([]:List UInt8))),obind_s]
    simp only[cnd_t,hsp,obind_s]
    by_cases b1:(1≤lo∧lo≤hi)∧hi≤1000000
    case neg=>
      simp only[b1,decide_false,cnd_f]
      exact nof (fun q=>b1 (hF.1 q))
    simp only[b1,and_self,decide_true,cnd_t]
    exact fin (k,f,t,i,0,0,[],lo,hi,[]) (Nat.zero_le _) ho (fun _=>hF.2 b1)
  · have ho:ownF (k,f,t,i,e,a,p,lo,hi,s)=(k,f,t,i,0,0,[],0,0,[]):=by unfold ownF;simp only;rw[if_neg k2,if_neg k5,if_neg k7,if_neg k8]
    have hF:Fits (k,f,t,i,e,a,p,lo,hi,s):=by unfold Fits;simp only;rw[if_neg (fun q=>q.elim k2 k5),if_neg k7,if_neg k8];trivial
    have n8:¬k=8:=fun q=>k8 (.inl q)
    have n9:¬k=9:=fun q=>k8 (.inr q)
    simp only[k2,k5,k7,n8,n9,decide_false,cnd_f,cnd_t,obind_s]
    exact fin (k,f,t,i,0,0,[],0,0,[]) (Nat.zero_le _) ho (fun _=>hF)
theorem numLoop3 (l:List Int) (m:Ms) {f:Int×Ms×List Int→Option ((Int×Ms×List Int)⊕(Ms×List Int))} (hr:∀v∈l,0≤v∧v≤1073741824) (h0:∀b,f ((l.length:Int),m,b)=some (.inr (m,b)))
    (h1:∀(i:Nat) b,i<l.length→b.length≤1000→f ((i:Int),m,b)=some (.inl ((i:Int)+1,m,b++enc (l.getD i 0)))):
    ∀(k i M:Nat) (b:List Int),i+k=l.length→k<M→b.length+5*k≤1000→loopN M f ((i:Int),m,b)=some (m,b++(l.drop i).flatMap enc)
  | 0,i,0,b,_,hM,_=>by omega
  | 0,i,M+1,b,hi,_,_=>by
    have:i=l.length:=by omega
    subst this
    simp only[loopN,h0,List.drop_length,List.flatMap_nil,List.append_nil]
  | k+1,i,0,b,_,hM,_=>by omega
  | k+1,i,M+1,b,hi,hM,hb=>by
    have hil:i<l.length:=by omega
    have e:l.getD i 0=l[i]:=by rw[List.getD_eq_getElem?_getD,List.getElem?_eq_getElem hil];rfl
    have hv:=hr l[i] (List.getElem_mem hil)
    have he:=(enc_U8 hv.1 hv.2).2.1
    simp only[loopN,h1 i b hil (by omega)]
    rw[show (i:Int)+1=((i+1:Nat):Int) by omega,numLoop3 l m hr h0 h1 k (i+1) M _ (by omega) (by omega) (by rw[List.length_append,e];omega),List.append_assoc,e,List.drop_eq_getElem_cons hil,List.flatMap_cons]
open Classical in
def pm (m:Ms):List Int:=if MayP m then bd m++sm (bd m) else []
open Classical in
theorem rPut_eq (N:Nat) (hN:1000≤N) (m:Ms) (hM:W_ac N m=some (decide (MayP m))):W_au N m=some (pm m):=by
  obtain⟨k,f,t,i,e,a,p,lo,hi,s⟩:=m
  unfold W_au V_au pm
  try simp only
  rw[hM,obind_s]
  by_cases h:MayP (k,f,t,i,e,a,p,lo,hi,s)
  case neg=>rw[dF h,Bool.not_false,cnd_t,if_neg h]
  have hg:=h.rg
  have q1:=flat_U8 hg.r7
  have q2:=flat_U8 hg.p
  have q3:=flat_U8 hg.r2
  have hp:=hg.pl
  have hs:=hg.s
  have hB:=bd_U8 hg
  have l1:=q1.2;have l2:=q2.2;have l3:=q3.2
  have r7:=hg.r7;have rp:=hg.p;have r2:=hg.r2
  simp only[List.length_cons,List.length_nil] at l1 l2 l3 hp hs
  simp only at r7 rp r2
  rw[dT h,Bool.not_true,cnd_f,if_pos h]
  obtain⟨L,hL⟩:∃L,L=[k,f,t,i,e,a,(p.length:Int)]++p++[lo,hi]:=⟨_,rfl⟩
  have hLl:L.length=9+p.length:=by rw[hL];simp only[List.length_append,List.length_cons,List.length_nil];omega
  have hLr:∀v∈L,0≤v∧v≤1073741824:=by
    intro v hv
    rw[hL] at hv
    rcases List.mem_append.1 hv with hv | hv
    · rcases List.mem_append.1 hv with hv | hv
      · exact r7 v hv
      · exact rp v hv
    · exact r2 v hv
  have hLf:L.flatMap enc=[k,f,t,i,e,a,(p.length:Int)].flatMap enc++p.flatMap enc++[lo,hi].flatMap enc:=by rw[hL,List.flatMap_append,List.flatMap_append]
  rw[cnd_T (by simp only[List.length_cons,List.length_nil];omega),cnd_T (by simp only[List.length_append,List.length_cons,List.length_nil];omega),←hL]
  rw[show ((0:Int),(k,f,t,i,e,a,p,lo,hi,s),([]:List Int))=(((0:Nat):Int),(k,f,t,i,e,a,p,lo,hi,s),[]) from rfl,numLoop3 L (k,f,t,i,e,a,p,lo,hi,s) hLr _ _ L.length 0 N [] (by omega) (by omega) (by simp;omega),obind_s,List.drop_zero,List.nil_append]
  rotate_left
  · intro b
    try simp only
    rw[dF (by omega),cnd_f]
  · intro i b hi hb
    have ee:L.getD i 0=L[i]:=by rw[List.getD_eq_getElem?_getD,List.getElem?_eq_getElem hi];rfl
    have hv:=hLr L[i] (List.getElem_mem hi)
    try simp only
    rw[dT (by omega),cnd_t,dT (by omega),Bool.and_self,cnd_t,Int.toNat_natCast,PutNum_eq N (by omega) b _ hb (by rw[ee];exact hv.1) (by rw[ee];exact hv.2),obind_s,wr_m (by omega) (by omega)]
  try simp only
  rw[rPutText_eq N (by omega) _ s (by rw[hLf];simp only[List.length_append];omega) (by omega),obind_s]
  have eb:bd (k,f,t,i,e,a,p,lo,hi,s)=L.flatMap enc++enc s.length++by8 s:=by rw[hLf];rfl
  rw[←eb,rSum_eq N _ (by omega) (by omega) (by omega) hB.1,obind_s]
  have es:∀b:List Int,[wr IntKind.u8 (Int.fdiv (X (IntKind.max .u32) (fold 4294967295 b)) ((2:Int) ^ (24:Nat))),wr IntKind.u8 (Int.fdiv (X (IntKind.max .u32) (fold 4294967295 b)) ((2:Int) ^ (16:Nat))),wr IntKind.u8 (Int.fdiv (X (IntKind.max .u32) (fold 4294967295 b)) ((2:Int) ^ (8:Nat))),wr IntKind.u8 (X (IntKind.max .u32) (fold 4294967295 b))]=sm b:=by
    intro b
    rw[wr_u8m,wr_u8m,wr_u8m,wr_u8m,Int.fdiv_eq_ediv_of_nonneg _ (by decide),Int.fdiv_eq_ediv_of_nonneg _ (by decide),Int.fdiv_eq_ediv_of_nonneg _ (by decide)]
    rfl
  rw[es,cnd_T (by have:(sm (bd (k,f,t,i,e,a,p,lo,hi,s))).length=4:=rfl;omega)]
open Classical in
theorem rMay_eq2 (N:Nat) (hN:1000≤N) (m:Ms) (hl:m.2.2.2.2.2.2.1.length≤900):W_ac N m=some (decide (MayP m)):=
  rMay_all N (by omega) m (fun x hx=>rSame_eq N x m (by omega) (by omega))
theorem rPut_eq2 (N:Nat) (hN:1000≤N) (m:Ms) (hl:m.2.2.2.2.2.2.1.length≤900):W_au N m=some (pm m):=rPut_eq N hN m (rMay_eq2 N hN m hl)
theorem putK_le (k:Kd):∀(l:List Kd),(putK k l).length≤l.length+1
  | []=>by simp[putK]
  | w::r=>by
    have:=putK_le k r
    simp only[putK]
    split
    · simp
    · split
      · simp
      · simp only[List.length_cons];omega
theorem putK_same:∀(l:List Kd) (n:Int) (k:Kd),Kw n l→(findK l k.1).1=true→(putK k l).length=l.length
  | [],_,_,_,h=>by simp[findK] at h
  | w::r,n,k,hw,h=>by
    simp only[findK] at h
    simp only[putK]
    by_cases c:w.1=k.1
    · rw[if_pos c];rfl
    · rw[if_neg c] at h ⊢
      by_cases c2:k.1<w.1
      · rw[findK_none hw.2.2 k.1 (by omega)] at h;cases h
      · rw[if_neg c2,List.length_cons,putK_same r _ k hw.2.2 h];rfl
structure Tw (id B:Int) (t:TT):Prop where
  b:Tb B t
  i:t.1=id
  c:t.2.1=2
  p:(0≤t.2.2.2.1∧t.2.2.2.1≤8)∧t.2.2.2.1≠id
  r:id=1→t.2.2.2.1=0∧t.2.2.2.2.2.2.2.2.2.1=0
  v:(t.2.2.2.1≠0∨id=1)→VP t.2.2.2.2.2.2.1∧t.2.2.2.2.2.2.1.getD (t.2.2.2.2.2.2.1.length-1) 0=id
  e:t.2.2.2.1=0→id≠1→t.2.2.2.2.2.2.1=[]
  a:t.2.2.2.2.2.2.2.2.1≤t.2.2.1
  k:∀k∈t.2.2.2.2.2.2.2.2.2.2.2.2,k.1≠id∧(1≤k.2.1∧k.2.1≤1073741824)∧0≤k.2.2∧k.2.2≤B
  m:(t.2.2.2.2.2.2.2.2.2.2.2.2.length:Int)≤if id=1 then 8 else 3
theorem Tw.mono {id B B':Int} {t:TT} (h:Tw id B t) (hB:B≤B'):Tw id B' t:=
  ⟨h.b.mono hB,h.i,h.c,h.p,h.r,h.v,h.e,h.a,fun k hk=>by have:=h.k k hk;exact⟨this.1,this.2.1,this.2.2.1,by omega⟩,h.m⟩
theorem Tw.t1 {id B:Int} {t:TT} (h:Tw id B t):Tw id (B+1) (tick1 t)∧(tick1 t).2.2.2.2.2.2.1=t.2.2.2.2.2.2.1:=by
  have hb:=h.b.t1
  obtain⟨xid,inc,now,par,pinc,grd,path,ep,born,ask,unt,stp,kids⟩:=t
  obtain⟨h0,h1,h2,h3,h4,h5,h6,h7,h8,h9⟩:=h
  rw[tick1_def] at hb ⊢
  have hk:∀k∈prK (now+1) kids,k.1≠id∧(1≤k.2.1∧k.2.1≤1073741824)∧0≤k.2.2∧k.2.2≤B+1:=fun k hk=>by
    have:=h8 k (List.mem_filter.1 hk).1
    exact⟨this.1,this.2.1,this.2.2.1,by omega⟩
  have hl:((prK (now+1) kids).length:Int)≤if id=1 then 8 else 3:=by
    have:=List.length_filter_le (fun k:Kd=>!decide (k.2.2<now+1-20)) kids
    unfold prK
    simp only at h9
    omega
  simp only at h1 h2 h3 h4 h5 h6 h7
  split
  · rename_i q
    rw[if_pos q] at hb
    exact⟨⟨hb,h1,h2,h3,h4,h5,h6,by simp only;omega,hk,hl⟩,rfl⟩
  · rename_i q
    rw[if_neg q] at hb
    exact⟨⟨hb,h1,h2,h3,h4,h5,h6,by simp only;omega,hk,hl⟩,rfl⟩
theorem Tw.off {id B:Int} {t:TT} (h:Tw id B t) {s:Int} (hs:0≤s∧s≤B) (hi:id≠1) (h1:1≤id):Tw id B (letgo t s):=by
  have hb:=h.b.off hs
  obtain⟨xid,inc,now,par,pinc,grd,path,ep,born,ask,unt,stp,kids⟩:=t
  obtain⟨h0,h1',h2,h3,h4,h5,h6,h7,h8,h9⟩:=h
  exact⟨hb,h1',h2,⟨by simp[letgo],by simp only[letgo];omega⟩,fun q=>absurd q hi,fun q=>by
    rcases q with q | q
    · exact absurd rfl q
    · exact absurd q hi,fun _ _=>rfl,h7,h8,h9⟩
theorem Tw.id1 {id B:Int} {t:TT} (h:Tw id B t):1≤id∧id≤8:=by
  have hi:=h.i
  have hb:=h.b
  obtain⟨xid,inc,now,par,pinc,grd,path,ep,born,ask,unt,stp,kids⟩:=t
  have:=hb.1
  simp only at hi
  omega
theorem Tw.t2 {id B:Int} {t:TT} (h:Tw id B t):Tw id B (tick2 t):=by
  unfold tick2
  split
  · rename_i q
    exact h.off ⟨by omega,h.b.b0⟩ (fun e=>q.1 (h.r e).1) h.id1.1
  · exact h
def Wm (id:Int) (was:TT) (x:Ms):Prop:=MayP x∧x.2.1=id∧x.2.2.2.1=2∧(x.1=2→x.2.2.1∉was.2.2.2.2.2.2.1∧freshM was=true∧x.2.2.1∉x.2.2.2.2.2.2.1)
theorem may_say {id to k:Int} (h1:1≤id∧id≤8) (h2:1≤to∧to≤8) (h3:to≠id) (hk:k=1∨k=3∨k=4∨k=6):MayP (k,id,to,2,0,0,[],0,0,[]):=by
  refine⟨by simp only;omega,h1,h2,fun q=>h3 q.symm,by simp,?_,?_⟩
  · unfold ownF
    try simp only
    rw[if_neg (by omega),if_neg (by omega),if_neg (by omega),if_neg (by omega)]
  · unfold Fits
    try simp only
    rw[if_neg (by omega),if_neg (by omega),if_neg (by omega)]
    trivial
theorem Tw.say {id B:Int} {t was:TT} (h:Tw id B t) (to k:Int) (h2:1≤to∧to≤8) (h3:to≠id) (hk:k=1∨k=3∨k=4∨k=6):Wm id was (sayM t k to):=by
  have h1:=h.id1;have hi:=h.i;have hc:=h.c
  obtain⟨xid,inc,now,par,pinc,grd,path,ep,born,ask,unt,stp,kids⟩:=t
  simp only at hi hc
  subst hi hc
  exact⟨may_say h1 h2 h3 hk,rfl,rfl,fun q=>by simp only[sayM] at q;omega⟩
theorem Tw.full {id B:Int} {t was:TT} (h:Tw id B t) (hB:B≤1000000) (to k lo:Int) (h2:1≤to∧to≤8) (h3:to≠id) (hk:k=5∧lo=0∨k=2∧0≤lo∧lo≤1000000) (hf:freshM t=true) (hp:k=2→to∉was.2.2.2.2.2.2.1∧freshM was=true∧to∉t.2.2.2.2.2.2.1):Wm id was (fullM t k to lo):=by
  have h1:=h.id1;have hi:=h.i;have hc:=h.c
  have hv:=h.v
  have ha:=h.a
  have hb:=h.b
  obtain⟨xid,inc,now,par,pinc,grd,path,ep,born,ask,unt,stp,kids⟩:=t
  obtain⟨b1,b2,b3,b4,b5,b6,b7,b8,b9,b10⟩:=hb
  simp only at hi hc hv ha hp
  subst hi hc
  have hvp:VP path:=by
    refine(hv ?_).1
    unfold freshM at hf
    by_cases c:xid=1
    · exact .inr c
    · simp only[if_neg c] at hf
      by_cases c2:par≠0
      · exact .inl c2
      · rw[if_neg c2] at hf;cases hf
  refine⟨⟨by simp only[fullM];omega,h1,h2,fun q=>h3 q.symm,by simp[fullM],?_,?_⟩,rfl,rfl,fun q=>hp q⟩
  · unfold ownF fullM
    try simp only
    rcases hk with⟨rfl,rfl⟩ | ⟨rfl,_⟩
    · rfl
    · rfl
  · unfold Fits fullM
    try simp only
    rw[if_pos (by omega)]
    exact⟨by omega,by omega,hvp,by omega,by omega⟩
theorem Tw.beat {id B:Int} {t was:TT} (h:Tw id B t) (hB:B≤1000000):∀x∈beatM t,Wm id was x:=by
  intro x hx
  have hp:=h.p
  have hk:=h.k
  have hkw:=h.b.kw
  unfold beatM at hx
  rcases List.mem_append.1 hx with hx | hx
  · split at hx
    · rename_i q
      rw[List.mem_singleton.1 hx]
      exact h.say _ 4 ⟨by omega,hp.1.2⟩ hp.2 (by omega)
    · simp at hx
  · split at hx
    · rename_i q
      obtain⟨k,hk2,rfl⟩:=List.mem_map.1 hx
      have:=hkw.mem k hk2
      exact h.full hB k.1 5 0 this (hk k hk2).1 (.inl ⟨rfl,rfl⟩) q (fun q=>by omega)
    · simp at hx
theorem Tw.t3 {id B:Int} {t was:TT} (h:Tw id B t):Tw id (B+1) (tick3 t).1∧∀x∈(tick3 t).2,Wm id was x:=by
  have hb:=h.b.t3.1
  unfold tick3 at hb ⊢
  split
  · rename_i q
    rw[if_pos q] at hb
    have hi1:=h.id1;have hi:=h.i;have hc:=h.c
    have hq2:=q.2
    have hm:=h.mono (B':=B+1) (by omega)
    obtain⟨xid,inc,now,par,pinc,grd,path,ep,born,ask,unt,stp,kids⟩:=t
    obtain⟨h0,h1',h2,h3,h4,h5,h6,h7,h8,h9⟩:=hm
    obtain⟨b1,b2,b3,b4,b5,b6,b7,b8,b9,b10⟩:=h.b
    simp only at hi hc hq2
    subst hi hc
    have key:∀s:Int,1≤(if s=0∧grd≠0∧grd≠xid then grd else 1)∧(if s=0∧grd≠0∧grd≠xid then grd else(1:Int))≤8∧(if s=0∧grd≠0∧grd≠xid then grd else 1)≠xid:=by
      intro s
      split<;>omega
    have msg:∀s:Int,Wm xid was (1,xid,if s=0∧grd≠0∧grd≠xid then grd else 1,2,0,0,[],0,0,[]):=fun s=>⟨may_say hi1 ⟨(key s).1,(key s).2.1⟩ (key s).2.2 (.inl rfl),rfl,rfl,fun q=>by simp only at q;omega⟩
    unfold seekM at hb ⊢
    simp only at hb ⊢
    split
    · rename_i c1
      rw[if_pos c1] at hb
      split
      · rename_i c2
        rw[if_pos c2] at hb
        exact⟨⟨hb,h1',h2,h3,fun q=>absurd q hq2,h5,h6,h7,h8,h9⟩,fun x hx=>by rw[List.mem_singleton.1 hx];exact msg _⟩
      · rename_i c2
        rw[if_neg c2] at hb
        exact⟨⟨hb,h1',h2,h3,h4,h5,h6,h7,h8,h9⟩,fun x hx=>by simp at hx⟩
    · rename_i c1
      rw[if_neg c1] at hb
      exact⟨⟨hb,h1',h2,h3,fun q=>absurd q hq2,h5,h6,h7,h8,h9⟩,fun x hx=>by rw[List.mem_singleton.1 hx];exact msg _⟩
  · exact⟨h.mono (by omega),fun x hx=>by simp at hx⟩
theorem Tw.tick {id B:Int} {t was:TT} (h:Tw id B t) (hB:B≤900000):Tw id (B+2) (tickM t).2∧∀x∈(tickM t).1,Wm id was x:=by
  obtain⟨a,b⟩:=(h.t1.1.t2).t3 (was:=was)
  rw[show B+1+1=B+2 by omega] at a
  have c:=a.beat (was:=was) (by omega)
  unfold tickM
  try simp only
  refine⟨a,fun x hx=>?_⟩
  split at hx
  · rcases List.mem_append.1 hx with hx | hx
    · exact b x hx
    · exact c x hx
  · exact b x hx
theorem Tw.hear {id B:Int} {t:TT} (h:Tw id B t) (m:Ms) (hm:Mb m) (hi:m.2.1≠id) (hc:1≤m.2.2.2.1∧m.2.2.2.1≤1073741824) (hl:(findK t.2.2.2.2.2.2.2.2.2.2.2.2 m.2.1).1=true∨(t.2.2.2.2.2.2.2.2.2.2.2.2.length:Int)<mostM t):Tw id B (withK t (hearM t.2.2.2.2.2.2.2.2.2.2.2.2 (m.2.1,m.2.2.2.1,t.2.2.1))):=by
  have hkw:=h.b.kw.hear (k:=(m.2.1,m.2.2.2.1,t.2.2.1)) hm.fr.1 hm.fr.2
  have hb:=h.b.wk hkw
  have hkw0:=h.b.kw
  have hb0:=h.b
  obtain⟨xid,inc,now,par,pinc,grd,path,ep,born,ask,unt,stp,kids⟩:=t
  obtain⟨b1,b2,b3,b4,b5,b6,b7,b8,b9,b10⟩:=hb0
  obtain⟨h0,h1',h2,h3,h4,h5,h6,h7,h8,h9⟩:=h
  simp only at hl hkw0
  have hmem:∀k∈hearM kids (m.2.1,m.2.2.2.1,now),k.1≠id∧(1≤k.2.1∧k.2.1≤1073741824)∧0≤k.2.2∧k.2.2≤B:=by
    intro k hk
    unfold hearM at hk
    split at hk
    · exact h8 k hk
    · rcases putK_mem _ _ _ hk with rfl | hk
      · exact⟨hi,hc,b2⟩
      · exact h8 k hk
  have hlen:((hearM kids (m.2.1,m.2.2.2.1,now)).length:Int)≤if id=1 then 8 else 3:=by
    simp only at h9 h1'
    unfold hearM
    split
    · exact h9
    · rcases hl with hl | hl
      · rw[putK_same kids 1 _ hkw0 hl];exact h9
      · have hle:=putK_le (m.2.1,m.2.2.2.1,now) kids
        have:mostM (xid,inc,now,par,pinc,grd,path,ep,born,ask,unt,stp,kids)=if id=1 then 8 else 3:=by
          unfold mostM
          rw[←h1']
        rw[this] at hl
        omega
  exact⟨hb,h1',h2,h3,h4,h5,h6,h7,hmem,hlen⟩
theorem Tw.vain {id B:Int} {t:TT} (h:Tw id B t):Tw id (B+1) (vainM t):=by
  have hb:=h.b.vain
  have hm:=h.mono (B':=B+1) (by omega)
  obtain⟨xid,inc,now,par,pinc,grd,path,ep,born,ask,unt,stp,kids⟩:=t
  obtain⟨h0,h1',h2,h3,h4,h5,h6,h7,h8,h9⟩:=hm
  exact⟨hb,h1',h2,h3,fun q=>⟨(h4 q).1,rfl⟩,h5,h6,h7,h8,h9⟩
theorem last_snoc (p:List Int) (x:Int):(p++[x]).getD ((p++[x]).length-1) 0=x:=by
  rw[List.length_append,List.length_singleton,Nat.add_sub_cancel,List.getD_eq_getElem?_getD,List.getElem?_append_right (Nat.le_refl _)]
  simp
theorem Tw.disp {id B:Int} {t was:TT} (h:Tw id B t) (hB:B≤900000) (h1B:1≤B) (m:Ms) (hm:Mb m) (hi:m.2.1≠id) (hc:1≤m.2.2.2.1∧m.2.2.2.1≤1073741824) (lo:Int) (hlo:0≤lo∧lo≤1000000) (hw:freshM t=true→t=was):
    Tw id (B+1) (dispM t m lo).2∧∀x∈(dispM t m lo).1,Wm id was x:=by
  have hmo:=h.mono (B':=B+1) (by omega)
  have hid:=h.id1
  have hfr:=hm.fr
  have no:∀k,k=3∨k=6→∀x∈[sayM t k m.2.1],Wm id was x:=fun k hk x hx=>by
    rw[List.mem_singleton.1 hx]
    exact h.say m.2.1 k hfr hi (by omega)
  have hbd:=h.b.disp m hm lo h1B
  unfold dispM at hbd ⊢
  split
  · unfold attachM
    split
    · exact⟨hmo,no 3 (.inl rfl)⟩
    · rename_i q
      have q1:freshM t=true:=by cases hF:freshM t with | true=>rfl | false=>exact absurd (.inl hF) q
      have q2:m.2.1∉t.2.2.2.2.2.2.1:=fun e=>q (.inr (.inl e))
      have q3:(findK t.2.2.2.2.2.2.2.2.2.2.2.2 m.2.1).1=true∨(t.2.2.2.2.2.2.2.2.2.2.2.2.length:Int)<mostM t:=by
        cases hF:(findK t.2.2.2.2.2.2.2.2.2.2.2.2 m.2.1).1 with
        | true=>exact .inl rfl
        | false=>
          right
          apply Classical.byContradiction
          intro e
          exact q (.inr (.inr ⟨hF,by omega⟩))
      refine⟨hmo.hear m hm hi hc q3,fun x hx=>?_⟩
      rw[List.mem_singleton.1 hx]
      exact h.full (by omega) m.2.1 2 lo hfr hi (.inr ⟨rfl,hlo⟩) q1 (fun _=>⟨by rw[←hw q1];exact q2,by rw[←hw q1];exact q1,q2⟩)
  rename_i nk1
  rw[if_neg nk1] at hbd
  split
  · rename_i k2
    rw[if_pos k2] at hbd
    unfold acceptM at hbd ⊢
    split
    · exact⟨hmo,fun x hx=>by simp at hx⟩
    rename_i u
    rw[if_neg u] at hbd
    split
    · rename_i q
      rw[if_pos q] at hbd
      split
      · rename_i q2
        rw[if_pos q2] at hbd
        have hne:id≠1:=fun e=>q.1.1 (h.r e).2
        have hi':=h.i
        have ha:=hm.age
        refine⟨⟨hbd,h.i,h.c,⟨⟨by simp only;omega,hfr.2⟩,hi⟩,fun e=>absurd e hne,fun _=>⟨q2.1,by simp only;rw[last_snoc];exact hi'⟩,fun e=>by simp only at e;omega,by simp only;omega,hmo.k,h.m⟩,fun x hx=>by simp at hx⟩
      · exact⟨h.vain,no 6 (.inr rfl)⟩
    · exact⟨hmo,no 6 (.inr rfl)⟩
  rename_i nk2
  rw[if_neg nk2] at hbd
  split
  · refine⟨?_,fun x hx=>by simp at hx⟩
    unfold refuseM
    try simp only
    split
    · rename_i u
      exact hmo.off ⟨by omega,by omega⟩ (fun e=>u.1 (h.r e).1) hid.1
    · split
      · exact h.vain
      · exact hmo
  split
  · unfold beatUpM
    split
    · exact⟨hmo,no 3 (.inl rfl)⟩
    · rename_i q
      have q3:(findK t.2.2.2.2.2.2.2.2.2.2.2.2 m.2.1).1=true:=by
        cases hF:(findK t.2.2.2.2.2.2.2.2.2.2.2.2 m.2.1).1 with
        | true=>rfl
        | false=>exact absurd hF q
      exact⟨hmo.hear m hm hi hc (.inl q3),fun x hx=>by simp at hx⟩
  rename_i nk3 nk4
  rw[if_neg nk3,if_neg nk4] at hbd
  split
  · rename_i k5
    rw[if_pos k5] at hbd
    unfold beatDnM at hbd ⊢
    split
    · rename_i u
      rw[if_pos u] at hbd
      have hne:id≠1:=fun e=>u.1 (h.r e).1
      split
      · rename_i q2
        rw[if_pos q2] at hbd
        have hi':=h.i
        have ha:=hm.age
        have haa:=h.a
        refine⟨⟨hbd,h.i,h.c,h.p,fun e=>absurd e hne,fun _=>⟨q2,by simp only;rw[last_snoc];exact hi'⟩,fun e=>absurd e u.1,?_,hmo.k,h.m⟩,fun x hx=>by simp at hx⟩
        try simp only
        split<;>omega
      · exact⟨hmo.off ⟨by omega,by omega⟩ hne hid.1,no 6 (.inr rfl)⟩
    · exact⟨hmo,no 6 (.inr rfl)⟩
  split
  · refine⟨?_,fun x hx=>by simp at hx⟩
    have hb:=hmo.b.wk (h.b.kw.filter fun k=>!decide (k.1=m.2.1))
    have hl:=List.length_filter_le (fun k:Kd=>!decide (k.1=m.2.1)) t.2.2.2.2.2.2.2.2.2.2.2.2
    obtain⟨xid,inc,now,par,pinc,grd,path,ep,born,ask,unt,stp,kids⟩:=t
    obtain⟨h0,h1',h2,h3,h4,h5,h6,h7,h8,h9⟩:=hmo
    exact⟨hb,h1',h2,h3,h4,h5,h6,h7,fun k hk=>h8 k (List.mem_filter.1 hk).1,by simp only at h9 hl ⊢;simp only[withK];omega⟩
  · exact⟨hmo,fun x hx=>by simp at hx⟩
theorem Tw.comes {id B:Int} {t:TT} (h:Tw id B t) (hB:B≤900000) (h1B:1≤B) (m:Ms) (hm:Mb m) (hi:m.2.1≠id) (hc:1≤m.2.2.2.1∧m.2.2.2.1≤1073741824) (lo:Int) (hlo:0≤lo∧lo≤1000000):
    Tw id (B+1) (comesT t m lo).2∧∀x∈(comesT t m lo).1,Wm id t x:=by
  have hmo:=h.mono (B':=B+1) (by omega)
  unfold comesT
  split
  · exact⟨hmo,fun x hx=>by simp at hx⟩
  split
  · rename_i u
    split
    · exact⟨hmo,fun x hx=>by simp at hx⟩
    · split
      · have hne:id≠1:=fun e=>u.1 (h.r e).1
        have hx:=h.i
        refine(h.off (s:=0) ⟨by omega,by omega⟩ hne h.id1.1).disp hB h1B m hm hi hc lo hlo (fun q=>?_)
        exfalso
        obtain⟨xid,inc,now,par,pinc,grd,path,ep,born,ask,unt,stp,kids⟩:=t
        simp only at hx
        unfold letgo freshM at q
        simp only at q
        rw[if_neg (by omega),if_neg (fun e=>e rfl)] at q
        cases q
      · exact h.disp hB h1B m hm hi hc lo hlo (fun _=>rfl)
  · exact h.disp hB h1B m hm hi hc lo hlo (fun _=>rfl)
theorem dTi {p:Prop} {i:Decidable p} (h:p):@decide p i=true:=decide_eq_true h
theorem Kw.at:∀{l:List Kd} {n:Int},Kw n l→∀j,j+1<l.length→(l.getD j kD).1<(l.getD (j+1) kD).1
  | [],_,_,j,hj=>by simp at hj
  | [w],_,_,j,hj=>by simp at hj
  | w::x::r,n,h,0,_=>by have:=h.2.2.1;simp;omega
  | w::x::r,n,h,j+1,hj=>by
    have:=h.2.2.at j (by simp at hj ⊢;omega)
    simpa using this
theorem rFind_eq (N:Nat) (hN:2000≤N) (l:List Kd) (s:Int) (hl:l.length≤1000):W_I N (l,s)=some (findK l s):=by
  unfold W_I V_I
  try simp only
  refine loop_G (N:=N) (fun o=>o=some (findK l s)) (fun k (v:Int×Kd)=>v=((k:Int),kD)∧k≤l.length∧findK (l.drop k) s=findK l s) l.length (fun r:Kd⊕(Bool×Kd)=>(r=.inl kD∧findK l s=(false,kD))∨r=.inr (findK l s)) ⟨rfl,by omega,rfl⟩ (by omega) ?_ (fun k v h=>h.2.1) ?_
  · rintro r (⟨rfl,h⟩ | rfl)
    · rw[selim_l,h]
    · rw[selim_r]
  · rintro k v ⟨rfl,hk,hg⟩
    try simp only
    by_cases c:(k:Int)<l.length
    case neg=>
      right
      rw[dF c,cnd_f]
      rw[List.drop_eq_nil_of_le (by omega)] at hg
      exact⟨_,rfl,.inl ⟨rfl,hg.symm⟩⟩
    rw[drop_consK (by omega)] at hg
    simp only[findK] at hg
    rw[dT c,cnd_t,dT (show (0:Int)≤(k:Int) by omega),Bool.and_self,cnd_t,Int.toNat_natCast]
    by_cases c2:(l.getD k kD).1=s
    · right
      rw[if_pos c2] at hg
      rw[dT c2,cnd_t,cnd_t]
      exact⟨_,rfl,.inr (by rw[←hg])⟩
    · left
      rw[if_neg c2] at hg
      rw[dF c2,cnd_f,wr_m (by omega) (by omega)]
      exact⟨_,rfl,by rw[show ((k+1:Nat):Int)=k+1 by omega],by omega,hg⟩
theorem rOld_eq (N:Nat) (hN:2000≤N) (l:List Kd) (s inc:Int) (hl:l.length≤1000):W_Y N (l,s,inc)=some (oldK l s inc):=by
  unfold W_Y V_Y oldK
  try simp only
  rw[rFind_eq N hN l s hl,obind_s]
  cases (findK l s).1<;>rfl
theorem rDrop_eq (N:Nat) (hN:2000≤N) (l:List Kd) (id:Int) (hl:l.length≤1000):W_V N (l,id)=some (l.filter (fun k=>!decide (k.1=id))):=by
  unfold W_V V_V
  try simp only
  refine loop_G (N:=N) (fun o=>o=some (l.filter (fun k=>!decide (k.1=id)))) (fun k (v:Int×List Kd)=>v=((k:Int),(l.take k).filter (fun k=>!decide (k.1=id)))∧k≤l.length) l.length (fun r:List Kd=>r=l.filter (fun k=>!decide (k.1=id))) ⟨rfl,by omega⟩ (by omega) ?_ (fun k v h=>h.2) ?_
  · rintro r rfl;rfl
  · rintro k v ⟨rfl,hk⟩
    try simp only
    by_cases c:(k:Int)<l.length
    case neg=>
      right
      rw[dF c,cnd_f,List.take_of_length_le (by omega)]
      exact⟨_,rfl,rfl⟩
    left
    have hlen:((l.take k).filter (fun k=>!decide (k.1=id))).length≤k:=Nat.le_trans (List.length_filter_le _ _) (by simp;omega)
    have hs:(l.take (k+1)).filter (fun k=>!decide (k.1=id))=(l.take k).filter (fun k=>!decide (k.1=id))++[l.getD k kD].filter (fun k=>!decide (k.1=id)):=by
      rw[take_snocK (by omega),List.filter_append]
    rw[dT c,cnd_t,dT (show (0:Int)≤(k:Int) by omega),Bool.and_self,cnd_t,Int.toNat_natCast,wr_m (z:=(k:Int)+1) (by omega) (by omega)]
    refine⟨(((k+1:Nat):Int),(l.take (k+1)).filter (fun k=>!decide (k.1=id))),?_,rfl,by omega⟩
    rw[hs,show ((k+1:Nat):Int)=k+1 by omega]
    generalize hq:(l.take k).filter (fun k=>!decide (k.1=id))=q at *
    by_cases c2:(l.getD k kD).1=id
    · rw[dF (fun h=>h c2),cnd_f,filter1,if_pos (dT c2),List.append_nil]
    · rw[dT c2,cnd_t,cnd_t,dT (by simp only[List.length_singleton];omega),cnd_t,filter1,if_neg (by rw[dF c2];simp)]
theorem rPrune_eq (N:Nat) (hN:2000≤N) (l:List Kd) (now:Int) (hl:l.length≤1000) (h1:-1000000000≤now) (h2:now≤1000000000) (hh:∀k∈l,-1000000000≤k.2.2∧k.2.2≤1000000000):W_aJ N (l,now)=some (l.filter (fun k=>!decide (k.2.2<now-20))):=by
  unfold W_aJ V_aJ
  try simp only
  refine loop_G (N:=N) (fun o=>o=some (l.filter (fun k=>!decide (k.2.2<now-20)))) (fun k (v:Int×List Kd)=>v=((k:Int),(l.take k).filter (fun k=>!decide (k.2.2<now-20)))∧k≤l.length) l.length (fun r:List Kd=>r=l.filter (fun k=>!decide (k.2.2<now-20))) ⟨rfl,by omega⟩ (by omega) ?_ (fun k v h=>h.2) ?_
  · rintro r rfl;rfl
  · rintro k v ⟨rfl,hk⟩
    try simp only
    by_cases c:(k:Int)<l.length
    case neg=>
      right
      rw[dF c,cnd_f,List.take_of_length_le (by omega)]
      exact⟨_,rfl,rfl⟩
    left
    have hlen:((l.take k).filter (fun k=>!decide (k.2.2<now-20))).length≤k:=Nat.le_trans (List.length_filter_le _ _) (by simp;omega)
    have hs:(l.take (k+1)).filter (fun k=>!decide (k.2.2<now-20))=(l.take k).filter (fun k=>!decide (k.2.2<now-20))++[l.getD k kD].filter (fun k=>!decide (k.2.2<now-20)):=by
      rw[take_snocK (by omega),List.filter_append]
    have hb:=hh _ (getD_memK (l:=l) (i:=k) (by omega))
    rw[dT c,cnd_t,dT (show (0:Int)≤(k:Int) by omega),Bool.and_self,cnd_t,Int.toNat_natCast,wr_m (z:=(k:Int)+1) (by omega) (by omega)]
    refine⟨(((k+1:Nat):Int),(l.take (k+1)).filter (fun k=>!decide (k.2.2<now-20))),?_,rfl,by omega⟩
    rw[hs,show ((k+1:Nat):Int)=k+1 by omega]
    generalize hq:(l.take k).filter (fun k=>!decide (k.2.2<now-20))=q at *
    have w:wr .i64 (now-(l.getD k kD).2.2)=now-(l.getD k kD).2.2:=wr_m (by omega) (by omega)
    show cnd (decide (wr .i64 (now-(l.getD k kD).2.2)≤20)) _ _=_
    rw[w]
    by_cases c2:(l.getD k kD).2.2<now-20
    · rw[dF (by omega),cnd_f,filter1,if_pos (dT c2),List.append_nil]
    · rw[dT (by omega),cnd_t,cnd_t,dT (by simp only[List.length_singleton];omega),cnd_t,filter1,if_neg (by rw[dF c2];simp)]
def insR (k:Kd):List Kd→List Kd
  | []=>[k]
  | w::r=>if k.1<w.1 then k::w::r else w::insR k r
theorem filter_above {n:Int}:∀{l:List Kd},Kw n l→∀id:Int,id<n→l.filter (fun k=>!decide (k.1=id))=l
  | [],_,_,_=>rfl
  | w::r,h,id,hi=>by
    have:=h.1
    rw[List.filter_cons,if_pos (by rw[dF (by omega)];rfl),filter_above (h.2.2) id (by omega)]
theorem insR_put (k:Kd):∀{l:List Kd} {n:Int},Kw n l→insR k (l.filter (fun w=>!decide (w.1=k.1)))=putK k l
  | [],_,_=>rfl
  | w::r,n,h=>by
    rw[List.filter_cons]
    simp only[putK]
    by_cases c:w.1=k.1
    · rw[if_neg (by rw[dT c];simp),if_pos c,filter_above h.2.2 k.1 (by omega)]
      cases r with
      | nil=>rfl
      | cons y r=>
        have:=h.2.2.1
        simp only[insR]
        rw[if_pos (by omega)]
    · rw[if_pos (by rw[dF c];rfl),if_neg c]
      simp only[insR]
      by_cases c2:k.1<w.1
      · rw[if_pos c2,if_pos c2,filter_above h.2.2 k.1 (by omega)]
      · rw[if_neg c2,if_neg c2,insR_put k h.2.2]
theorem rHear_eq (N:Nat) (hN:2000≤N) (l:List Kd) (n:Int) (k:Kd) (hw:Kw n l) (hl:l.length≤1000):W_ax N (l,k)=some (if oldK l k.1 k.2.1=true then(l,false) else(putK k l,true)):=by
  unfold W_ax V_ax
  try simp only
  rw[rOld_eq N hN l k.1 k.2.1 hl,obind_s]
  cases oldK l k.1 k.2.1 with
  | true=>rw[cnd_t,if_pos rfl]
  | false=>
    rw[cnd_f,if_neg (by simp),rDrop_eq N hN l k.1 hl,obind_s,←insR_put k hw]
    have hfl:(l.filter (fun w=>!decide (w.1=k.1))).length≤1000:=Nat.le_trans (List.length_filter_le _ _) hl
    generalize l.filter (fun w=>!decide (w.1=k.1))=q at *
    refine loop_G (N:=N) (fun o=>o=some (insR k q,true)) (fun i (v:Int×Kd×List Kd)=>v=((i:Int),k,q)∧i≤q.length∧q.take i++insR k (q.drop i)=insR k q) q.length (fun r:(Kd×List Kd)⊕(List Kd×Bool)=>(r=.inl (k,q)∧q++[k]=insR k q)∨r=.inr (insR k q,true)) ⟨rfl,by omega,rfl⟩ (by omega) ?_ (fun k v h=>h.2.1) ?_
    · rintro r (⟨rfl,h⟩ | rfl)
      · rw[selim_l]
        try simp only
        rw[dT (by simp only[List.length_singleton];omega),cnd_t,h]
      · rw[selim_r]
    · rintro i v ⟨rfl,hk,hg⟩
      try simp only
      by_cases c:(i:Int)<q.length
      case neg=>
        right
        rw[dF c,cnd_f]
        rw[List.drop_eq_nil_of_le (by omega),List.take_of_length_le (by omega)] at hg
        exact⟨_,rfl,.inl ⟨rfl,hg⟩⟩
      have hg0:=hg
      rw[drop_consK (by omega)] at hg
      simp only[insR] at hg
      rw[dT c,cnd_t,dT (show (0:Int)≤(i:Int) by omega),Bool.and_self,cnd_t,Int.toNat_natCast]
      by_cases c2:k.1<(q.getD i kD).1
      · right
        rw[if_pos c2,←drop_consK (by omega)] at hg
        rw[dT c2,cnd_t]
        simp only[cutT,Option.getD_none,Option.getD_some,Int.toNat_natCast,Int.toNat_zero,Nat.zero_add,Nat.sub_zero,List.drop_zero]
        rw[show i+(q.length-i)=q.length by omega,List.take_length]
        have e1:(q.take i).length≤1000:=by simp;omega
        have e2:(q.drop i).length≤1000:=by simp;omega
        repeat first | rw[cnd_t] | rw[dT (by first | omega | (simp only[List.length_singleton];omega) | (simp only[List.length_append,List.length_singleton];omega))]
        exact⟨_,rfl,.inr (by rw[←hg,List.append_assoc];rfl)⟩
      · left
        rw[if_neg c2] at hg
        rw[dF c2,cnd_f,wr_m (by omega) (by omega)]
        refine⟨_,rfl,by rw[show ((i+1:Nat):Int)=i+1 by omega],by omega,?_⟩
        rw[take_snocK (by omega),List.append_assoc]
        exact hg
theorem ob_eq {α β:Type} {o:Option α} {g:α→Option β} {r:Option β} (v:α) (h:o=some v) (hg:g v=r):obind o g=r:=by rw[h];exact hg
/-! The reference. -/
theorem rFresh_eq (N:Nat) {B:Int} (t:TT) (h:Tb B t) (hB:B≤1000000000):W_E N t=some (freshM t):=by
  obtain⟨id,inc,now,par,pinc,grd,path,ep,born,ask,unt,stp,kids⟩:=t
  obtain⟨h1,h2,h3,h4,h5,h6,h7,h8,h9,h10⟩:=h
  unfold W_E V_E freshM
  try simp only
  rw[wr_m (by omega) (by omega)]
  by_cases c:id=1
  · rw[dT c,cnd_t,if_pos c]
  · rw[dF c,cnd_f,if_neg c]
    by_cases c2:par≠0
    · rw[dT c2,cnd_t,if_pos c2]
    · rw[dF c2,cnd_f,if_neg c2]
theorem rOff_eq (N:Nat) (t:TT) (s:Int):W_U N (t,s)=some (letgo t s):=rfl
theorem rSays_eq (N:Nat) (t:TT) (k to:Int):W_j N (t,k,to)=some (sayM t k to):=rfl
theorem rFull_eq (N:Nat) {B:Int} (t:TT) (h:Tb B t) (hB:B≤1000000000) (k to:Int):W_G N (t,k,to)=some (fullM t k to 0):=by
  obtain⟨id,inc,now,par,pinc,grd,path,ep,born,ask,unt,stp,kids⟩:=t
  obtain⟨h1,h2,h3,h4,h5,h6,h7,h8,h9,h10⟩:=h
  unfold W_G V_G
  rw[rSays_eq,obind_s]
  try simp only
  rw[wr_m (by omega) (by omega),cnd_T (by omega)]
  rfl
theorem rPruneK_eq (N:Nat) (hN:2000≤N) (l:List Kd) (now:Int) (hl:l.length≤1000) (h1:-1000000000≤now) (h2:now≤1000000000) (hh:∀k∈l,-1000000000≤k.2.2∧k.2.2≤1000000000):W_aJ N (l,now)=some (prK now l):=rPrune_eq N hN l now hl h1 h2 hh
theorem tick3_root {t:TT} (h:t.1=1):tick3 (tick2 (tick1 t))=(tick1 t,[]):=by
  have e1:(tick1 t).1=1:=by
    obtain⟨id,inc,now,par,pinc,grd,path,ep,born,ask,unt,stp,kids⟩:=t
    rw[tick1_def];split<;>exact h
  have e2:freshM (tick1 t)=true:=by
    generalize tick1 t=u at *
    obtain⟨id,inc,now,par,pinc,grd,path,ep,born,ask,unt,stp,kids⟩:=u
    unfold freshM
    exact if_pos e1
  unfold tick2
  rw[if_neg (by rw[e2];simp)]
  unfold tick3
  rw[if_neg (fun q=>q.2 e1)]
theorem rSeek_eq (N:Nat) {B:Int} (u z:TT) (h:Tb B u) (hB:B≤1000000000):(obind (cnd (decide (u.2.2.2.2.2.2.2.2.2.1≠(0:Int))) (cnd (decide (u.2.2.2.2.2.2.2.2.2.2.1≤u.2.2.1)) (some ((u.1,u.2.1,u.2.2.1,u.2.2.2.1,u.2.2.2.2.1,u.2.2.2.2.2.1,u.2.2.2.2.2.2.1,u.2.2.2.2.2.2.2.1,u.2.2.2.2.2.2.2.2.1,(0:Int),u.2.2.2.2.2.2.2.2.2.2.1,wr .i64 (u.2.2.2.2.2.2.2.2.2.2.2.1+(1:Int)),u.2.2.2.2.2.2.2.2.2.2.2.2),z)) (some (u,z))) (some (u,z))) fun(b:TT×TT)=>cnd (decide (b.1.2.2.2.2.2.2.2.2.2.1=(0:Int))) (obind (obind (cnd (decide (b.1.2.2.2.2.2.2.2.2.2.2.2.1=(0:Int))) (some (decide (b.1.2.2.2.2.2.1≠(0:Int)),(b.1.1,b.1.2.1,b.1.2.2.1,b.1.2.2.2.1,b.1.2.2.2.2.1,b.1.2.2.2.2.2.1,b.1.2.2.2.2.2.2.1,b.1.2.2.2.2.2.2.2.1,b.1.2.2.2.2.2.2.2.2.1,(1:Int),wr .i64 (b.1.2.2.1+(3:Int)),b.1.2.2.2.2.2.2.2.2.2.2.2),b.2)) (some (false,(b.1.1,b.1.2.1,b.1.2.2.1,b.1.2.2.2.1,b.1.2.2.2.2.1,b.1.2.2.2.2.2.1,b.1.2.2.2.2.2.2.1,b.1.2.2.2.2.2.2.2.1,b.1.2.2.2.2.2.2.2.2.1,(1:Int),wr .i64 (b.1.2.2.1+(3:Int)),b.1.2.2.2.2.2.2.2.2.2.2.2),b.2))) fun(b:Bool×TT×TT)=>cnd b.1 (cnd (decide (b.2.1.2.2.2.2.2.1≠b.2.1.1)) (some ((b.2.1.1,b.2.1.2.1,b.2.1.2.2.1,b.2.1.2.2.2.1,b.2.1.2.2.2.2.1,b.2.1.2.2.2.2.2.1,b.2.1.2.2.2.2.2.2.1,b.2.1.2.2.2.2.2.2.2.1,b.2.1.2.2.2.2.2.2.2.2.1,b.2.1.2.2.2.2.2.1,b.2.1.2.2.2.2.2.2.2.2.2.2),b.2.2)) (some b.2)) (some b.2)) fun(b:TT×TT)=>obind (W_j N (b.1,(1:Int),b.1.2.2.2.2.2.2.2.2.2.1)) fun(b_1:Ms)=>some (b.1,b.2,[b_1])) (some (b.1,b.2,[])))=some ((seekM u).1,z,(seekM u).2):=by
  obtain⟨id,inc,now,par,pinc,grd,path,ep,born,ask,unt,stp,kids⟩:=u
  obtain⟨h1,h2,h3,h4,h5,h6,h7,h8,h9,h10⟩:=h
  have w3:wr .i64 (now+3)=now+3:=wr_m (by omega) (by omega)
  have w1:wr .i64 (stp+1)=stp+1:=wr_m (by omega) (by omega)
  unfold seekM
  try simp only
  rw[w1]
  by_cases c1:ask≠0
  · rw[dT c1,cnd_t,if_pos c1]
    by_cases c2:unt≤now
    · rw[dT c2,cnd_t,if_pos c2,obind_s]
      try simp only
      rw[dTi (p:=True) trivial,cnd_t,dF (show ¬stp+1=0 by omega),cnd_f,obind_s]
      try simp only
      rw[cnd_f,obind_s]
      try simp only
      rw[rSays_eq,obind_s,w3,if_neg (fun q=>by omega)]
      rfl
    · rw[dF c2,cnd_f,if_neg c2,obind_s]
      try simp only
      rw[dF (show ¬ask=0 from c1),cnd_f]
  · rw[dF c1,cnd_f,if_neg c1,obind_s]
    try simp only
    rw[dT (show ask=0 by omega),cnd_t]
    by_cases d1:stp=0
    · rw[dT d1,cnd_t,obind_s]
      try simp only
      by_cases d2:grd≠0
      · rw[dT d2,cnd_t]
        by_cases d3:grd≠id
        · rw[dT d3,cnd_t,obind_s]
          try simp only
          rw[rSays_eq,obind_s,w3,if_pos ⟨d1,d2,d3⟩]
          rfl
        · rw[dF d3,cnd_f,obind_s]
          try simp only
          rw[rSays_eq,obind_s,w3,if_neg (fun q=>d3 q.2.2)]
          rfl
      · rw[dF d2,cnd_f,obind_s]
        try simp only
        rw[rSays_eq,obind_s,w3,if_neg (fun q=>d2 q.2.1)]
        rfl
    · rw[dF d1,cnd_f,obind_s]
      try simp only
      rw[cnd_f,obind_s]
      try simp only
      rw[rSays_eq,obind_s,w3,if_neg (fun q=>d1 q.1)]
      rfl
abbrev z0:TT:=((0:Int),(0:Int),(0:Int),(0:Int),(0:Int),(0:Int),([]:List Int),(0:Int),(0:Int),(0:Int),(0:Int),(0:Int),([]:List Kd))
theorem rTick_eq (N:Nat) (hN:2000≤N) {B:Int} (t:TT) (h:Tb B t) (hB:B≤1000000) (hk:∀k∈t.2.2.2.2.2.2.2.2.2.2.2.2,-1000000000≤k.2.2∧k.2.2≤1000000000):W_a3 N t=some (tickM t):=by
  have h1:=h.t1
  have h2:=h1.t2
  obtain⟨h3,h3l⟩:=h2.t3
  have fr:=rFresh_eq N _ h1 (by omega)
  have fr3:=rFresh_eq N _ h3 (by omega)
  have fu3:=rFull_eq N _ h3 (by omega)
  have hkl3:=h3.kl
  have sk:=fun z=>rSeek_eq N (tick2 (tick1 t)) z h2 (by omega)
  have hkl:=h.kl
  have hb:0≤t.2.2.1∧t.2.2.1≤B∧0≤t.2.2.2.2.2.2.2.1∧t.2.2.2.2.2.2.2.1≤B+1000:=by
    obtain⟨id,inc,now,par,pinc,grd,path,ep,born,ask,unt,stp,kids⟩:=t
    obtain⟨h1,h2,h3,h4,h5,h6,h7,h8,h9,h10⟩:=h
    exact⟨h2.1,h2.2,h6.1,h6.2⟩
  unfold W_a3 V_a3
  try simp only
  rw[wr_m (z:=t.2.2.1+1) (by omega) (by omega),rPruneK_eq N hN _ _ (by omega) (by omega) (by omega) hk,obind_s,wr_m (z:=t.2.2.2.2.2.2.2.1+1) (by omega) (by omega),tm _ _ (by omega)]
  refine ob_eq ((tick3 (tick2 (tick1 t))).1,z0,(tick3 (tick2 (tick1 t))).2) ?_ ?_
  · clear fr3 fu3 hkl3 h3l h3
    by_cases c1:t.1=1
    · rw[tick3_root c1,dT c1,cnd_t]
      clear sk fr hk hkl
      obtain⟨id,inc,now,par,pinc,grd,path,ep,born,ask,unt,stp,kids⟩:=t
      simp only at c1 ⊢
      rw[tick1_def]
      by_cases c2:(now+1) % 2=0
      · rw[dT c2,cnd_t,if_pos ⟨c1,c2⟩]
      · rw[dF c2,cnd_f,if_neg (fun q=>c2 q.2)]
    · rw[dF c1,cnd_f]
      have ht1:tick1 t=(t.1,t.2.1,t.2.2.1+1,t.2.2.2.1,t.2.2.2.2.1,t.2.2.2.2.2.1,t.2.2.2.2.2.2.1,t.2.2.2.2.2.2.2.1,t.2.2.2.2.2.2.2.2.1,t.2.2.2.2.2.2.2.2.2.1,t.2.2.2.2.2.2.2.2.2.2.1,t.2.2.2.2.2.2.2.2.2.2.2.1,prK (t.2.2.1+1) t.2.2.2.2.2.2.2.2.2.2.2.2):=by
        obtain⟨id,inc,now,par,pinc,grd,path,ep,born,ask,unt,stp,kids⟩:=t
        rw[tick1_def,if_neg (fun q=>c1 q.1)]
      have hid:(tick2 (tick1 t)).1≠1:=by
        unfold tick2
        rw[ht1]
        split<;>exact c1
      rw[←ht1]
      refine ob_eq (tick2 (tick1 t),z0) ?_ ?_
      · have hp:(tick1 t).2.2.2.1=t.2.2.2.1:=by rw[ht1]
        unfold tick2
        by_cases c2:t.2.2.2.1≠0
        · rw[dT c2,cnd_t,fr,obind_s]
          cases hf:freshM (tick1 t) with
          | true=>rw[Bool.not_true,cnd_f,if_neg (by simp)]
          | false=>rw[Bool.not_false,cnd_t,rOff_eq,obind_s,if_pos ⟨by rw[hp];exact c2,rfl⟩]
        · rw[dF c2,cnd_f,if_neg (fun q=>c2 (by rw[←hp];exact q.1))]
      · unfold tick3
        generalize tick2 (tick1 t)=u at *
        try simp only
        by_cases c3:u.2.2.2.1=0
        · rw[dT c3,cnd_t,if_pos ⟨c3,hid⟩]
          exact sk z0
        · rw[dF c3,cnd_f,if_neg (fun q=>c3 q.1)]
  · unfold tickM
    generalize tick3 (tick2 (tick1 t))=a at *
    try simp only
    by_cases c:(t.2.2.1+1) % 2=0
    case neg=>rw[dF c,Bool.not_false,cnd_t,if_neg c]
    rw[dT c,Bool.not_true,cnd_f,if_pos c]
    refine ob_eq (a.1,z0,a.2++(if a.1.2.2.2.1≠0 then [sayM a.1 4 a.1.2.2.2.1] else [])) ?_ ?_
    · by_cases c2:a.1.2.2.2.1≠0
      · rw[dT c2,cnd_t,rSays_eq,obind_s,cnd_T (by simp only[List.length_singleton];omega),if_pos c2]
      · rw[dF c2,cnd_f,if_neg c2,List.append_nil]
    · unfold beatM
      rw[←List.append_assoc]
      have ho:(a.2++(if a.1.2.2.2.1≠0 then [sayM a.1 4 a.1.2.2.2.1] else [])).length≤2:=by
        rw[List.length_append]
        split
        · simp;omega
        · simp;omega
      generalize a.2++(if a.1.2.2.2.1≠0 then [sayM a.1 4 a.1.2.2.2.1] else [])=o at *
      generalize a.1=u at *
      obtain⟨K,hK⟩:∃K,u.2.2.2.2.2.2.2.2.2.2.2.2=K:=⟨_,rfl⟩
      try simp only
      rw[hK] at hkl3 ⊢
      refine loop_G (N:=N) (x:=(0,u,z0,o)) (fun q=>q=some (o++(if freshM u=true then K.map fun k=>fullM u 5 k.1 0 else []),u)) (fun k (v:Int×TT×TT×List Ms)=>v=(↑k,u,z0,o++(K.take k).map fun k=>fullM u 5 k.1 0)∧k≤K.length∧(k=0∨freshM u=true)) K.length (fun r:List Ms×TT×TT=>r=(o++(if freshM u=true then K.map fun k=>fullM u 5 k.1 0 else []),u,z0)) ⟨by simp,by omega,.inl rfl⟩ (by omega) (fun r h=>by rw[h]) (fun k v h=>h.2.1) ?_
      rintro k v ⟨rfl,hk2,hf2⟩
      try simp only
      rw[hK]
      by_cases c:(k:Int)<K.length
      case neg=>
        right
        rw[dF c,cnd_f]
        refine⟨_,rfl,?_⟩
        rw[List.take_of_length_le (by omega)]
        split
        · rfl
        · rename_i q
          have:k=0:=hf2.elim (fun e=>e) (fun e=>absurd e q)
          have:K=[]:=List.eq_nil_of_length_eq_zero (by omega)
          rw[this];rfl
      rw[dT c,cnd_t,fr3,obind_s]
      cases hF:freshM u with
      | false=>
        right
        rw[cnd_f]
        have:k=0:=hf2.elim (fun e=>e) (fun e=>by rw[hF] at e;cases e)
        subst this
        exact⟨_,rfl,by simp⟩
      | true=>
        left
        rw[cnd_t,dT (show (0:Int)≤(k:Int) by omega),Bool.and_self,cnd_t,Int.toNat_natCast]
        show ∃y,obind (W_G N (u,5,(K.getD k kD).1)) _=_∧_
        rw[fu3,obind_s]
        refine⟨_,cnd_T (by simp only[List.length_append,List.length_map,List.length_take,List.length_singleton];omega),?_,by omega,.inr rfl⟩
        rw[wr_m (by omega) (by omega),List.append_assoc,take_snocK (by omega),List.map_append]
        rfl
theorem rGrand_eq (N:Nat) (p:List Int) (h:p.length≤1000):W_a0 N p=some (grandM p):=by
  unfold W_a0 V_a0 grandM
  by_cases c:(p.length:Int)<2
  · rw[dT c,cnd_t,if_pos c]
  · have w:wr .i64 ((p.length:Int)-2)=((p.length-2:Nat):Int):=by rw[wr_m (by omega) (by omega)];omega
    rw[dF c,cnd_f,if_neg c,w,dT (by omega),dT (by omega),Bool.and_self,cnd_t,Int.toNat_natCast]
theorem rgrd_eq (N:Nat) (p:List Int) (h:p.length≤1000):W_P N p=some (grdM p):=by
  unfold W_P V_P grdM
  rw[rGrand_eq N p h,obind_s]
  by_cases c:grandM p=0
  · rw[dT c,cnd_t,if_pos c]
  · rw[dF c,cnd_f,if_neg c]
theorem rAccepted_eq (N:Nat) (hN:2000≤N) {B:Int} (t:TT) (h:Tb B t) (hB:B≤1000000) (m:Ms) (hm:Mb m):W_aP N (t,m)=some (acceptM t m):=by
  have hb:0≤t.2.2.1∧t.2.2.1≤B∧0≤t.2.2.2.2.2.2.2.2.2.2.2.1∧t.2.2.2.2.2.2.2.2.2.2.2.1≤B:=by
    obtain⟨id,inc,now,par,pinc,grd,path,ep,born,ask,unt,stp,kids⟩:=t
    obtain⟨h1,h2,h3,h4,h5,h6,h7,h8,h9,h10⟩:=h
    exact⟨h2.1,h2.2,h4.1,h4.2⟩
  have hage:=hm.age
  unfold W_aP V_aP acceptM
  try simp only
  by_cases u:isUp t m
  · rw[dT u.1,cnd_t,dT u.2,cnd_t,obind_s,selim_r,if_pos u]
  rw[if_neg u]
  refine ob_eq (.inl (t,m,z0)) ?_ ?_
  · by_cases c:t.2.2.2.1≠0
    · rw[dT c,cnd_t,dF (fun q=>u ⟨c,q⟩),cnd_f]
    · rw[dF c,cnd_f]
  try simp only
  rw[selim_l]
  by_cases a:isAsk t m∧t.2.2.2.1=0
  · rw[if_pos a]
    refine ob_eq (.inl (t,m,z0)) ?_ ?_
    · rw[dF (show ¬t.2.2.2.2.2.2.2.2.2.1=0 from a.1.1),cnd_f,obind_s]
      try simp only
      rw[dF (fun q:t.2.2.2.2.2.2.2.2.2.1≠m.2.1=>q a.1.2.symm),cnd_f,dF (fun q:t.2.2.2.1≠0=>q a.2),cnd_f]
    · try simp only
      rw[selim_l,rAdd_eq N _ _ (by omega) hm.pl,obind_s,wr_m (z:=t.2.2.2.2.2.2.2.2.2.2.2.1+1) (by omega) (by omega),wr_m (z:=t.2.2.1-m.2.2.2.2.2.1) (by omega) (by omega)]
      by_cases v:VP (m.2.2.2.2.2.2.1++[t.1])
      · rw[if_pos v]
        try simp only
        rw[Bool.not_true,cnd_f]
        by_cases c3:20<m.2.2.2.2.2.1
        · rw[dT c3,cnd_t,rSays_eq,obind_s,if_neg (fun q=>by have:=q.2;omega)]
          obtain⟨id,inc,now,par,pinc,grd,path,ep,born,ask,unt,stp,kids⟩:=t
          rfl
        · rw[dF c3,cnd_f,rgrd_eq N _ hm.pl,obind_s,if_pos ⟨v,by omega⟩]
      · rw[if_neg v]
        try simp only
        rw[Bool.not_false,cnd_t,rSays_eq,obind_s,if_neg (fun q=>v q.1)]
        obtain⟨id,inc,now,par,pinc,grd,path,ep,born,ask,unt,stp,kids⟩:=t
        rfl
  · rw[if_neg a]
    refine ob_eq (.inr ([sayM t 6 m.2.1],t)) ?_ ?_
    · by_cases c1:t.2.2.2.2.2.2.2.2.2.1=0
      · rw[dT c1,cnd_t,obind_s]
        try simp only
        rw[cnd_t,rSays_eq,obind_s]
      · rw[dF c1,cnd_f,obind_s]
        try simp only
        by_cases c2:t.2.2.2.2.2.2.2.2.2.1≠m.2.1
        · rw[dT c2,cnd_t,rSays_eq,obind_s]
        · have c3:t.2.2.2.1≠0:=fun q=>a ⟨⟨c1,by omega⟩,q⟩
          rw[dF c2,cnd_f,dT c3,cnd_t,rSays_eq,obind_s]
    · try simp only
      rw[selim_r]
theorem rHearK_eq (N:Nat) (hN:2000≤N) {B:Int} (t:TT) (h:Tb B t) (a b c:Int):∃q,W_ax N (t.2.2.2.2.2.2.2.2.2.2.2.2,a,b,c)=some (hearM t.2.2.2.2.2.2.2.2.2.2.2.2 (a,b,c),q):=by
  have hk:=h.kl
  have e:=rHear_eq N hN t.2.2.2.2.2.2.2.2.2.2.2.2 1 (a,b,c) h.kw (by omega)
  unfold hearM
  cases ho:oldK t.2.2.2.2.2.2.2.2.2.2.2.2 a b with
  | true=>rw[if_pos (by exact ho)] at e;rw[if_pos rfl];exact⟨_,e⟩
  | false=>rw[if_neg (by show ¬oldK _ a b=true;rw[ho];simp)] at e;rw[if_neg (by simp)];exact⟨_,e⟩
theorem rComes_eq (N:Nat) (hN:2000≤N) {B:Int} (t:TT) (h:Tb B t) (hB:B≤1000000) (m:Ms) (hm:Mb m) (lo:Int):W_ae N (t,m,lo)=some (comesT t m lo):=by
  have hk:=h.kl
  have ho:=rOld_eq N hN t.2.2.2.2.2.2.2.2.2.2.2.2 m.2.1 m.2.2.2.1 (by omega)
  have hfrm:=hm.fr
  unfold W_ae V_ae
  try simp only
  by_cases early:oldK t.2.2.2.2.2.2.2.2.2.2.2.2 m.2.1 m.2.2.2.1=true∨(isUp t m∧m.2.2.2.1<t.2.2.2.2.1)
  · have hc:comesT t m lo=([],t):=by
      unfold comesT
      rcases early with e | e
      · rw[if_pos e]
      · split
        · rfl
        · rw[if_pos e.1,if_pos e.2]
    rw[hc]
    refine ob_eq (.inr ([],t)) ?_ ?_
    · rw[ho,obind_s]
      cases hO:oldK t.2.2.2.2.2.2.2.2.2.2.2.2 m.2.1 m.2.2.2.1 with
      | true=>rw[cnd_t]
      | false=>
        rcases early with e | e
        · rw[hO] at e;cases e
        · rw[cnd_f,dT e.1.2,cnd_t,dT e.2,cnd_t]
    · try simp only
      rw[selim_r]
  have hO:oldK t.2.2.2.2.2.2.2.2.2.2.2.2 m.2.1 m.2.2.2.1=false:=by
    cases hO:oldK t.2.2.2.2.2.2.2.2.2.2.2.2 m.2.1 m.2.2.2.1 with
    | true=>exact absurd (.inl hO) early
    | false=>rfl
  refine ob_eq (.inl (t,m,z0)) ?_ ?_
  · rw[ho,obind_s,hO,cnd_f]
    by_cases u:m.2.1=t.2.2.2.1
    · rw[dT u,cnd_t,dF (fun q=>early (.inr ⟨⟨by omega,u⟩,q⟩)),cnd_f]
    · rw[dF u,cnd_f]
  have hc:comesT t m lo=dispM (if isUp t m∧t.2.2.2.2.1<m.2.2.2.1 then letgo t 0 else t) m lo:=by
    unfold comesT
    rw[if_neg (by rw[hO];simp)]
    by_cases u:isUp t m
    · rw[if_pos u,if_neg (fun q=>early (.inr ⟨u,q⟩))]
      by_cases c:t.2.2.2.2.1<m.2.2.2.1
      · rw[if_pos c,if_pos ⟨u,c⟩]
      · rw[if_neg c,if_neg (fun q=>c q.2)]
    · rw[if_neg u,if_neg (fun q=>u q.1)]
  rw[hc]
  try simp only
  rw[selim_l]
  refine ob_eq ((if isUp t m∧t.2.2.2.2.1<m.2.2.2.1 then letgo t 0 else t),m,z0) ?_ ?_
  · by_cases u:m.2.1=t.2.2.2.1
    · rw[dT u,cnd_t]
      by_cases c:t.2.2.2.2.1<m.2.2.2.1
      · rw[dT c,cnd_t,rOff_eq,obind_s,if_pos ⟨⟨by omega,u⟩,c⟩]
      · rw[dF c,cnd_f,if_neg (fun q=>c q.2)]
    · rw[dF u,cnd_f,if_neg (fun q=>u q.1.2)]
  have hT:Tb B (if isUp t m∧t.2.2.2.2.1<m.2.2.2.1 then letgo t 0 else t):=by
    split
    · exact h.off ⟨by omega,h.b0⟩
    · exact h
  clear hc hO early ho hk h
  generalize (if isUp t m∧t.2.2.2.2.1<m.2.2.2.1 then letgo t 0 else t)=t at *
  have h:=hT
  clear hT
  have hk:=h.kl
  have hpl:=h.pl
  have hb:0≤t.2.2.1∧t.2.2.1≤B∧0≤t.2.2.2.2.2.2.2.2.2.2.2.1∧t.2.2.2.2.2.2.2.2.2.2.2.1≤B:=by
    obtain⟨id,inc,now,par,pinc,grd,path,ep,born,ask,unt,stp,kids⟩:=t
    obtain⟨h1,h2,h3,h4,h5,h6,h7,h8,h9,h10⟩:=h
    exact⟨h2.1,h2.2,h4.1,h4.2⟩
  have hage:=hm.age
  have hfind:=rFind_eq N hN t.2.2.2.2.2.2.2.2.2.2.2.2 m.2.1 (by omega)
  obtain⟨hq,hhear⟩:=rHearK_eq N hN t h m.2.1 m.2.2.2.1 t.2.2.1
  have hkw:=h.kw.hear (k:=(m.2.1,m.2.2.2.1,t.2.2.1)) hm.fr.1 hm.fr.2
  try simp only
  refine ob_eq (decide (isUp t m),t,m,z0) ?_ ?_
  · by_cases c:t.2.2.2.1≠0
    · rw[dT c,cnd_t]
      refine congrArg some (congrArg (fun b=>(b,t,m,z0)) (decide_eq_decide.2 ⟨fun q=>⟨c,q⟩,fun q=>q.2⟩))
    · rw[dF c,cnd_f,decide_eq_false (fun q:isUp t m=>c q.1)]
  try simp only
  unfold dispM
  by_cases c1:m.1=1
  · rw[dT c1,cnd_t,if_pos c1,hfind,obind_s]
    unfold attachM
    have hfr:=rFresh_eq N t h (by omega)
    have hhas:=rHas_eq N t.2.2.2.2.2.2.1 m.2.1 (by omega) (by omega)
    refine ob_eq (mostM t,t,m,z0) ?_ ?_
    · unfold mostM
      by_cases c:t.1=1
      · rw[dT c,cnd_t,if_pos c]
      · rw[dF c,cnd_f,if_neg c]
    try simp only
    by_cases q:freshM t=false∨m.2.1∈t.2.2.2.2.2.2.1∨((findK t.2.2.2.2.2.2.2.2.2.2.2.2 m.2.1).1=false∧mostM t≤(t.2.2.2.2.2.2.2.2.2.2.2.2.length:Int))
    · rw[if_pos q]
      refine ob_eq (.inr ([sayM t 3 m.2.1],t)) ?_ (by (try simp only);rw[selim_r])
      rw[hfr,obind_s]
      cases hF:freshM t with
      | false=>
        rw[Bool.not_false,cnd_t,obind_s]
        try simp only
        rw[cnd_t,rSays_eq,obind_s]
      | true=>
        rw[Bool.not_true,cnd_f,hhas,obind_s,obind_s]
        try simp only
        by_cases c2:m.2.1∈t.2.2.2.2.2.2.1
        · rw[dT c2,cnd_t,rSays_eq,obind_s]
        · obtain⟨q1,q2⟩:=q.elim (fun e=>by rw[hF] at e;cases e) (fun e=>e.elim (fun e=>absurd e c2) id)
          rw[dF c2,cnd_f,q1,Bool.not_false,cnd_t,dT q2,cnd_t,rSays_eq,obind_s]
    · rw[if_neg q]
      have hF:freshM t=true:=by
        cases hF:freshM t with
        | false=>exact absurd (.inl hF) q
        | true=>rfl
      have c2:¬m.2.1∈t.2.2.2.2.2.2.1:=fun e=>q (.inr (.inl e))
      refine ob_eq (.inl (t,m,z0)) ?_ ?_
      · rw[hfr,obind_s,hF,Bool.not_true,cnd_f,hhas,obind_s,obind_s]
        try simp only
        rw[dF c2,cnd_f]
        cases hf:(findK t.2.2.2.2.2.2.2.2.2.2.2.2 m.2.1).1 with
        | true=>rw[Bool.not_true,cnd_f]
        | false=>rw[Bool.not_false,cnd_t,dF (fun e=>q (.inr (.inr ⟨hf,e⟩))),cnd_f]
      · try simp only
        rw[selim_l,hhear,obind_s]
        try simp only
        rw[withK_eq,rFull_eq N _ (h.wk hkw) (by omega),obind_s]
        obtain⟨id,inc,now,par,pinc,grd,path,ep,born,ask,unt,stp,kids⟩:=t
        rfl
  rw[dF c1,cnd_f,if_neg c1]
  by_cases c2:m.1=2
  · rw[dT c2,cnd_t,if_pos c2,rAccepted_eq N hN t h hB m hm,obind_s]
  rw[dF c2,cnd_f,if_neg c2]
  by_cases c3:m.1=3
  · rw[dT c3,cnd_t,if_pos c3]
    refine ob_eq ((if isAsk t m then vainM t else t),z0) ?_ ?_
    · by_cases d:t.2.2.2.2.2.2.2.2.2.1≠0
      · rw[dT d,cnd_t]
        by_cases d2:t.2.2.2.2.2.2.2.2.2.1=m.2.1
        · rw[dT d2,cnd_t,if_pos ⟨d,d2.symm⟩,wr_m (z:=t.2.2.2.2.2.2.2.2.2.2.2.1+1) (by omega) (by omega)]
          obtain⟨id,inc,now,par,pinc,grd,path,ep,born,ask,unt,stp,kids⟩:=t
          rfl
        · rw[dF d2,cnd_f,if_neg (fun q=>d2 q.2.symm)]
      · rw[dF d,cnd_f,if_neg (fun q=>d q.1)]
    · unfold refuseM
      try simp only
      by_cases u:isUp t m
      · rw[decide_eq_true u,cnd_t,rOff_eq,obind_s,if_pos u]
        split
        · obtain⟨id,inc,now,par,pinc,grd,path,ep,born,ask,unt,stp,kids⟩:=t
          rfl
        · rfl
      · rw[decide_eq_false u,cnd_f,if_neg u]
  rw[dF c3,cnd_f,if_neg c3]
  by_cases c4:m.1=4
  · rw[dT c4,cnd_t,if_pos c4,hfind,obind_s]
    unfold beatUpM
    cases hf:(findK t.2.2.2.2.2.2.2.2.2.2.2.2 m.2.1).1 with
    | false=>rw[Bool.not_false,cnd_t,rSays_eq,obind_s,if_pos rfl]
    | true=>
      rw[Bool.not_true,cnd_f,hhear,obind_s,if_neg (by simp)]
      try simp only
      rw[withK_eq]
  rw[dF c4,cnd_f,if_neg c4]
  by_cases c5:m.1=5
  · rw[dT c5,cnd_t,if_pos c5]
    unfold beatDnM
    by_cases u:isUp t m
    · rw[decide_eq_true u,Bool.not_true,cnd_f,if_pos u,rAdd_eq N _ _ (by omega) hm.pl,obind_s,wr_m (z:=t.2.2.1-m.2.2.2.2.2.1) (by omega) (by omega)]
      by_cases v:VP (m.2.2.2.2.2.2.1++[t.1])
      · rw[if_pos v,if_pos v]
        try simp only
        rw[Bool.not_true,cnd_f,rgrd_eq N _ hm.pl,obind_s]
        by_cases c:t.2.2.2.2.2.2.2.2.1<t.2.2.1-m.2.2.2.2.2.1
        · rw[dT c,cnd_t,if_pos c,if_pos c]
        · rw[dF c,cnd_f,if_neg c,if_neg c]
      · rw[if_neg v,if_neg v]
        try simp only
        rw[Bool.not_false,cnd_t,rOff_eq,obind_s,rSays_eq,obind_s]
    · rw[decide_eq_false u,Bool.not_false,cnd_t,if_neg u,rSays_eq,obind_s]
  rw[dF c5,cnd_f,if_neg c5]
  by_cases c6:m.1=6
  · rw[dT c6,cnd_t,if_pos c6,rDrop_eq N hN _ _ (by omega),obind_s,withK_eq]
  · rw[dF c6,cnd_f,if_neg c6]
theorem ob_exl {α β ρ:Type} {o:Option α} {g:α→Option (β⊕ρ)} {R:β→Prop} (V:α→Prop) (h:∃v,o=some v∧V v) (hg:∀v,V v→∃y,g v=some (.inl y)∧R y):∃y,obind o g=some (.inl y)∧R y:=by
  obtain⟨v,e,hv⟩:=h
  rw[e];exact hg v hv
theorem rNew_eq (N:Nat) (id inc now g:Int):W_y N (id,inc,now,g)=some (if id=1 then(id,inc,now,0,0,g,[1],0,now,0,0,0,[]) else(id,inc,now,0,0,g,[],0,0,0,0,0,[])):=by
  unfold W_y V_y
  by_cases c:id=1
  · rw[dT c,cnd_t,if_pos c]
  · rw[dF c,cnd_f,if_neg c]
theorem new_TwN (id g now:Int) (h1:1≤id∧id≤8) (hg:0≤g∧g≤8) (hn:0≤now∧now≤9):Tw id 10 (if id=1 then(id,2,now,0,0,g,[1],0,now,0,0,0,[]) else(id,2,now,0,0,g,[],0,0,0,0,0,[])):=by
  split
  · rename_i q
    exact⟨⟨h1,by omega,by omega,by omega,by omega,by omega,by simp,trivial,by omega,hg⟩,rfl,rfl,⟨by simp,by simp only;omega⟩,fun _=>⟨rfl,rfl⟩,fun _=>⟨VP_one,by simp[q]⟩,fun _ e=>absurd q e,by simp,fun k hk=>by simp at hk,by simp;split<;>omega⟩
  · rename_i q
    exact⟨⟨h1,by omega,by omega,by omega,by omega,by omega,by simp,trivial,by omega,hg⟩,rfl,rfl,⟨by simp,by simp only;omega⟩,fun e=>absurd e q,fun e=>by
      rcases e with e | e
      · exact absurd rfl e
      · exact absurd e q,fun _ _=>rfl,by simp only;omega,fun k hk=>by simp at hk,by simp;split<;>omega⟩
def pinc (t:TT):Int:=t.2.2.2.2.1
theorem ob_q {α β:Type} {o:Option α} {g:α→Option β} {r:Option β} (V:α→Prop) (h:∃v,o=some v∧V v) (hg:∀v,V v→g v=r):obind o g=r:=by
  obtain⟨v,e,hv⟩:=h
  rw[e];exact hg v hv
/-! A made tie. -/
def kidsT (t:TT):List Kd:=t.2.2.2.2.2.2.2.2.2.2.2.2
def parT (t:TT):Int:=t.2.2.2.1
def TR (t u:TT):Prop:=(∀k∈kidsT u,k∈kidsT t)∧(parT u≠0→parT t≠0∧pinc u=pinc t)
theorem TR.refl (t:TT):TR t t:=⟨fun _ h=>h,fun h=>⟨h,rfl⟩⟩
theorem TR.trans {t u v:TT} (h:TR t u) (k:TR u v):TR t v:=⟨fun x hx=>h.1 x (k.1 x hx),fun hx=>⟨(h.2 (k.2 hx).1).1,(k.2 hx).2.trans (h.2 (k.2 hx).1).2⟩⟩
theorem TR.t1 (t:TT):TR t (tick1 t):=by
  obtain⟨id,inc,now,par,pinc,grd,path,ep,born,ask,unt,stp,kids⟩:=t
  rw[tick1_def]
  split<;>exact⟨fun k hk=>(List.mem_filter.1 hk).1,fun h=>⟨h,rfl⟩⟩
theorem TR.off (t:TT) (s:Int):TR t (letgo t s):=by
  obtain⟨id,inc,now,par,pinc,grd,path,ep,born,ask,unt,stp,kids⟩:=t
  exact⟨fun k hk=>hk,fun h=>absurd rfl h⟩
theorem TR.t2 (t:TT):TR t (tick2 t):=by
  unfold tick2
  split
  · exact TR.off t 0
  · exact TR.refl t
theorem TR.t3 (t:TT):TR t (tick3 t).1:=by
  unfold tick3
  split
  · obtain⟨id,inc,now,par,pinc,grd,path,ep,born,ask,unt,stp,kids⟩:=t
    unfold seekM
    try simp only
    split
    · split<;>exact⟨fun k hk=>hk,fun h=>⟨h,rfl⟩⟩
    · exact⟨fun k hk=>hk,fun h=>⟨h,rfl⟩⟩
  · exact TR.refl t
theorem TR.tick (t:TT):TR t (tickM t).2:=((TR.t1 t).trans (TR.t2 _)).trans (TR.t3 _)
theorem hearM_mem {l:List Kd} {k w:Kd} (h:w∈hearM l k):w=k∨w∈l:=by
  unfold hearM at h
  split at h
  · exact .inr h
  · exact putK_mem k l w h
def TC (t:TT) (i:Int) (u:TT):Prop:=(∀k∈kidsT u,k∈kidsT t∨k.2.1=i)∧(parT u≠0→(parT t≠0∧pinc u=pinc t)∨pinc u=i)
theorem TC.of {t u:TT} (i:Int) (h:TR t u):TC t i u:=⟨fun k hk=>.inl (h.1 k hk),fun e=>.inl (h.2 e)⟩
theorem TC.disp (t:TT) (m:Ms) (lo:Int):TC t m.2.2.2.1 (dispM t m lo).2:=by
  have hr:=TR.refl t
  have hk:TC t m.2.2.2.1 (withK t (hearM t.2.2.2.2.2.2.2.2.2.2.2.2 (m.2.1,m.2.2.2.1,t.2.2.1))):=by
    obtain⟨id,inc,now,par,pinc,grd,path,ep,born,ask,unt,stp,kids⟩:=t
    refine⟨fun k hk=>?_,fun e=>.inl ⟨e,rfl⟩⟩
    rcases hearM_mem hk with e | e
    · right;rw[e]
    · exact .inl e
  unfold dispM
  split
  · unfold attachM
    split
    · exact .of _ hr
    · exact hk
  split
  · unfold acceptM
    split
    · exact .of _ hr
    · split
      · split
        · exact⟨fun k hk=>.inl hk,fun _=>.inr rfl⟩
        · obtain⟨id,inc,now,par,pinc,grd,path,ep,born,ask,unt,stp,kids⟩:=t
          exact⟨fun k hk=>.inl hk,fun e=>.inl ⟨e,rfl⟩⟩
      · exact .of _ hr
  split
  · unfold refuseM
    try simp only
    split
    · exact .of _ (TR.off t 0)
    · split
      · obtain⟨id,inc,now,par,pinc,grd,path,ep,born,ask,unt,stp,kids⟩:=t
        exact⟨fun k hk=>.inl hk,fun e=>.inl ⟨e,rfl⟩⟩
      · exact .of _ hr
  split
  · unfold beatUpM
    split
    · exact .of _ hr
    · exact hk
  split
  · unfold beatDnM
    split
    · split
      · exact⟨fun k hk=>.inl hk,fun e=>.inl ⟨e,rfl⟩⟩
      · exact .of _ (TR.off t 1)
    · exact .of _ hr
  split
  · obtain⟨id,inc,now,par,pinc,grd,path,ep,born,ask,unt,stp,kids⟩:=t
    exact⟨fun k hk=>.inl (List.mem_filter.1 hk).1,fun e=>.inl ⟨e,rfl⟩⟩
  · exact .of _ hr
theorem TC.comes (t:TT) (m:Ms) (lo:Int):TC t m.2.2.2.1 (comesT t m lo).2:=by
  unfold comesT
  split
  · exact .of _ (TR.refl t)
  split
  · split
    · exact .of _ (TR.refl t)
    · split
      · have h:=TC.disp (letgo t 0) m lo
        have ho:=TR.off t 0
        exact⟨fun k hk=>(h.1 k hk).elim (fun e=>.inl (ho.1 k e)) .inr,fun e=>(h.2 e).elim (fun q=>.inl ⟨(ho.2 q.1).1,q.2.trans (ho.2 q.1).2⟩) .inr⟩
      · exact TC.disp t m lo
  · exact TC.disp t m lo
structure Pt (id B:Int) (t:TT):Prop where
  w:Tw id B t
  p:parT t≠0→1≤pinc t∧pinc t≤3
  k:∀k∈kidsT t,k.2.1≤3
theorem Pt.tick {id B:Int} {t:TT} (h:Pt id B t) (hB:B≤900000):Pt id (B+2) (tickM t).2:=by
  have r:=TR.tick t
  exact⟨(h.w.tick (was:=t) hB).1,fun e=>by rw[(r.2 e).2];exact h.p (r.2 e).1,fun k hk=>h.k k (r.1 k hk)⟩
theorem Pt.comes {id B:Int} {t:TT} (h:Pt id B t) (hB:B≤900000) (h1B:1≤B) (m:Ms) (hm:Mb m) (hi:m.2.1≠id) (hc:1≤m.2.2.2.1∧m.2.2.2.1≤3) (lo:Int) (hlo:0≤lo∧lo≤1000000):Pt id (B+2) (comesT t m lo).2:=by
  have r:=TC.comes t m lo
  refine⟨(h.w.comes hB h1B m hm hi ⟨hc.1,by omega⟩ lo hlo).1.mono (by omega),fun e=>?_,fun k hk=>?_⟩
  · rcases r.2 e with q | q
    · rw[q.2];exact h.p q.1
    · rw[q];exact hc
  · rcases r.1 k hk with q | q
    · exact h.k k q
    · rw[q];exact hc.2
theorem path_back {p:List Int} (h:VP p):[(1:Int)]++List.drop 1 (List.take p.length p)=p:=by
  have h1:=h.1;have h2:=h.2.2.1
  cases p with
  | nil=>simp at h1
  | cons a r=>
    have:a=1:=h2
    subst this
    simp
abbrev swp (p:List Ms×TT):TT×List Ms:=(p.2,p.1)
theorem attach_eqS (N:Nat) (hN:2000≤N) {B:Int} (t:TT) (h:Tb B t) (hB:B≤1000000) (m:Ms) (hm:Mb m) (lo:Int):W_al N (t,m,lo)=some (swp (attachM t m lo)):=by
  have hfi:=h.find N hN m.2.1
  have hfr:=fresh_eq N t h (by omega)
  have hpl:=h.pl
  have hha:=Has_eq N t.2.2.2.2.2.2.1 m.2.1 (by omega) (by omega)
  obtain⟨q,hh⟩:=h.hear N hN m.2.1 m.2.2.2.1 t.2.2.1
  have hkw:=h.kw.hear (k:=(m.2.1,m.2.2.2.1,t.2.2.1)) hm.fr.1 hm.fr.2
  have htw:=tellWay_eq N _ (h.wk hkw) (by omega) 2 m.2.1
  unfold W_al V_al attachM
  try simp only
  rw[hfi,obind_s,hfr,obind_s]
  have fin:(obind (W_x N (t.2.2.2.2.2.2.2.2.2.2.2.2,m.2.1,m.2.2.2.1,t.2.2.1)) fun(b:List Kd×Bool)=>obind (W_aw N ((t.1,t.2.1,t.2.2.1,t.2.2.2.1,t.2.2.2.2.1,t.2.2.2.2.2.1,t.2.2.2.2.2.2.1,t.2.2.2.2.2.2.2.1,t.2.2.2.2.2.2.2.2.1,t.2.2.2.2.2.2.2.2.2.1,t.2.2.2.2.2.2.2.2.2.2.1,t.2.2.2.2.2.2.2.2.2.2.2.1,b.1),(2:Int),m.2.1)) fun(b_3:Ms)=>some ((t.1,t.2.1,t.2.2.1,t.2.2.2.1,t.2.2.2.2.1,t.2.2.2.2.2.1,t.2.2.2.2.2.2.1,t.2.2.2.2.2.2.2.1,t.2.2.2.2.2.2.2.2.1,t.2.2.2.2.2.2.2.2.2.1,t.2.2.2.2.2.2.2.2.2.2.1,t.2.2.2.2.2.2.2.2.2.2.2.1,b.1),[(b_3.1,b_3.2.1,b_3.2.2.1,b_3.2.2.2.1,b_3.2.2.2.2.1,b_3.2.2.2.2.2.1,b_3.2.2.2.2.2.2.1,lo,b_3.2.2.2.2.2.2.2.2)]))=some ((withK t (hearM t.2.2.2.2.2.2.2.2.2.2.2.2 (m.2.1,m.2.2.2.1,t.2.2.1))),[fullM t 2 m.2.1 lo]):=by
    rw[hh,obind_s]
    try simp only
    rw[withK_eq,htw,obind_s]
    obtain⟨id,inc,now,par,pinc,grd,path,ep,born,ask,unt,stp,kids⟩:=t
    rfl
  cases hF:freshM t with
  | false=>rw[Bool.not_false,cnd_t,tell_eq,obind_s,if_pos (.inl rfl)]
  | true=>
    rw[Bool.not_true,cnd_f,hha,obind_s]
    by_cases c1:m.2.1∈t.2.2.2.2.2.2.1
    · rw[dT c1,cnd_t,tell_eq,obind_s,if_pos (.inr (.inl c1))]
    rw[dF c1,cnd_f]
    cases hfk:(findK t.2.2.2.2.2.2.2.2.2.2.2.2 m.2.1).1 with
    | false=>
      rw[Bool.not_false,cnd_t,most_eq,obind_s]
      by_cases c2:mostM t≤(t.2.2.2.2.2.2.2.2.2.2.2.2.length:Int)
      · rw[dT c2,cnd_t,tell_eq,obind_s,if_pos (.inr (.inr ⟨rfl,c2⟩))]
      · rw[dF c2,cnd_f,if_neg (fun h=>h.elim (fun q=>by cases q) (fun h=>h.elim (fun q=>c1 q) (fun q=>c2 q.2)))]
        exact fin
    | true=>
      rw[Bool.not_true,cnd_f,if_neg (fun h=>h.elim (fun q=>by cases q) (fun h=>h.elim (fun q=>c1 q) (fun q=>by cases q.1)))]
      exact fin

theorem accept_eqS (N:Nat) (hN:2000≤N) {B:Int} (t:TT) (h:Tb B t) (hB:B≤1000000) (m:Ms) (hm:Mb m):W_af N (t,m)=some (swp (acceptM t m)):=by
  have hv:=vain_eq N t h (by omega)
  have hn:0≤t.2.2.1∧t.2.2.1≤B:=by
    obtain⟨id,inc,now,par,pinc,grd,path,ep,born,ask,unt,stp,kids⟩:=t
    exact h.2.1
  have hadd:=Add_eq N m.2.2.2.2.2.2.1 t.1 (by omega) hm.pl
  have hage:=hm.age
  unfold W_af V_af acceptM
  try simp only
  rw[of_eq,obind_s]
  by_cases u:isUp t m
  · rw[if_pos u,selim_l,if_pos u]
  rw[if_neg u,if_neg u]
  by_cases a:isAsk t m
  · rw[if_pos a,selim_r,selim_l,tell_eq,obind_s]
    rw[selim_r,selim_l]
    by_cases c1:t.2.2.2.1≠0
    · rw[dT c1,cnd_t,if_neg (fun q=>c1 q.2)]
    · rw[dF c1,cnd_f,if_pos ⟨a,by omega⟩,hadd,obind_s]
      by_cases c2:VP (m.2.2.2.2.2.2.1++[t.1])
      · rw[if_pos c2]
        try simp only
        rw[Bool.not_true,cnd_f]
        by_cases c3:20<m.2.2.2.2.2.1
        · rw[dT c3,cnd_t,hv,obind_s,if_neg (fun q=>by have:=q.2;omega)]
        · rw[dF c3,cnd_f,under_eq N t m _ hm.pl,obind_s,if_pos ⟨c2,by omega⟩]
          try simp only
          rw[wr_m (by omega) (by omega)]
      · rw[if_neg c2]
        try simp only
        rw[Bool.not_false,cnd_t,hv,obind_s,if_neg (fun q=>c2 q.1)]
  · rw[if_neg a,selim_r,selim_r,tell_eq,obind_s,selim_r,selim_r,if_neg (fun q=>a q.1)]
theorem beatUp_eqS (N:Nat) (hN:2000≤N) {B:Int} (t:TT) (h:Tb B t) (m:Ms):W_ah N (t,m)=some (swp (beatUpM t m)):=by
  have hfi:=h.find N hN m.2.1
  obtain⟨q,hh⟩:=h.hear N hN m.2.1 m.2.2.2.1 t.2.2.1
  unfold W_ah V_ah beatUpM
  try simp only
  rw[hfi,obind_s]
  cases hfk:(findK t.2.2.2.2.2.2.2.2.2.2.2.2 m.2.1).1 with
  | false=>rw[Bool.not_false,cnd_t,tell_eq,obind_s,if_pos rfl]
  | true=>
    rw[Bool.not_true,cnd_f,hh,obind_s,if_neg (by simp)]
    try simp only
    rw[withK_eq]
theorem beatDn_eqS (N:Nat) (hN:2000≤N) {B:Int} (t:TT) (h:Tb B t) (hB:B≤1000000) (m:Ms) (hm:Mb m):W_aj N (t,m)=some (swp (beatDnM t m)):=by
  have hn:0≤t.2.2.1∧t.2.2.1≤B:=by
    obtain⟨id,inc,now,par,pinc,grd,path,ep,born,ask,unt,stp,kids⟩:=t
    exact h.2.1
  have hadd:=Add_eq N m.2.2.2.2.2.2.1 t.1 (by omega) hm.pl
  have hage:=hm.age
  unfold W_aj V_aj beatDnM
  try simp only
  rw[tell_eq,obind_s,of_eq,obind_s]
  by_cases u:isUp t m
  · rw[if_pos u,selim_l,if_pos u,hadd,obind_s]
    by_cases c2:VP (m.2.2.2.2.2.2.1++[t.1])
    · rw[if_pos c2,if_pos c2]
      try simp only
      rw[Bool.not_true,cnd_f,under_eq N t m _ hm.pl,obind_s]
      try simp only
      rw[wr_m (by omega) (by omega)]
      by_cases c3:t.2.2.2.2.2.2.2.2.1<t.2.2.1-m.2.2.2.2.2.1
      · rw[dT c3,cnd_t,if_pos c3,if_pos c3]
      · rw[dF c3,cnd_f,if_neg c3,if_neg c3]
    · rw[if_neg c2,if_neg c2]
      try simp only
      rw[Bool.not_false,cnd_t,letGo_eq,obind_s]
  · rw[if_neg u,if_neg u]
    by_cases a:isAsk t m
    · rw[if_pos a,selim_r,selim_l]
    · rw[if_neg a,selim_r,selim_r]
theorem disp_eqS (N:Nat) (hN:2000≤N) {B:Int} (t:TT) (h:Tb B t) (hB:B≤1000000) (m:Ms) (hm:Mb m) (lo:Int):cnd (decide (m.1=(1:Int))) (obind (W_al N (t,m,lo)) fun(b:TT×List Ms)=>some b) (cnd (decide (m.1=(2:Int))) (obind (W_af N (t,m)) fun(b:TT×List Ms)=>some b) (cnd (decide (m.1=(3:Int))) (obind (W_ai N (t,m)) fun(b:TT)=>some (b,([]:List Ms))) (cnd (decide (m.1=(4:Int))) (obind (W_ah N (t,m)) fun(b:TT×List Ms)=>some b) (cnd (decide (m.1=(5:Int))) (obind (W_aj N (t,m)) fun(b:TT×List Ms)=>some b) (cnd (decide (m.1=(6:Int))) (obind (W_am N (t.2.2.2.2.2.2.2.2.2.2.2.2,m.2.1)) fun(b_4:List Kd)=>some ((t.1,t.2.1,t.2.2.1,t.2.2.2.1,t.2.2.2.2.1,t.2.2.2.2.2.1,t.2.2.2.2.2.2.1,t.2.2.2.2.2.2.2.1,t.2.2.2.2.2.2.2.2.1,t.2.2.2.2.2.2.2.2.2.1,t.2.2.2.2.2.2.2.2.2.2.1,t.2.2.2.2.2.2.2.2.2.2.2.1,b_4),[])) (some (t,[])))))))=some (swp (dispM t m lo)):=by
  unfold dispM
  by_cases c1:m.1=1
  · rw[dT c1,cnd_t,attach_eqS N hN t h hB m hm lo,obind_s,if_pos c1]
  rw[dF c1,cnd_f,if_neg c1]
  by_cases c2:m.1=2
  · rw[dT c2,cnd_t,accept_eqS N hN t h hB m hm,obind_s,if_pos c2]
  rw[dF c2,cnd_f,if_neg c2]
  by_cases c3:m.1=3
  · rw[dT c3,cnd_t,refuse_eq N t h hB m,obind_s,if_pos c3]
  rw[dF c3,cnd_f,if_neg c3]
  by_cases c4:m.1=4
  · rw[dT c4,cnd_t,beatUp_eqS N hN t h m,obind_s,if_pos c4]
  rw[dF c4,cnd_f,if_neg c4]
  by_cases c5:m.1=5
  · rw[dT c5,cnd_t,beatDn_eqS N hN t h hB m hm,obind_s,if_pos c5]
  rw[dF c5,cnd_f,if_neg c5]
  by_cases c6:m.1=6
  · have:=h.kl
    rw[dT c6,cnd_t,drop_eq N hN _ _ (by omega),obind_s,if_pos c6,withK_eq]
  rw[dF c6,cnd_f,if_neg c6]
theorem comes_eqS (N:Nat) (hN:2000≤N) {B:Int} (t:TT) (h:Tb B t) (hB:B≤1000000) (m:Ms) (hm:Mb m) (lo:Int):W_ba N (t,m,lo)=some (swp (comesT t m lo)):=by
  have htw:=twinT_eq N t h
  have ho:=h.old N hN m.2.1 m.2.2.2.1
  have hd:=disp_eqS N hN t h hB m hm lo
  have hd2:=disp_eqS N hN _ (h.off (s:=0) ⟨by omega,h.b0⟩) hB m hm lo
  unfold W_ba V_ba comesT
  try simp only
  rw[htw,obind_s,of_eq,obind_s]
  by_cases u:isUp t m
  · rw[if_pos u,selim_l,ho,obind_s]
    cases oldK t.2.2.2.2.2.2.2.2.2.2.2.2 m.2.1 m.2.2.2.1 with
    | true=>rw[cnd_t,if_pos rfl]
    | false=>
      rw[cnd_f,if_neg (by simp),if_pos u]
      by_cases c1:m.2.2.2.1<t.2.2.2.2.1
      · rw[dT c1,cnd_t,if_pos c1]
      rw[dF c1,cnd_f,if_neg c1]
      by_cases c2:t.2.2.2.2.1<m.2.2.2.1
      · rw[dT c2,cnd_t,letGo_eq,obind_s,obind_s,if_pos c2]
        exact hd2
      · rw[dF c2,cnd_f,obind_s,if_neg c2]
        exact hd
  rw[if_neg u]
  by_cases a:isAsk t m
  · rw[if_pos a,selim_r,selim_l,ho,obind_s]
    cases oldK t.2.2.2.2.2.2.2.2.2.2.2.2 m.2.1 m.2.2.2.1 with
    | true=>rw[cnd_t,if_pos rfl]
    | false=>
      rw[cnd_f,if_neg (by simp),if_neg u]
      exact hd
  · rw[if_neg a,selim_r,selim_r,ho,obind_s]
    cases oldK t.2.2.2.2.2.2.2.2.2.2.2.2 m.2.1 m.2.2.2.1 with
    | true=>rw[cnd_t,if_pos rfl]
    | false=>
      rw[cnd_f,if_neg (by simp),if_neg u]
      exact hd
abbrev It:=Int×List UInt8
abbrev iD:It:=((0:Int),([]:List UInt8))
abbrev Ev:=Int×Int×Int×List UInt8×Int
abbrev Sp:=Int×Int
abbrev Fd:=Int×Int×List It×List It×List Ev×Int×Int
def z7:Fd:=(0,0,[],[],[],0,0)
def addR (l:List It) (e:It):List It:=if 6≤l.length then(l++[e]).drop 1 else l++[e]
theorem addR_len (l:List It) (e:It) (hl:l.length≤6):(addR l e).length=min (l.length+1) 6:=by
  unfold addR
  split<;>simp<;>omega
theorem drop_consI {l:List It} {i:Nat} (h:i<l.length):l.drop i=l.getD i iD::l.drop (i+1):=by
  rw[List.drop_eq_getElem_cons h,List.getD_eq_getElem?_getD,List.getElem?_eq_getElem h];rfl
def getF:List It→Int→List UInt8×Bool
  | [],_=>([],false)
  | w::r,s=>if w.1=s then(w.2,true) else getF r s
def Wk (n K:Int):List It→Prop
  | []=>True
  | w::r=>n≤w.1∧w.1≤K∧Wk (w.1+1) K r
theorem Wk.mono:∀{l:List It} {n n' K K':Int},Wk n K l→n'≤n→K≤K'→Wk n' K' l
  | [],_,_,_,_,_,_,_=>trivial
  | w::r,n,n',K,K',h,h1,h2=>⟨by have:=h.1;omega,by have:=h.2.1;omega,h.2.2.mono (Int.le_refl _) h2⟩
theorem Wk.len:∀{l:List It} {n K:Int},Wk n K l→n≤K+1→(l.length:Int)≤K+1-n
  | [],_,_,_,_=>by simp;omega
  | w::r,n,K,h,h1=>by
    have:=h.2.2.len (by have:=h.2.1;omega)
    have:=h.1
    simp only[List.length_cons];omega
theorem Wk.mem:∀{l:List It} {n K:Int},Wk n K l→∀w∈l,n≤w.1∧w.1≤K
  | [],_,_,_,_,h=>by simp at h
  | x::r,n,K,h,w,hw=>by
    rcases List.mem_cons.1 hw with rfl | hw
    · exact⟨h.1,h.2.1⟩
    · have:=h.2.2.mem w hw;have:=h.1;omega
theorem Wk.last:∀{l:List It} {n K:Int},Wk n K l→∀_:0<l.length,(l.getD (l.length-1) iD).1≤K:=by
  intro l n K h hl
  have:l.getD (l.length-1) iD∈l:=by
    rw[List.getD_eq_getElem?_getD,List.getElem?_eq_getElem (by omega)];exact List.getElem_mem (by omega)
  exact(h.mem _ this).2
theorem Wk.snoc:∀{l:List It} {n K K':Int} {e:It},Wk n K l→n≤e.1→K<e.1→e.1≤K'→Wk n K' (l++[e])
  | [],_,_,_,_,_,h1,_,h3=>⟨h1,h3,trivial⟩
  | w::r,n,K,K',e,h,h1,h2,h3=>by
    have:=h.2.1
    exact⟨h.1,by omega,h.2.2.snoc (by omega) h2 h3⟩
theorem Wk.drop1:∀{l:List It} {n K:Int},Wk n K l→Wk n K (l.drop 1)
  | [],_,_,_=>trivial
  | w::r,n,K,h=>h.2.2.mono (by have:=h.1;omega) (Int.le_refl _)
theorem Wk.ring {l:List It} {n:Int} {e:It} {K:Int} (h:Wk 1 (n-1) l) (h1:1≤n) (he:e.1=n) (hK:n≤K):Wk 1 K (addR l e):=by
  have:=h.snoc (e:=e) (K':=K) (by omega) (by omega) (by omega)
  unfold addR
  split
  · exact this.drop1
  · exact this
theorem getF_none:∀{l:List It} {n K:Int},Wk n K l→∀s,s<n→getF l s=([],false)
  | [],_,_,_,_,_=>rfl
  | w::r,n,K,h,s,hs=>by
    have:=h.1
    simp only[getF]
    rw[if_neg (by omega)]
    exact getF_none h.2.2 s (by omega)
def insW (x:It):List It→List It
  | []=>[x]
  | w::r=>if x.1<w.1 then x::w::r else w::insW x r
theorem insW_len (x:It):∀l,(insW x l).length=l.length+1
  | []=>rfl
  | w::r=>by
    simp only[insW]
    split
    · rfl
    · simp only[List.length_cons,insW_len x r]
theorem Wk.ins:∀{l:List It} {n K:Int} {x:It},Wk n K l→n≤x.1→x.1≤K→(getF l x.1).2=false→Wk n K (insW x l)
  | [],n,K,x,_,h1,h2,_=>⟨h1,h2,trivial⟩
  | w::r,n,K,x,h,h1,h2,h3=>by
    simp only[getF] at h3
    by_cases c:w.1=x.1
    · rw[if_pos c] at h3;cases h3
    rw[if_neg c] at h3
    simp only[insW]
    split
    · exact⟨h1,h2,by omega,h.2.1,h.2.2⟩
    · exact⟨h.1,h.2.1,h.2.2.ins (by omega) h2 h3⟩
def putM (l:List It) (n:Int) (x:It):List It×Bool:=
  if x.1<n∨8≤x.1-n∨(getF l x.1).2=true then(l,false) else(insW x l,true)
def goM:List It→Int→List It→List Ev→List It×Int×List It×List It×List Ev
  | [],n,R,L=>([],n,R,[],L)
  | w::r,n,R,L=>if w.1=n then(w::(goM r (n+1) (addR R w) (L++[(1,w.1,w.1,w.2,0)])).1,(goM r (n+1) (addR R w) (L++[(1,w.1,w.1,w.2,0)])).2) else([],n,R,w::r,L)
def goesM (f:Fd):List It×Fd:=
  let q:=goM f.2.2.2.1 f.1 f.2.2.1 f.2.2.2.2.1
  (q.1,q.2.1,f.2.1,q.2.2.1,q.2.2.2.1,q.2.2.2.2,if q.1=[] then f.2.2.2.2.2 else(0,0))
def skR (hi why:Int):Nat→Int→List It→List It→List Ev→List Sp→List Sp×Int×List It×List It×List Ev
  | 0,n,R,W,L,o=>(o,n,R,W,L)
  | j+1,n,R,W,L,o=>
    if n≤hi then
      match W with
      | []=>skR hi why j (hi+1) R [] (L++[(2,n,hi,[],why)]) (o++[(n,hi)])
      | w::r=>
        if w.1≤hi then
          if n<w.1 then
            let q:=goM (w::r) w.1 R (L++[(2,n,w.1-1,[],why)])
            skR hi why j q.2.1 q.2.2.1 q.2.2.2.1 q.2.2.2.2 (o++[(n,w.1-1)])
          else
            let q:=goM (w::r) n R L
            skR hi why j q.2.1 q.2.2.1 q.2.2.2.1 q.2.2.2.2 o
        else skR hi why j (hi+1) R (w::r) (L++[(2,n,hi,[],why)]) (o++[(n,hi)])
    else(o,n,R,W,L)
def skipsM (f:Fd) (hi why:Int):List Sp×Fd:=
  if f.1<1∨1000000<hi then([],f) else
    let q:=skR hi why (f.2.2.2.1.length+2) f.1 f.2.2.1 f.2.2.2.1 f.2.2.2.2.1 []
    (q.1,q.2.1,f.2.1,q.2.2.1,q.2.2.2.1,q.2.2.2.2,if f.1≤hi then(0,0) else f.2.2.2.2.2)
def knowsM (f:Fd) (t:Int):Fd:=if 0<f.1∧t≤1000000 then(f.1,max f.2.1 t,f.2.2) else f
def beginM (f:Fd) (n:Int):Fd:=if 0<f.1 then knowsM f (n-1) else if 1≤n∧n≤1000000 then(n,f.2) else f
def wantsM (f:Fd):Bool×Int×Int:=
  let hi:=match f.2.2.2.1 with
    | []=>f.2.1
    | w::_=>w.1-1
  if f.1=0∨hi<f.1 then(false,0,0) else(true,f.1,hi)
def notesM (f:Fd) (lo hi:Int):Fd:=
  if f.1=0∨lo<1∨hi<lo∨1000000<hi then f else
    let g:=knowsM f hi
    if f.1<lo∨hi<f.1 then g else(goesM (skipsM g hi 1).2).2
def comesM (f:Fd) (x:It):Fd:=
  if f.1=0∨x.1<1∨1000000<x.1∨(12:Int)<x.2.length then f else
    let g:=knowsM f x.1
    (goesM (g.1,g.2.1,g.2.2.1,(putM g.2.2.2.1 g.1 x).1,g.2.2.2.2)).2
def nowM (a:Int×Int) (now:Int):Bool:=if a.1=0 then true else decide (a.2≤now)
def triedM (a:Int×Int) (now:Int):Int×Int:=(a.1+1,now+2*2 ^ (min a.1.toNat 3))
def tickM_4 (f:Fd) (now:Int):Bool×Fd×Int×Int:=
  let s:=wantsM f
  if s.1=false∨nowM f.2.2.2.2.2 now=false then(false,f,0,0) else
    if 3≤f.2.2.2.2.2.1 then(false,(goesM (skipsM f s.2.2 2).2).2,0,0) else
      (true,(f.1,f.2.1,f.2.2.1,f.2.2.2.1,f.2.2.2.2.1,triedM f.2.2.2.2.2 now),s.2.1,s.2.2)
def Ch:Int→List Ev→Int→Prop
  | n,[],m=>n=m
  | n,e::r,m=>e.2.1=n∧e.2.1≤e.2.2.1∧Ch (e.2.2.1+1) r m
theorem Ch.len:∀{L:List Ev} {n m:Int},Ch n L m→(L.length:Int)≤m-n
  | [],_,_,h=>by have h':_=_:=h;simp;omega
  | e::r,n,m,h=>by
    have:=h.2.2.len;have:=h.1;have:=h.2.1
    simp only[List.length_cons];omega
theorem Ch.snoc:∀{L:List Ev} {n m:Int} {e:Ev},Ch n L m→e.2.1=m→m≤e.2.2.1→Ch n (L++[e]) (e.2.2.1+1)
  | [],_,_,e,h,h1,h2=>by have h':_=_:=h;exact⟨by omega,by omega,rfl⟩
  | x::r,n,m,e,h,h1,h2=>⟨h.1,h.2.1,h.2.2.snoc h1 h2⟩
structure Fp (K c n:Int) (R W:List It) (L:List Ev):Prop where
  nx:1≤n∧n≤K+1
  rk:Wk 1 (n-1) R
  rl:R.length≤6
  wk:Wk n (min K (n+7)) W
  ch:Ch c L n
  c0:0≤c
theorem Fp.tell {K c n:Int} {R r:List It} {w:It} {L:List Ev} (h:Fp K c n R (w::r) L) (hw:w.1=n):Fp K c (n+1) (addR R w) r (L++[(1,w.1,w.1,w.2,0)]):=by
  obtain⟨⟨a,b⟩,rk,rl,wk,ch,c0⟩:=h
  have hk:=wk.2.1
  refine⟨⟨by omega,by omega⟩,rk.ring a hw (by omega),by rw[addR_len _ _ rl];omega,wk.2.2.mono (by omega) (by omega),?_,c0⟩
  have:=ch.snoc (e:=(1,w.1,w.1,w.2,0)) hw (by simp only;omega)
  simp only at this
  rw[hw] at this ⊢
  exact this
theorem Fp.skip {K c n:Int} {R W:List It} {L:List Ev} (h:Fp K c n R W L) {m why:Int} (hm:n≤m) (hk:m≤K) (hw:Wk (m+1) (min K (n+7)) W):Fp K c (m+1) R W (L++[(2,n,m,[],why)]):=by
  obtain⟨⟨a,b⟩,rk,rl,wk,ch,c0⟩:=h
  exact⟨⟨by omega,by omega⟩,rk.mono (Int.le_refl _) (by omega),rl,hw.mono (Int.le_refl _) (by omega),ch.snoc rfl hm,c0⟩
theorem goM_ok {K c:Int}:∀(W:List It) (n:Int) (R:List It) (L:List Ev),Fp K c n R W L→Fp K c (goM W n R L).2.1 (goM W n R L).2.2.1 (goM W n R L).2.2.2.1 (goM W n R L).2.2.2.2∧
    Wk ((goM W n R L).2.1+1) (min K ((goM W n R L).2.1+7)) (goM W n R L).2.2.2.1∧n+(goM W n R L).1.length=(goM W n R L).2.1∧(goM W n R L).1++(goM W n R L).2.2.2.1=W∧(goM W n R L).2.2.2.2=L++(goM W n R L).1.map fun w=>(1,w.1,w.1,w.2,0)
  | [],n,R,L,h=>⟨h,trivial,by simp[goM],rfl,by simp[goM]⟩
  | w::r,n,R,L,h=>by
    unfold goM
    by_cases c1:w.1=n
    · rw[if_pos c1]
      obtain⟨h1,h2,h3,h4,h5⟩:=goM_ok r (n+1) _ _ (h.tell c1)
      refine⟨h1,h2,by simp only[List.length_cons];omega,by simp only[List.cons_append,h4],?_⟩
      simp only[h5,List.map_cons,List.append_assoc,List.cons_append,List.nil_append]
    · rw[if_neg c1]
      have:=h.wk.1
      refine⟨h,⟨by simp only;omega,h.wk.2⟩,by simp,rfl,by simp⟩
theorem goM_head {w:It} {r R:List It} {n:Int} {L:List Ev} (h:w.1=n):(goM (w::r) n R L).1≠[]∧(goM (w::r) n R L).2.2.2.1.length≤r.length:=by
  have hl:∀(W:List It) (n:Int) (R:List It) (L:List Ev),(goM W n R L).2.2.2.1.length≤W.length:=by
    intro W
    induction W with
    | nil=>intro n R L;simp[goM]
    | cons w r ih=>
      intro n R L
      unfold goM
      split
      · have:=ih (n+1) (addR R w) (L++[(1,w.1,w.1,w.2,0)]);simp only[List.length_cons];omega
      · simp
  unfold goM
  rw[if_pos h]
  exact⟨by simp,hl _ _ _ _⟩
theorem skR_ok {K c hi why:Int} (hK:hi≤K):∀(j:Nat) (n:Int) (R W:List It) (L:List Ev) (o:List Sp),Fp K c n R W L→(n≤hi→W.length+1≤j)→
    Fp K c (skR hi why j n R W L o).2.1 (skR hi why j n R W L o).2.2.1 (skR hi why j n R W L o).2.2.2.1 (skR hi why j n R W L o).2.2.2.2∧hi<(skR hi why j n R W L o).2.1∧n≤(skR hi why j n R W L o).2.1
  | 0,n,R,W,L,o,h,hj=>by
    have:¬n≤hi:=fun q=>by have:=hj q;omega
    exact⟨h,by simp only[skR];omega,by simp only[skR];omega⟩
  | j+1,n,R,W,L,o,h,hj=>by
    unfold skR
    by_cases c0:n≤hi
    case neg=>rw[if_neg c0];exact⟨h,by simp only;omega,by simp only;omega⟩
    rw[if_pos c0]
    have hj:=hj c0
    cases W with
    | nil=>
      try simp only
      obtain⟨a1,a2,a3⟩:=skR_ok hK j (hi+1) R [] (L++[(2,n,hi,[],why)]) (o++[(n,hi)]) (h.skip c0 hK trivial) (fun q=>by omega)
      exact⟨a1,a2,by omega⟩
    | cons w r=>
      simp only[List.length_cons] at hj
      try simp only
      have hw:=h.wk
      by_cases c1:w.1≤hi
      · rw[if_pos c1]
        by_cases c2:n<w.1
        · rw[if_pos c2]
          have hs:Fp K c w.1 R (w::r) (L++[(2,n,w.1-1,[],why)]):=by
            have:=h.skip (m:=w.1-1) (why:=why) (by omega) (by omega) ⟨by omega,hw.2⟩
            rwa [show w.1-1+1=w.1 by omega] at this
          obtain⟨g1,g2,g3,g4,_⟩:=goM_ok _ _ _ _ hs
          obtain⟨g5,g6⟩:=goM_head (r:=r) (R:=R) (L:=L++[(2,n,w.1-1,[],why)]) (rfl:w.1=w.1)
          obtain⟨a1,a2,a3⟩:=skR_ok hK j _ _ _ _ (o++[(n,w.1-1)]) g1 (fun q=>by omega)
          exact⟨a1,a2,by omega⟩
        · rw[if_neg c2]
          have e:w.1=n:=by have:=hw.1;omega
          obtain⟨g1,g2,g3,g4,_⟩:=goM_ok _ _ _ _ h
          obtain⟨g5,g6⟩:=goM_head (r:=r) (R:=R) (L:=L) e
          obtain⟨a1,a2,a3⟩:=skR_ok hK j _ _ _ _ o g1 (fun q=>by omega)
          exact⟨a1,a2,by omega⟩
      · rw[if_neg c1]
        obtain⟨a1,a2,a3⟩:=skR_ok hK j (hi+1) R (w::r) (L++[(2,n,hi,[],why)]) (o++[(n,hi)]) (h.skip c0 hK ⟨by omega,hw.2⟩) (fun q=>by omega)
        exact⟨a1,a2,by omega⟩
theorem rTell (N:Nat) (a:List Ev) (n:Int) (t:List UInt8) (hl:a.length≤100000000):W_aZ N (a,n,t)=some (a++[(1,n,n,t,0)]):=by
  unfold W_aZ V_aZ
  try simp only
  rw[cnd_T (by omega),cnd_T (by simp only[List.length_cons,List.length_nil];omega)]
theorem rSkip_eq (N:Nat) (a:List Ev) (lo hi why:Int) (hl:a.length≤100000000):W_aG N (a,lo,hi,why)=some (a++[(2,lo,hi,[],why)]):=by
  unfold W_aG V_aG
  try simp only
  rw[cnd_T (by omega),cnd_T (by omega)]
theorem cut1 (l:List It) (h:1≤l.length):List.drop ((0:Nat)+(cutT (0:Nat) l.length l.length (some (1:Int)) none).2.1) (List.take ((0:Nat)+(cutT (0:Nat) l.length l.length (some (1:Int)) none).2.1+((cutT (0:Nat) l.length l.length (some (1:Int)) none).2.2-(cutT (0:Nat) l.length l.length (some (1:Int)) none).2.1)) l)=l.drop 1:=by
  simp only[cutT,Option.getD_some,Option.getD_none]
  have e:(1:Int).toNat=1:=rfl
  rw[e,show 0+1+(l.length-1)=l.length by omega,List.take_length]
theorem rAdd_eq_4 (N:Nat) (l:List It) (e:It) (hl:l.length≤6) (hs:∀h:0<l.length,(l.getD (l.length-1) iD).1<e.1):W_aS N (l,e.1,e.2)=some (addR l e):=by
  unfold W_aS V_aS
  simp only[Option.getD_some]
  rw[cnd_T (by omega)]
  have tail:cnd (decide ((List.length l+List.length [(e.1,e.2)])*(24:Nat)≤(140737488355328:Nat)))
          (cnd (decide ((6:Int)<(↑(List.length (l++[(e.1,e.2)])):Int)))
            (cnd (decide ((1:Int)≤(↑(List.length (l++[(e.1,e.2)])):Int))) (some (List.drop ((0:Nat)+(cutT (0:Nat) (l++[(e.1,e.2)]).length (l++[(e.1,e.2)]).length (some (1:Int)) none).2.1) (List.take ((0:Nat)+(cutT (0:Nat) (l++[(e.1,e.2)]).length (l++[(e.1,e.2)]).length (some (1:Int)) none).2.1+((cutT (0:Nat) (l++[(e.1,e.2)]).length (l++[(e.1,e.2)]).length (some (1:Int)) none).2.2-(cutT (0:Nat) (l++[(e.1,e.2)]).length (l++[(e.1,e.2)]).length (some (1:Int)) none).2.1)) (l++[(e.1,e.2)])))) none)
            (some (l++[(e.1,e.2)])))
          none=some (addR l e):=by
    rw[dT (by simp only[List.length_singleton];omega),cnd_t]
    unfold addR
    by_cases h6:6≤l.length
    · rw[dT (by simp only[List.length_append,List.length_singleton];omega),cnd_t,if_pos h6,dT (by simp only[List.length_append,List.length_singleton];omega),cnd_t,cut1 _ (by simp)]
    · rw[dF (by simp only[List.length_append,List.length_singleton];omega),cnd_f,if_neg h6]
  by_cases h0:(0:Int)<l.length
  · have w1:wr .i64 ((l.length:Int)-1)=((l.length-1:Nat):Int):=by rw[wr_m (by omega) (by omega)];omega
    have h1:=hs (by omega)
    rw[dT h0,cnd_t,w1,dT (by omega),dT (by omega),Bool.and_self,cnd_t,Int.toNat_natCast,dF (by show ¬e.1≤(l.getD (l.length-1) iD).1;omega),cnd_f]
    exact tail
  · rw[dF h0,cnd_f]
    exact tail
theorem TakeWin_nil (N:Nat) (n:Int):W_9 N ([],n)=some ([],false,0,[]):=by
  unfold W_9 V_9
  simp only[List.length_nil]
  rw[dT (by omega),cnd_t]
theorem TakeWin_no (N:Nat) (w:It) (r:List It) (n:Int) (h:w.1≠n):W_9 N (w::r,n)=some (w::r,false,0,[]):=by
  unfold W_9 V_9
  simp only[List.length_cons]
  rw[dF (by omega),cnd_f,dT (by omega),dT (by omega),Bool.and_self,cnd_t]
  have e:(List.getD (w::r) 0 ((0:Int),([]:List UInt8)))=w:=rfl
  rw[e,dT h,cnd_t]
theorem TakeWin_yes (N:Nat) (w:It) (r:List It) (hr:r.length≤1000):W_9 N (w::r,w.1)=some (r,true,w.1,w.2):=by
  unfold W_9 V_9
  simp only[List.length_cons]
  have e:(List.getD (w::r) 0 ((0:Int),([]:List UInt8)))=w:=rfl
  have e2:List.drop 1 (List.take (r.length+1) (w::r))=r:=by simp
  rw[dF (by omega),cnd_f,dT (by omega),dT (by omega),Bool.and_self,cnd_t,e,dF (fun q=>q rfl),cnd_f,dT (by omega),dT (by omega),Bool.and_self,cnd_t,cnd_T (by rw[e2];omega),cnd_t,e2]
theorem Fp.lens {K c n:Int} {R W:List It} {L:List Ev} (h:Fp K c n R W L) (hK:K≤10000000):W.length≤8∧L.length≤10000001∧∀_:0<R.length,(R.getD (R.length-1) iD).1<n:=by
  have a:=h.wk.len (by have:=h.nx;omega)
  have b:=h.ch.len
  have d:=h.c0
  have e:=h.nx
  refine⟨by omega,by omega,fun q=>?_⟩
  have:=h.rk.last q
  omega
theorem goM_eq (w:It) (r R:List It) (L:List Ev):goM (w::r) w.1 R L=(w::(goM r (w.1+1) (addR R w) (L++[(1,w.1,w.1,w.2,0)])).1,(goM r (w.1+1) (addR R w) (L++[(1,w.1,w.1,w.2,0)])).2):=by
  conv=>lhs;unfold goM
  rw[if_pos rfl]
theorem goM_ne {w:It} {n:Int} (h:w.1≠n) (r R:List It) (L:List Ev):goM (w::r) n R L=([],n,R,w::r,L):=by
  conv=>lhs;unfold goM
  rw[if_neg h]
theorem rGoes_eq (N:Nat) (hN:2000≤N) {K c:Int} {f:Fd} (h:Fp K c f.1 f.2.2.1 f.2.2.2.1 f.2.2.2.2.1) (hK:K≤10000000):W_l N f=some (goesM f):=by
  obtain⟨nx,tp,R,Wn,Lg,a,b⟩:=f
  unfold W_l V_l goesM
  simp only at h ⊢
  have hwl:=(h.lens hK).1
  refine loop_G (N:=N) (x:=((nx,tp,R,Wn,Lg,a,b),z7,[])) (fun q=>q=some ((goM Wn nx R Lg).1,(goM Wn nx R Lg).2.1,tp,(goM Wn nx R Lg).2.2.1,(goM Wn nx R Lg).2.2.2.1,(goM Wn nx R Lg).2.2.2.2,if (goM Wn nx R Lg).1=[] then(a,b) else(0,0)))
    (fun k (v:Fd×Fd×List It)=>v.2.1=z7∧Fp K c v.1.1 v.1.2.2.1 v.1.2.2.2.1 v.1.2.2.2.2.1∧v.1.2.1=tp∧v.1.2.2.2.1.length+k=Wn.length∧v.2.2.length=k∧(v.2.2++(goM v.1.2.2.2.1 v.1.1 v.1.2.2.1 v.1.2.2.2.2.1).1,(goM v.1.2.2.2.1 v.1.1 v.1.2.2.1 v.1.2.2.2.2.1).2)=goM Wn nx R Lg∧v.1.2.2.2.2.2=if v.2.2=[] then(a,b) else(0,0)) Wn.length
    (fun r:List It×Fd=>r=((goM Wn nx R Lg).1,(goM Wn nx R Lg).2.1,tp,(goM Wn nx R Lg).2.2.1,(goM Wn nx R Lg).2.2.2.1,(goM Wn nx R Lg).2.2.2.2,if (goM Wn nx R Lg).1=[] then(a,b) else(0,0))) ⟨rfl,h,rfl,by simp,rfl,by simp,by simp⟩ (by omega) ?_ (fun k v h=>by have:=h.2.2.2.1;omega) ?_
  · rintro r rfl;rfl
  · rintro k ⟨⟨n',t',R',W',L',a',b'⟩,z,o⟩ ⟨rfl,hf,rfl,hwk,hol,hq,hab⟩
    simp only at hf hwk hol hq hab ⊢
    obtain⟨l1,l2,l3⟩:=hf.lens hK
    have hnx:=hf.nx
    cases W' with
    | nil=>
      right
      rw[TakeWin_nil,obind_s]
      simp only[Bool.not_false,cnd_t]
      refine⟨_,rfl,?_⟩
      simp only[goM,List.append_nil] at hq
      rw[←hq,hab]
    | cons w r=>
      simp only[List.length_cons] at hwk l1
      by_cases cw:w.1=n'
      · left
        obtain rfl:n'=w.1:=cw.symm
        rw[TakeWin_yes N w r (by omega),obind_s]
        simp only[Bool.not_true,cnd_f]
        rw[rTell N L' w.1 w.2 (by omega),obind_s,rAdd_eq_4 N R' (w.1,w.2) hf.rl l3,obind_s]
        have hs:=hf.tell rfl
        rw[goM_eq] at hq
        refine⟨_,cnd_T (by simp only[List.length_cons,List.length_nil];omega),rfl,?_,rfl,by simp only;omega,by simp[hol],?_,by simp⟩
        · simp only
          rw[wr_m (by omega) (by omega)]
          exact hs
        · simp only
          rw[wr_m (by omega) (by omega),←hq]
          simp only[List.append_assoc,List.cons_append,List.nil_append]
      · right
        rw[TakeWin_no N w r n' cw,obind_s]
        simp only[Bool.not_false,cnd_t]
        rw[goM_ne cw] at hq
        refine⟨_,rfl,?_⟩
        simp only[List.append_nil] at hq
        rw[←hq,hab]
theorem First_cons (N:Nat) (w:It) (r:List It):W_F N (w::r)=some w.1:=by
  unfold W_F V_F
  simp only[List.length_cons]
  rw[dF (by omega),cnd_f,dT (by omega),dT (by omega),Bool.and_self,cnd_t]
  rfl
theorem skR_stop {hi why n:Int} {R W:List It} {L:List Ev} {o:List Sp} (h:¬n≤hi):∀j,skR hi why j n R W L o=(o,n,R,W,L)
  | 0=>rfl
  | j+1=>by unfold skR;rw[if_neg h]
theorem rSkips_eq (N:Nat) (hN:2000≤N) {K c:Int} {f:Fd} (h:1≤f.1→Fp K c f.1 f.2.2.1 f.2.2.2.1 f.2.2.2.2.1) (hK:K≤10000000) (hi why:Int) (hh:hi≤1000000→hi≤K):W_O N (f,hi,why)=some (skipsM f hi why):=by
  obtain⟨nx,tp,R,Wn,Lg,a,b⟩:=f
  unfold W_O V_O skipsM
  simp only at h ⊢
  by_cases c1:nx<1
  · rw[dT c1,cnd_t,if_pos (.inl c1)]
  rw[dF c1,cnd_f]
  by_cases c2:1000000<hi
  · rw[dT c2,cnd_t,if_pos (.inr c2)]
  rw[dF c2,cnd_f,if_neg (by omega)]
  have h:=h (by omega)
  have hh:=hh (by omega)
  have hwl:=(h.lens hK).1
  have hn0:=h.nx
  obtain⟨T,hT⟩:∃T,skR hi why (Wn.length+2) nx R Wn Lg []=T:=⟨_,rfl⟩
  rw[hT]
  refine loop_G (N:=N) (x:=((nx,tp,R,Wn,Lg,a,b),z7,[])) (fun q=>q=some (T.1,T.2.1,tp,T.2.2.1,T.2.2.2.1,T.2.2.2.2,if nx≤hi then(0,0) else(a,b)))
    (fun k (v:Fd×Fd×List Sp)=>v.2.1=z7∧Fp K c v.1.1 v.1.2.2.1 v.1.2.2.2.1 v.1.2.2.2.2.1∧v.1.2.1=tp∧v.2.2.length≤k∧v.1.2.2.2.2.2=(if k=0 then(a,b) else(0,0))∧(k=0→v.1.1=nx)∧(0<k→nx≤hi)∧
      ∃j,j+k=Wn.length+2∧(v.1.1≤hi→v.1.2.2.2.1.length+1≤j)∧skR hi why j v.1.1 v.1.2.2.1 v.1.2.2.2.1 v.1.2.2.2.2.1 v.2.2=T) (Wn.length+2)
    (fun r:List Sp×Fd×Fd=>r.1=T.1∧r.2.1=(T.2.1,tp,T.2.2.1,T.2.2.2.1,T.2.2.2.2,if nx≤hi then(0,0) else(a,b))) ⟨rfl,h,rfl,by simp,by simp,fun _=>rfl,fun q=>by omega,Wn.length+2,rfl,fun _=>by simp,hT⟩ (by omega) ?_ (fun k v h=>by obtain⟨j,h1,_⟩:=h.2.2.2.2.2.2.2;omega) ?_
  · rintro⟨o,f,z⟩ ⟨rfl,rfl⟩;rfl
  · rintro k ⟨⟨n',t',R',W',L',a',b'⟩,z,o⟩ ⟨rfl,hf,rfl,hol,hab,hk0,hk1,j,hj,hw,hq⟩
    simp only at hf hol hab hk0 hk1 hw hq ⊢
    obtain⟨l1,l2,l3⟩:=hf.lens hK
    have hnx:=hf.nx
    by_cases cn:n'≤hi
    case neg=>
      right
      rw[dF cn,cnd_f]
      rw[skR_stop cn] at hq
      refine⟨_,rfl,by rw[←hq],?_⟩
      try simp only
      rw[hab,←hq]
      by_cases k0:k=0
      · have:=hk0 k0
        rw[if_pos k0,if_neg (by omega)]
      · rw[if_neg k0,if_pos (hk1 (by omega))]
    left
    have hni:nx≤hi:=by
      by_cases k0:k=0
      · have:=hk0 k0;omega
      · exact hk1 (by omega)
    have hw:=hw cn
    obtain⟨j,rfl⟩:∃i,j=i+1:=⟨j-1,by omega⟩
    unfold skR at hq
    rw[if_pos cn] at hq
    rw[dT cn,cnd_t]
    -- where nothing is ahead
    have far:Wk (hi+1) (min K (n'+7)) W'→skR hi why j (hi+1) R' W' (L'++[(2,n',hi,[],why)]) (o++[(n',hi)])=T→(∃y:Fd×Fd×List Sp,(obind (some (hi,((n',t',R',W',L',(0:Int),(0:Int)):Fd),z7,o)) fun(b:Int×Fd×Fd×List Sp)=>obind (cnd (decide (b.2.1.1≤b.1)) (obind (W_aG N (b.2.1.2.2.2.2.1,b.2.1.1,b.1,why)) fun(b_1:List Ev)=>cnd (decide ((List.length b.2.2.2+List.length [(b.2.1.1,b.1)])*(16:Nat)≤(140737488355328:Nat))) (some (((wr .i64 (b.1+1),b.2.1.2.1,b.2.1.2.2.1,b.2.1.2.2.2.1,b_1,b.2.1.2.2.2.2.2.1,b.2.1.2.2.2.2.2.2):Fd),b.2.2.1,b.2.2.2++[(b.2.1.1,b.1)])) none) (some (b.2.1,b.2.2.1,b.2.2.2))) fun(b:Fd×Fd×List Sp)=>cnd (decide (b.1.1≤hi)) (obind (W_l N b.1) fun(b_1:List It×Fd)=>some (Sum.inl (b_1.2,b.2.1,b.2.2))) (some (Sum.inl (b.1,b.2.1,b.2.2))))=some (.inl y:(Fd×Fd×List Sp)⊕(List Sp×Fd×Fd))∧y.2.1=z7∧Fp K c y.1.1 y.1.2.2.1 y.1.2.2.2.1 y.1.2.2.2.2.1∧y.1.2.1=t'∧y.2.2.length≤k+1∧y.1.2.2.2.2.2=(if k+1=0 then(a,b) else(0,0))∧(k+1=0→y.1.1=nx)∧(0<k+1→nx≤hi)∧
      ∃j,j+(k+1)=Wn.length+2∧(y.1.1≤hi→y.1.2.2.2.1.length+1≤j)∧skR hi why j y.1.1 y.1.2.2.1 y.1.2.2.2.1 y.1.2.2.2.2.1 y.2.2=T):=by
      intro hwk hq
      rw[obind_s]
      try simp only
      rw[dT cn,cnd_t,rSkip_eq N L' n' hi why (by omega),obind_s,cnd_T (by simp only[List.length_cons,List.length_nil];omega),obind_s,wr_m (by omega) (by omega)]
      try simp only
      rw[dF (by omega),cnd_f]
      exact⟨_,rfl,rfl,hf.skip cn hh hwk,rfl,by simp only[List.length_append,List.length_cons,List.length_nil];omega,by rw[if_neg (by omega)],fun q=>by omega,fun _=>hni,j,by omega,fun q=>by simp only at q;omega,hq⟩
    cases W' with
    | nil=>
      rw[dF (by simp),cnd_f]
      exact far trivial hq
    | cons w r=>
      have hwk:=hf.wk
      simp only[List.length_cons] at hw l1
      rw[dT (by simp only[List.length_cons];omega),cnd_t,First_cons,obind_s]
      simp only at hq
      by_cases cf:w.1≤hi
      case neg=>
        rw[dF cf,cnd_f]
        rw[if_neg cf] at hq
        exact far ⟨by omega,hwk.2⟩ hq
      rw[if_pos cf] at hq
      have hw1:=hwk.1
      rw[dT cf,cnd_t,obind_s,obind_s,wr_m (z:=w.1-1) (by omega) (by omega)]
      try simp only
      -- a feed that has come to the first one
      have near:∀(Lq:List Ev) (oq:List Sp),Fp K c w.1 R' (w::r) Lq→oq.length≤k+1→skR hi why j (goM (w::r) w.1 R' Lq).2.1 (goM (w::r) w.1 R' Lq).2.2.1 (goM (w::r) w.1 R' Lq).2.2.2.1 (goM (w::r) w.1 R' Lq).2.2.2.2 oq=T→(∃y:Fd×Fd×List Sp,(cnd (decide (w.1≤hi)) (obind (W_l N (w.1,t',R',w::r,Lq,(0:Int),(0:Int))) fun(b_1:List It×Fd)=>some (Sum.inl (b_1.2,z7,oq))) (some (Sum.inl (((w.1,t',R',w::r,Lq,(0:Int),(0:Int)):Fd),z7,oq))))=some (.inl y:(Fd×Fd×List Sp)⊕(List Sp×Fd×Fd))∧y.2.1=z7∧Fp K c y.1.1 y.1.2.2.1 y.1.2.2.2.1 y.1.2.2.2.2.1∧y.1.2.1=t'∧y.2.2.length≤k+1∧y.1.2.2.2.2.2=(if k+1=0 then(a,b) else(0,0))∧(k+1=0→y.1.1=nx)∧(0<k+1→nx≤hi)∧
        ∃j,j+(k+1)=Wn.length+2∧(y.1.1≤hi→y.1.2.2.2.1.length+1≤j)∧skR hi why j y.1.1 y.1.2.2.1 y.1.2.2.2.1 y.1.2.2.2.2.1 y.2.2=T):=by
        intro Lq oq hF hoq hq
        rw[dT cf,cnd_t,rGoes_eq N hN (f:=(w.1,t',R',w::r,Lq,(0:Int),(0:Int))) hF hK,obind_s]
        obtain⟨g1,g2,g3,g4,_⟩:=goM_ok _ _ _ _ hF
        obtain⟨g5,g6⟩:=goM_head (r:=r) (R:=R') (L:=Lq) (rfl:w.1=w.1)
        refine⟨_,rfl,rfl,g1,rfl,hoq,?_,fun q=>by omega,fun _=>hni,j,by omega,fun q=>by simp only[goesM];omega,hq⟩
        simp only[goesM]
        rw[if_neg g5,if_neg (by omega)]
      by_cases cg:n'≤w.1-1
      · rw[if_pos (show n'<w.1 by omega)] at hq
        rw[dT cg,cnd_t,rSkip_eq N L' n' (w.1-1) why (by omega),obind_s,cnd_T (by simp only[List.length_cons,List.length_nil];omega),obind_s,wr_m (by omega) (by omega)]
        try simp only
        rw[show w.1-1+1=w.1 by omega]
        refine near (L'++[(2,n',w.1-1,[],why)]) (o++[(n',w.1-1)]) ?_ (by simp only[List.length_append,List.length_cons,List.length_nil];omega) hq
        have:=hf.skip (m:=w.1-1) (why:=why) (by omega) (by omega) ⟨by omega,hwk.2⟩
        rwa [show w.1-1+1=w.1 by omega] at this
      · rw[if_neg (show ¬n'<w.1 by omega)] at hq
        have e:n'=w.1:=by omega
        subst e
        rw[dF cg,cnd_f,obind_s]
        exact near L' o hf (by omega) hq
theorem rKnows_eq (N:Nat) (f:Fd) (t:Int):W_m N (f,t)=some (knowsM f t):=by
  obtain⟨nx,tp,R,Wn,Lg,a,b⟩:=f
  unfold W_m V_m knowsM
  try simp only
  by_cases c1:0<nx
  · rw[dT c1,cnd_t]
    by_cases c2:t≤1000000
    · rw[dT c2,cnd_t,if_pos ⟨c1,c2⟩]
    · rw[dF c2,cnd_f,if_neg (fun q=>c2 q.2)]
  · rw[dF c1,cnd_f,if_neg (fun q=>c1 q.1)]
theorem rBegin_eq (N:Nat) (f:Fd) (n:Int) (hw:0<f.1→knowsM f (wr .i64 (n-1))=knowsM f (n-1)):W_aE N (f,n)=some (beginM f n):=by
  have hk:=rKnows_eq N f (wr .i64 (n-1))
  obtain⟨nx,tp,R,Wn,Lg,a,b⟩:=f
  unfold W_aE V_aE beginM
  simp only at hw ⊢
  by_cases c1:0<nx
  · rw[dT c1,cnd_t,if_pos c1,hk,obind_s,hw c1]
  · rw[dF c1,cnd_f,if_neg c1]
    by_cases c2:1≤n
    · rw[dT c2,cnd_t]
      by_cases c3:n≤1000000
      · rw[dT c3,cnd_t,if_pos ⟨c2,c3⟩]
      · rw[dF c3,cnd_f,if_neg (fun q=>c3 q.2)]
    · rw[dF c2,cnd_f,if_neg (fun q=>c2 q.1)]
theorem rWants_eq (N:Nat) {K c:Int} {f:Fd} (h0:0≤f.1) (h:1≤f.1→Fp K c f.1 f.2.2.1 f.2.2.2.1 f.2.2.2.2.1) (hz:f.1=0→f.2.2.2.1=[]) (hK:K≤10000000):W_aW N f=some (wantsM f):=by
  obtain⟨nx,tp,R,Wn,Lg,a,b⟩:=f
  unfold W_aW V_aW wantsM
  simp only at h hz h0 ⊢
  have key:∀hi:Int,(obind (some (hi,((nx,tp,R,Wn,Lg,a,b):Fd),(0:Int),(0:Int))) fun(b:Int×Fd×Int×Int)=>cnd (decide (b.2.1.1=0)) (some (false,(0:Int),(0:Int))) (cnd (decide (b.1<b.2.1.1)) (some (false,(0:Int),(0:Int))) (some (true,b.2.1.1,b.1))))=some (if nx=0∨hi<nx then(false,0,0) else(true,nx,hi)):=by
    intro hi
    rw[obind_s]
    try simp only
    by_cases c0:nx=0
    · rw[dT c0,cnd_t,if_pos (.inl c0)]
    rw[dF c0,cnd_f]
    by_cases q:hi<nx
    · rw[dT q,cnd_t,if_pos (.inr q)]
    · rw[dF q,cnd_f,if_neg (by omega)]
  cases Wn with
  | nil=>
    rw[dF (by simp),cnd_f]
    exact key tp
  | cons w r=>
    have hn:1≤nx:=by
      have:nx≠0:=fun q=>by have:=hz q;cases this
      omega
    have hwk:=(h hn).wk
    have hnx:=(h hn).nx
    have hw1:=hwk.1;have hw2:=hwk.2.1
    rw[dT (by simp only[List.length_cons];omega),cnd_t,First_cons,obind_s,wr_m (by omega) (by omega)]
    exact key (w.1-1)
theorem rNow_eq (N:Nat) (a:Int×Int) (now:Int):W_bm N (a,now)=some (nowM a now):=by
  obtain⟨a,b⟩:=a
  unfold W_bm V_bm nowM
  try simp only
  by_cases q:a=0
  · rw[dT q,cnd_t,if_pos q]
  · rw[dF q,cnd_f,if_neg q]
theorem rMaySpan_eq (N:Nat) (lo hi:Int):W_v N (lo,hi)=some (decide (1≤lo∧lo≤hi∧hi≤1000000)):=by
  unfold W_v V_v
  try simp only
  by_cases q1:1≤lo
  · rw[dT q1,cnd_t,obind_s]
    try simp only
    by_cases q2:lo≤hi
    · rw[dT q2,cnd_t];simp[q1,q2]
    · rw[dF q2,cnd_f,dF (fun q=>q2 q.2.1)]
  · rw[dF q1,cnd_f,obind_s]
    try simp only
    rw[cnd_f,dF (fun q=>q1 q.1)]
theorem rTried_eq (N:Nat) (hN:2000≤N) (a:Int×Int) (now:Int) (h:0≤a.1) (h2:a.1≤1000000) (hn:-100000000000000≤now) (hn2:now≤100000000000000):W_a1 N (a,now)=some (triedM a now):=by
  obtain⟨a,b⟩:=a
  unfold W_a1 V_a1 triedM
  simp only at h h2 ⊢
  refine loop_G (N:=N) (fun q=>q=some (a+1,now+2*2 ^ (min a.toNat 3))) (fun k (v:Int×Int×(Int×Int)×Int×Int)=>v.2.2.1=(a,b)∧v.2.1=k∧(k:Int)≤a∧k≤3∧v.1=2*2 ^ k) 3 (fun r:Int×(Int×Int)×Int×Int=>r.2.1=(a,b)∧r.1=2*2 ^ (min a.toNat 3)) ⟨rfl,rfl,by omega,by omega,by simp⟩ (by omega) ?_ (fun k v h=>h.2.2.2.1) ?_
  · rintro⟨u,⟨x,y⟩,z1,z2⟩ ⟨e,e2⟩
    cases e
    simp only at e2 ⊢
    have hp:(2:Int)*2 ^ (min a.toNat 3)≤16∧0≤(2:Int)*2 ^ (min a.toNat 3):=by
      have hm:min a.toNat 3≤3:=by omega
      generalize min a.toNat 3=m at hm ⊢
      have:m=0∨m=1∨m=2∨m=3:=by omega
      rcases this with rfl | rfl | rfl | rfl<;>decide
    rw[e2,wr_m (by omega) (by omega),wr_m (by omega) (by omega)]
  · rintro k ⟨u,i,⟨x,y⟩,z1,z2⟩ ⟨e,e2,hk,hk3,e3⟩
    cases e
    simp only at e2 e3 ⊢
    subst e2 e3
    by_cases q1:(k:Int)<a
    · rw[dT q1,cnd_t]
      by_cases q2:(k:Int)<3
      · left
        have hk4:k=0∨k=1∨k=2:=by omega
        rw[dT q2,cnd_t]
        refine⟨_,rfl,rfl,by simp only;rw[wr_m (by omega) (by omega)];omega,by omega,by omega,?_⟩
        rcases hk4 with rfl | rfl | rfl<;>(simp only;rw[wr_m (by decide) (by decide)];decide)
      · right
        rw[dF q2,cnd_f]
        exact⟨_,rfl,rfl,by simp only;rw[show min a.toNat 3=k by omega]⟩
    · right
      rw[dF q1,cnd_f]
      exact⟨_,rfl,rfl,by simp only;rw[show min a.toNat 3=k by omega]⟩
structure FI (K c:Int) (f:Fd):Prop where
  n0:0≤f.1
  tp:0≤f.2.1∧f.2.1≤K
  p:1≤f.1→Fp K c f.1 f.2.2.1 f.2.2.2.1 f.2.2.2.2.1
  ask:0≤f.2.2.2.2.2.1∧f.2.2.2.2.2.1≤3
  z:f.1=0→f.2.2.1=[]∧f.2.2.2.1=[]∧f.2.2.2.2.1=[]
theorem FI.knows {K c:Int} {f:Fd} (h:FI K c f) (t:Int) (ht:t≤1000000→t≤K):FI K c (knowsM f t)∧(knowsM f t).1=f.1:=by
  unfold knowsM
  split
  · rename_i q
    have:=h.tp
    have:=ht q.2
    exact⟨⟨h.n0,⟨by simp only;omega,by simp only;omega⟩,h.p,h.ask,h.z⟩,rfl⟩
  · exact⟨h,rfl⟩
theorem FI.goes {K c:Int} {f:Fd} (h:FI K c f) (h1:1≤f.1):FI K c (goesM f).2∧f.1≤(goesM f).2.1∧Wk ((goesM f).2.1+1) (min K ((goesM f).2.1+7)) (goesM f).2.2.2.2.1:=by
  obtain⟨g1,g2,g3,g4,g5⟩:=goM_ok _ _ _ _ (h.p h1)
  unfold goesM
  refine⟨⟨by simp only;omega,h.tp,fun _=>g1,?_,fun q=>by simp only at q;omega⟩,by simp only;omega,g2⟩
  try simp only
  split
  · exact h.ask
  · exact⟨by simp,by simp⟩
theorem FI.skips {K c:Int} {f:Fd} (h:FI K c f) (h1:1≤f.1) (hi why:Int) (hh:hi≤1000000→hi≤K):FI K c (skipsM f hi why).2∧f.1≤(skipsM f hi why).2.1∧(hi≤1000000→hi<(skipsM f hi why).2.1):=by
  unfold skipsM
  by_cases c2:1000000<hi
  · rw[if_pos (.inr c2)];exact⟨h,by simp only;omega,fun q=>by omega⟩
  rw[if_neg (by omega)]
  obtain⟨g1,g2,g3⟩:=skR_ok (why:=why) (hh (by omega)) (f.2.2.2.1.length+2) _ _ _ _ [] (h.p h1) (fun _=>by omega)
  refine⟨⟨by simp only;omega,h.tp,fun _=>g1,?_,fun q=>by simp only at q;omega⟩,by simp only;omega,fun _=>by simp only;omega⟩
  try simp only
  split
  · exact⟨by simp,by simp⟩
  · exact h.ask
theorem rNotes_eq (N:Nat) (hN:2000≤N) {K c:Int} {f:Fd} (h:FI K c f) (hK:K≤10000000) (lo hi:Int) (hh:hi≤1000000→hi≤K):W_aD N (f,lo,hi)=some (notesM f lo hi):=by
  obtain⟨k1,k2⟩:=h.knows hi hh
  have hkn:=rKnows_eq N f hi
  have h0:=h.n0
  obtain⟨nx,tp,R,Wn,Lg,a,b⟩:=f
  unfold W_aD V_aD notesM
  simp only at k2 h0 ⊢
  by_cases c0:nx=0
  · rw[dT c0,cnd_t,if_pos (.inl c0)]
  rw[dF c0,cnd_f,rMaySpan_eq,obind_s]
  by_cases cs:1≤lo∧lo≤hi∧hi≤1000000
  case neg=>rw[dF cs,Bool.not_false,cnd_t,if_pos (by omega)]
  rw[dT cs,Bool.not_true,cnd_f,if_neg (by omega),hkn,obind_s]
  obtain⟨g,hg⟩:∃g,knowsM (nx,tp,R,Wn,Lg,a,b) hi=g:=⟨_,rfl⟩
  rw[hg] at k1 k2 ⊢
  rw[←k2]
  by_cases c1:g.1<lo
  · rw[dT c1,cnd_t,if_pos (.inl c1)]
  rw[dF c1,cnd_f]
  by_cases c2:hi<g.1
  · rw[dT c2,cnd_t,if_pos (.inr c2)]
  rw[dF c2,cnd_f,if_neg (by omega)]
  have hg1:1≤g.1:=by omega
  obtain⟨s1,s2,s3⟩:=k1.skips hg1 hi 1 hh
  have e1:=rSkips_eq N hN k1.p hK hi 1 hh
  have e2:=rGoes_eq N hN (s1.p (by omega)) hK
  rw[e1,obind_s]
  show obind (W_l N (skipsM g hi 1).2) _=_
  rw[e2,obind_s]
theorem rTick_eq_4 (N:Nat) (hN:2000≤N) {K c:Int} {f:Fd} (h:FI K c f) (hK:K≤1000000) (now:Int) (hn:-100000000000000≤now) (hn2:now≤100000000000000):W_aI N (f,now)=some (tickM_4 f now):=by
  have hw:=rWants_eq N h.n0 h.p (fun q=>(h.z q).2.1) (by omega)
  have hwk:(wantsM f).1=true→1≤f.1∧(wantsM f).2.2≤K:=by
    have h0:=h.n0;have hp:=h.p;have htp:=h.tp
    obtain⟨nx,tp,R,Wn,Lg,a,b⟩:=f
    unfold wantsM
    simp only at h0 hp htp ⊢
    cases Wn with
    | nil=>
      try simp only
      split
      · intro q;cases q
      · intro _;simp only;omega
    | cons w r=>
      try simp only
      split
      · intro q;cases q
      · intro _
        have:=(hp (by omega)).wk.2.1
        simp only;omega
  have hnow:=rNow_eq N f.2.2.2.2.2 now
  have htr:=rTried_eq N hN f.2.2.2.2.2 now h.ask.1 (by have:=h.ask;omega) hn hn2
  have hsk:=fun hi hh=>rSkips_eq N hN (hi:=hi) (why:=2) h.p (by omega) hh
  have hfi:=fun h1 hi hh=>h.skips h1 hi 2 hh
  obtain⟨nx,tp,R,Wn,Lg,a,b⟩:=f
  unfold W_aI V_aI tickM_4
  simp only at hnow htr hwk hfi ⊢
  rw[hw,obind_s]
  obtain⟨s,hs⟩:∃s,wantsM (nx,tp,R,Wn,Lg,a,b)=s:=⟨_,rfl⟩
  rw[hs] at hwk ⊢
  obtain⟨q,s1,s2⟩:=s
  simp only at hwk ⊢
  cases q with
  | false=>rw[Bool.not_false,cnd_t,if_pos (.inl rfl)]
  | true=>
    obtain⟨w1,w2⟩:=hwk rfl
    rw[Bool.not_true,cnd_f,hnow,obind_s]
    cases hq:nowM (a,b) now with
    | false=>rw[Bool.not_false,cnd_t,if_pos (.inr rfl)]
    | true=>
      rw[Bool.not_true,cnd_f,if_neg (by simp)]
      by_cases c3:3≤a
      · rw[dT c3,cnd_t,if_pos c3,hsk s2 (fun _=>w2),obind_s]
        obtain⟨g1,g2,_⟩:=hfi w1 s2 (fun _=>w2)
        have e2:=rGoes_eq N hN (g1.p (by omega)) (by omega)
        show obind (W_l N (skipsM (nx,tp,R,Wn,Lg,a,b) s2 2).2) _=_
        rw[e2,obind_s]
      · rw[dF c3,cnd_f,if_neg c3,htr,obind_s]
theorem pCloneI (N:Nat) (l:List It) (hl:l.length≤100000000):W_c N l=some l:=by
  unfold W_c V_c
  rw[cnd_T (by omega)]
theorem pCloneE (N:Nat) (l:List Ev) (hl:l.length≤100000000):W_d N l=some l:=by
  unfold W_d V_d
  rw[cnd_T (by omega)]
theorem pTell (N:Nat) (a:List Ev) (n:Int) (t:List UInt8) (hl:a.length≤100000000):W_W N (a,n,t)=some (a++[(1,n,n,t,0)]):=by
  unfold W_W V_W
  try simp only
  rw[pCloneE N a hl,obind_s,cnd_T (by simp only[List.length_cons,List.length_nil];omega)]
theorem pSkip (N:Nat) (a:List Ev) (lo hi why:Int) (hl:a.length≤100000000):W_ap N (a,lo,hi,why)=some (a++[(2,lo,hi,[],why)]):=by
  unfold W_ap V_ap
  try simp only
  rw[pCloneE N a hl,obind_s,cnd_T (by omega)]
theorem pAdd (N:Nat) (l:List It) (e:It) (hl:l.length≤6) (hs:∀h:0<l.length,(l.getD (l.length-1) iD).1<e.1):W_1 N (l,e.1,e.2)=some (addR l e):=by
  unfold W_1 V_1
  try simp only
  rw[pCloneI N l (by omega),obind_s]
  have tail:cnd (decide ((List.length l+List.length [(e.1,e.2)])*(24:Nat)≤(140737488355328:Nat)))
      (cnd (decide ((6:Int)<(↑(List.length (l++[(e.1,e.2)])):Int))) (obind (W_ad N ((0:Int),(1:Int),l++[(e.1,e.2)])) fun(b:List It)=>some b) (some (l++[(e.1,e.2)]))) none=some (addR l e):=by
    rw[cnd_T (by simp only[List.length_singleton];omega)]
    unfold addR
    by_cases h6:6≤l.length
    · rw[if_pos h6,cnd_T (by simp only[List.length_append,List.length_singleton];omega)]
      unfold W_ad
      try simp only
      rw[dT (by omega),dT (by simp only[List.length_append,List.length_singleton];omega),dT (by omega),dT (by simp only[List.length_append,List.length_singleton];omega),dT (by simp only[List.length_append,List.length_singleton];omega)]
      simp only[Bool.and_self,cnd_t,obind_s]
      rfl
    · rw[if_neg h6,cnd_F (by simp only[List.length_append,List.length_singleton];omega)]
  by_cases h0:(0:Int)<l.length
  · have w1:wr .i64 ((l.length:Int)-1)=((l.length-1:Nat):Int):=by rw[wr_m (by omega) (by omega)];omega
    have h1:=hs (by omega)
    rw[dT h0,cnd_t,w1,dT (by omega),dT (by omega),Bool.and_self,cnd_t,Int.toNat_natCast,dF (by show ¬e.1≤(l.getD (l.length-1) iD).1;omega),cnd_f]
    exact tail
  · rw[dF h0,cnd_f]
    exact tail
theorem Take_nil (N:Nat) (n:Int):W_ab N ([],n)=some ([],false,0,[]):=by
  unfold W_ab V_ab
  simp only[List.length_nil]
  rw[dT (by omega),cnd_t,pCloneI N [] (by simp),obind_s]
theorem Take_no (N:Nat) (w:It) (r:List It) (n:Int) (h:w.1≠n) (hr:r.length≤1000):W_ab N (w::r,n)=some (w::r,false,0,[]):=by
  unfold W_ab V_ab
  simp only[List.length_cons]
  rw[dF (by omega),cnd_f,dT (by omega),dT (by omega),Bool.and_self,cnd_t]
  have e:(List.getD (w::r) 0 ((0:Int),([]:List UInt8)))=w:=rfl
  rw[e,dT h,cnd_t,pCloneI N (w::r) (by simp only[List.length_cons];omega),obind_s]
theorem Take_yes (N:Nat) (w:It) (r:List It) (hr:r.length≤1000):W_ab N (w::r,w.1)=some (r,true,w.1,w.2):=by
  unfold W_ab V_ab
  simp only[List.length_cons]
  have e:(List.getD (w::r) 0 ((0:Int),([]:List UInt8)))=w:=rfl
  have e2:List.drop 1 (List.take (r.length+1) (w::r))=r:=by simp
  rw[dF (by omega),cnd_f,dT (by omega),dT (by omega),Bool.and_self,cnd_t,e,dF (fun q=>q rfl),cnd_f,dT (by omega),dT (by omega),Bool.and_self,cnd_t,e2,pCloneI N r (by omega),obind_s,cnd_t]
theorem pTwin (N:Nat) (f:Fd) (h1:f.2.2.1.length≤100000000) (h2:f.2.2.2.1.length≤100000000) (h3:f.2.2.2.2.1.length≤100000000):W_b N f=some f:=by
  obtain⟨n,t,R,Wn,L,a,b⟩:=f
  unfold W_b V_b
  simp only at h1 h2 h3 ⊢
  rw[pCloneI N R h1,obind_s,pCloneI N Wn h2,obind_s,pCloneE N L h3,obind_s]
theorem Fp.twin (N:Nat) {K c:Int} {f:Fd} (h:Fp K c f.1 f.2.2.1 f.2.2.2.1 f.2.2.2.2.1) (hK:K≤10000000):W_b N f=some f:=by
  obtain⟨a,b,_⟩:=h.lens hK
  exact pTwin N f (by have:=h.rl;omega) (by omega) (by omega)
theorem FI.twin (N:Nat) {K c:Int} {f:Fd} (h:FI K c f) (hK:K≤10000000):W_b N f=some f:=by
  by_cases q:1≤f.1
  · exact(h.p q).twin N hK
  · obtain⟨a,b,d⟩:=h.z (by have:=h.n0;omega)
    exact pTwin N f (by rw[a];simp) (by rw[b];simp) (by rw[d];simp)
theorem pStart (N:Nat):W_7 N ()=some (0,0):=rfl
theorem pGoes_eq (N:Nat) (hN:2000≤N) {K c:Int} {f:Fd} (h:Fp K c f.1 f.2.2.1 f.2.2.2.1 f.2.2.2.2.1) (hK:K≤10000000):W_q N f=some (goesM f):=by
  have ht:=h.twin N hK
  obtain⟨nx,tp,R,Wn,Lg,a,b⟩:=f
  unfold W_q V_q goesM
  simp only at h ⊢
  rw[ht,obind_s]
  have hwl:=(h.lens hK).1
  refine loop_G (N:=N) (x:=(z7,(nx,tp,R,Wn,Lg,a,b),[])) (fun q=>q=some ((goM Wn nx R Lg).1,(goM Wn nx R Lg).2.1,tp,(goM Wn nx R Lg).2.2.1,(goM Wn nx R Lg).2.2.2.1,(goM Wn nx R Lg).2.2.2.2,if (goM Wn nx R Lg).1=[] then(a,b) else(0,0)))
    (fun k (v:Fd×Fd×List It)=>v.1=z7∧Fp K c v.2.1.1 v.2.1.2.2.1 v.2.1.2.2.2.1 v.2.1.2.2.2.2.1∧v.2.1.2.1=tp∧v.2.1.2.2.2.1.length+k=Wn.length∧v.2.2.length=k∧(v.2.2++(goM v.2.1.2.2.2.1 v.2.1.1 v.2.1.2.2.1 v.2.1.2.2.2.2.1).1,(goM v.2.1.2.2.2.1 v.2.1.1 v.2.1.2.2.1 v.2.1.2.2.2.2.1).2)=goM Wn nx R Lg∧v.2.1.2.2.2.2.2=(a,b)) Wn.length
    (fun r:List It×Fd×Fd=>r.1=(goM Wn nx R Lg).1∧r.2.2=((goM Wn nx R Lg).2.1,tp,(goM Wn nx R Lg).2.2.1,(goM Wn nx R Lg).2.2.2.1,(goM Wn nx R Lg).2.2.2.2,a,b)) ⟨rfl,h,rfl,by simp,rfl,by simp,rfl⟩ (by omega) ?_ (fun k v h=>by have:=h.2.2.2.1;omega) ?_
  · rintro⟨o,z,f⟩ ⟨rfl,rfl⟩
    try simp only
    cases hq:(goM Wn nx R Lg).1 with
    | nil=>rw[dF (by simp),cnd_f,if_pos rfl]
    | cons x l=>rw[dT (by simp only[List.length_cons];omega),cnd_t,pStart,obind_s,if_neg (by simp)]
  · rintro k ⟨z,⟨n',t',R',W',L',a',b'⟩,o⟩ ⟨rfl,hf,rfl,hwk,hol,hq,hab⟩
    simp only at hf hwk hol hq hab ⊢
    cases hab
    obtain⟨l1,l2,l3⟩:=hf.lens hK
    have hnx:=hf.nx
    cases W' with
    | nil=>
      right
      rw[Take_nil,obind_s]
      simp only[Bool.not_false,cnd_t]
      refine⟨_,rfl,?_⟩
      simp only[goM,List.append_nil] at hq
      rw[←hq]
      exact⟨rfl,rfl⟩
    | cons w r=>
      simp only[List.length_cons] at hwk l1
      by_cases cw:w.1=n'
      · left
        obtain rfl:n'=w.1:=cw.symm
        rw[Take_yes N w r (by omega),obind_s]
        simp only[Bool.not_true,cnd_f]
        rw[pTell N L' w.1 w.2 (by omega),obind_s,pAdd N R' (w.1,w.2) hf.rl l3,obind_s]
        have hs:=hf.tell rfl
        rw[goM_eq] at hq
        refine⟨_,cnd_T (by simp only[List.length_cons,List.length_nil];omega),rfl,?_,rfl,by simp only;omega,by simp[hol],?_,rfl⟩
        · simp only
          rw[wr_m (by omega) (by omega)]
          exact hs
        · simp only
          rw[wr_m (by omega) (by omega),←hq]
          simp only[List.append_assoc,List.cons_append,List.nil_append]
      · right
        rw[Take_no N w r n' cw (by omega),obind_s]
        simp only[Bool.not_false,cnd_t]
        rw[goM_ne cw] at hq
        refine⟨_,rfl,?_⟩
        simp only[List.append_nil] at hq
        rw[←hq]
        exact⟨rfl,rfl⟩
theorem wFirst_nil (N:Nat):W_an N []=some 0:=by
  unfold W_an V_an
  rw[dT (by simp),cnd_t]
theorem wFirst_cons (N:Nat) (w:It) (r:List It):W_an N (w::r)=some w.1:=by
  unfold W_an V_an
  simp only[List.length_cons]
  rw[dF (by omega),cnd_f,dT (by omega),dT (by omega),Bool.and_self,cnd_t]
  rfl
theorem nFirst_nil (N:Nat) (n t:Int) (R:List It) (L:List Ev) (a b:Int) (h:0≤n):W_ao N (n,t,R,[],L,a,b)=some (.inr ()):=by
  unfold W_ao V_ao
  try simp only
  rw[wFirst_nil,obind_s]
  by_cases q:n≤0
  · rw[dT q,cnd_t,dF (by omega),cnd_f]
  · rw[dF q,cnd_f]
theorem nFirst_cons (N:Nat) (n t:Int) (R:List It) (w:It) (r:List It) (L:List Ev) (a b:Int) (h:1≤n) (h2:n≤w.1):W_ao N (n,t,R,w::r,L,a,b)=some (.inl w.1):=by
  unfold W_ao V_ao
  try simp only
  rw[wFirst_cons,obind_s,dT h2,cnd_t,dT (by omega),cnd_t]
theorem pSkips_eq (N:Nat) (hN:2000≤N) {K c:Int} {f:Fd} (ht:W_b N f=some f) (h:1≤f.1→Fp K c f.1 f.2.2.1 f.2.2.2.1 f.2.2.2.2.1) (hK:K≤10000000) (hi why:Int) (hh:hi≤1000000→hi≤K):W_aK N (f,hi,why)=some (skipsM f hi why):=by
  obtain⟨nx,tp,R,Wn,Lg,a,b⟩:=f
  unfold W_aK V_aK skipsM
  simp only at h ⊢
  rw[ht,obind_s]
  by_cases c1:nx<1
  · rw[dT c1,cnd_t,if_pos (.inl c1)]
  rw[dF c1,cnd_f]
  by_cases c2:1000000<hi
  · rw[dT c2,cnd_t,if_pos (.inr c2)]
  rw[dF c2,cnd_f,if_neg (by omega)]
  have h:=h (by omega)
  have hh:=hh (by omega)
  have hwl:=(h.lens hK).1
  have hn0:=h.nx
  obtain⟨T,hT⟩:∃T,skR hi why (Wn.length+2) nx R Wn Lg []=T:=⟨_,rfl⟩
  rw[hT]
  refine loop_G (N:=N) (x:=((nx,tp,R,Wn,Lg,a,b),z7,(nx,tp,R,Wn,Lg,a,b),[],why)) (fun q=>q=some (T.1,T.2.1,tp,T.2.2.1,T.2.2.2.1,T.2.2.2.2,if nx≤hi then(0,0) else(a,b)))
    (fun k (v:Fd×Fd×Fd×List Sp×Int)=>v.1=(nx,tp,R,Wn,Lg,a,b)∧v.2.2.2.2=why∧Fp K c v.2.2.1.1 v.2.2.1.2.2.1 v.2.2.1.2.2.2.1 v.2.2.1.2.2.2.2.1∧v.2.2.1.2.1=tp∧v.2.2.2.1.length≤k∧(k=0→v.2.2.1.1=nx∧v.2.2.1.2.2.2.2.2=(a,b))∧(0<k→nx≤hi∧nx<v.2.2.1.1)∧
      ∃j,j+k=Wn.length+2∧(v.2.2.1.1≤hi→v.2.2.1.2.2.2.1.length+1≤j)∧skR hi why j v.2.2.1.1 v.2.2.1.2.2.1 v.2.2.1.2.2.2.1 v.2.2.1.2.2.2.2.1 v.2.2.2.1=T) (Wn.length+2)
    (fun r:Fd×Fd×Fd×List Sp=>r.1=(nx,tp,R,Wn,Lg,a,b)∧r.2.2.2=T.1∧r.2.2.1.1=T.2.1∧r.2.2.1.2.1=tp∧r.2.2.1.2.2.1=T.2.2.1∧r.2.2.1.2.2.2.1=T.2.2.2.1∧r.2.2.1.2.2.2.2.1=T.2.2.2.2∧(nx≤hi→nx<T.2.1)∧(¬nx≤hi→T.2.1=nx∧r.2.2.1.2.2.2.2.2=(a,b))) ⟨rfl,rfl,h,rfl,by simp,fun _=>⟨rfl,rfl⟩,fun q=>by omega,Wn.length+2,rfl,fun _=>by simp,hT⟩ (by omega) ?_ (fun k v h=>by obtain⟨j,h1,_⟩:=h.2.2.2.2.2.2.2;omega) ?_
  · rintro⟨f0,z,⟨n',t',R',W',L',a',b'⟩,o⟩ ⟨e0,e1,e2,e3,e4,e5,e6,e7,e8⟩
    cases e0
    simp only at e1 e2 e3 e4 e5 e6 e7 e8 ⊢
    subst e1 e2 e3 e4 e5 e6
    by_cases q:nx≤hi
    · have:=e7 q
      rw[dT (by omega),cnd_t,pStart,obind_s,if_pos q]
    · obtain⟨e9,e10⟩:=e8 q
      rw[dF (by omega),cnd_f,if_neg q,e10]
  · rintro k ⟨f0,z,⟨n',t',R',W',L',a',b'⟩,o,wy⟩ ⟨e0,e1,hf,e2,hol,hk0,hk1,j,hj,hw,hq⟩
    simp only at e0 e1 e2 hf hol hk0 hk1 hw hq ⊢
    subst e0 e1 e2
    obtain⟨l1,l2,l3⟩:=hf.lens hK
    have hnx:=hf.nx
    by_cases cn:n'≤hi
    case neg=>
      right
      rw[dF cn,cnd_f]
      rw[skR_stop cn] at hq
      subst hq
      refine⟨_,rfl,rfl,rfl,rfl,rfl,rfl,rfl,rfl,fun q=>by simp only;omega,fun q=>?_⟩
      have:k=0:=by
        apply Classical.byContradiction
        intro q2
        have:=hk1 (by omega)
        omega
      exact hk0 this
    left
    have hni:nx≤hi∧nx≤n':=by
      by_cases k0:k=0
      · have:=hk0 k0;omega
      · have:=hk1 (by omega);omega
    have hw:=hw cn
    obtain⟨j,rfl⟩:∃i,j=i+1:=⟨j-1,by omega⟩
    unfold skR at hq
    rw[if_pos cn] at hq
    rw[dT cn,cnd_t]
    -- where nothing is ahead
    have far:Wk (hi+1) (min K (n'+7)) W'→skR hi wy j (hi+1) R' W' (L'++[(2,n',hi,[],wy)]) (o++[(n',hi)])=T→(∃y:Fd×Fd×Fd×List Sp×Int,(obind (W_ap N (L',n',hi,wy)) fun(b_1:List Ev)=>cnd (decide ((List.length o+List.length [(n',hi)])*(16:Nat)≤(140737488355328:Nat))) (some (Sum.inl (((nx,t',R,Wn,Lg,a,b):Fd),z,((wr .i64 (hi+1),t',R',W',b_1,a',b'):Fd),o++[(n',hi)],wy))) none)=some (.inl y:(Fd×Fd×Fd×List Sp×Int)⊕(Fd×Fd×Fd×List Sp))∧y.1=(nx,t',R,Wn,Lg,a,b)∧y.2.2.2.2=wy∧Fp K c y.2.2.1.1 y.2.2.1.2.2.1 y.2.2.1.2.2.2.1 y.2.2.1.2.2.2.2.1∧y.2.2.1.2.1=t'∧y.2.2.2.1.length≤k+1∧(k+1=0→y.2.2.1.1=nx∧y.2.2.1.2.2.2.2.2=(a,b))∧(0<k+1→nx≤hi∧nx<y.2.2.1.1)∧
      ∃j,j+(k+1)=Wn.length+2∧(y.2.2.1.1≤hi→y.2.2.1.2.2.2.1.length+1≤j)∧skR hi wy j y.2.2.1.1 y.2.2.1.2.2.1 y.2.2.1.2.2.2.1 y.2.2.1.2.2.2.2.1 y.2.2.2.1=T):=by
      intro hwk hq
      rw[pSkip N L' n' hi wy (by omega),obind_s,cnd_T (by simp only[List.length_cons,List.length_nil];omega),wr_m (by omega) (by omega)]
      exact⟨_,rfl,rfl,rfl,hf.skip cn hh hwk,rfl,by simp only[List.length_append,List.length_cons,List.length_nil];omega,fun q=>by omega,fun _=>⟨hni.1,by simp only;omega⟩,j,by omega,fun q=>by simp only at q;omega,hq⟩
    cases W' with
    | nil=>
      rw[nFirst_nil N _ _ _ _ _ _ (by omega),obind_s,selim_r]
      exact far trivial hq
    | cons w r=>
      have hwk:=hf.wk
      simp only[List.length_cons] at hw l1
      rw[nFirst_cons N _ _ _ _ _ _ _ _ (by omega) hwk.1,obind_s,selim_l]
      simp only at hq
      by_cases cf:w.1≤hi
      case neg=>
        rw[dT (by omega),cnd_t]
        rw[if_neg cf] at hq
        exact far ⟨by omega,hwk.2⟩ hq
      rw[if_pos cf] at hq
      have hw1:=hwk.1
      rw[dF (by omega),cnd_f,wr_m (z:=w.1-1) (by omega) (by omega)]
      -- a feed that has come to the first one
      have near:∀(Lq:List Ev) (oq:List Sp),Fp K c w.1 R' (w::r) Lq→oq.length≤k+1→skR hi wy j (goM (w::r) w.1 R' Lq).2.1 (goM (w::r) w.1 R' Lq).2.2.1 (goM (w::r) w.1 R' Lq).2.2.2.1 (goM (w::r) w.1 R' Lq).2.2.2.2 oq=T→(∃y:Fd×Fd×Fd×List Sp×Int,(obind (some (((nx,t',R,Wn,Lg,a,b):Fd),z,((w.1,t',R',w::r,Lq,a',b'):Fd),oq,wy)) fun(b:Fd×Fd×Fd×List Sp×Int)=>obind (W_q N b.2.2.1) fun(b_1:List It×Fd)=>some (Sum.inl (b.1,b.2.1,b_1.2,b.2.2.2.1,b.2.2.2.2)))=some (.inl y:(Fd×Fd×Fd×List Sp×Int)⊕(Fd×Fd×Fd×List Sp))∧y.1=(nx,t',R,Wn,Lg,a,b)∧y.2.2.2.2=wy∧Fp K c y.2.2.1.1 y.2.2.1.2.2.1 y.2.2.1.2.2.2.1 y.2.2.1.2.2.2.2.1∧y.2.2.1.2.1=t'∧y.2.2.2.1.length≤k+1∧(k+1=0→y.2.2.1.1=nx∧y.2.2.1.2.2.2.2.2=(a,b))∧(0<k+1→nx≤hi∧nx<y.2.2.1.1)∧
        ∃j,j+(k+1)=Wn.length+2∧(y.2.2.1.1≤hi→y.2.2.1.2.2.2.1.length+1≤j)∧skR hi wy j y.2.2.1.1 y.2.2.1.2.2.1 y.2.2.1.2.2.2.1 y.2.2.1.2.2.2.2.1 y.2.2.2.1=T):=by
        intro Lq oq hF hoq hq
        rw[obind_s]
        try simp only
        rw[pGoes_eq N hN (f:=(w.1,t',R',w::r,Lq,a',b')) hF hK,obind_s]
        obtain⟨g1,g2,g3,g4,_⟩:=goM_ok _ _ _ _ hF
        obtain⟨g5,g6⟩:=goM_head (r:=r) (R:=R') (L:=Lq) (rfl:w.1=w.1)
        have g7:0<(goM (w::r) w.1 R' Lq).1.length:=List.length_pos_iff.2 g5
        exact⟨_,rfl,rfl,rfl,g1,rfl,hoq,fun q=>by omega,fun _=>⟨hni.1,by simp only[goesM];omega⟩,j,by omega,fun q=>by simp only[goesM];omega,hq⟩
      by_cases cg:n'<w.1
      · rw[if_pos cg] at hq
        rw[dT cg,cnd_t,pSkip N L' n' (w.1-1) wy (by omega),obind_s,cnd_T (by simp only[List.length_cons,List.length_nil];omega),wr_m (by omega) (by omega),show w.1-1+1=w.1 by omega]
        refine near (L'++[(2,n',w.1-1,[],wy)]) (o++[(n',w.1-1)]) ?_ (by simp only[List.length_append,List.length_cons,List.length_nil];omega) hq
        have:=hf.skip (m:=w.1-1) (why:=wy) (by omega) (by omega) ⟨by omega,hwk.2⟩
        rwa [show w.1-1+1=w.1 by omega] at this
      · rw[if_neg cg] at hq
        have e:n'=w.1:=by omega
        subst e
        rw[dF cg,cnd_f]
        exact near L' o hf (by omega) hq
theorem pRead0 (N:Nat) {f:Fd} (h:f.1<1):W_h N f=some (.inr ()):=by
  unfold W_h V_h
  rw[dT h,cnd_t]
theorem pRead1 (N:Nat) {f:Fd} (h:¬f.1<1):W_h N f=some (.inl f.1):=by
  unfold W_h V_h
  rw[dF h,cnd_f]
theorem pKnows_eq (N:Nat) (f:Fd) (t:Int) (ht:W_b N f=some f):W_k N (f,t)=some (knowsM f t):=by
  have r0:=@pRead0 N f;have r1:=@pRead1 N f
  obtain⟨nx,tp,R,Wn,Lg,a,b⟩:=f
  unfold W_k V_k knowsM
  simp only at r0 r1 ⊢
  rw[ht,obind_s]
  by_cases c1:nx<1
  · rw[r0 c1,obind_s,selim_r,if_neg (by omega)]
  · rw[r1 c1,obind_s,selim_l]
    by_cases c2:t≤1000000
    · rw[dT c2,cnd_t,if_pos ⟨by omega,c2⟩]
    · rw[dF c2,cnd_f,if_neg (fun q=>c2 q.2)]
theorem pBegin_eq (N:Nat) (f:Fd) (n:Int) (ht:W_b N f=some f) (hw:0<f.1→knowsM f (wr .i64 (n-1))=knowsM f (n-1)):W_aH N (f,n)=some (beginM f n):=by
  have hk:=pKnows_eq N f (wr .i64 (n-1)) ht
  have r0:=@pRead0 N f;have r1:=@pRead1 N f
  obtain⟨nx,tp,R,Wn,Lg,a,b⟩:=f
  unfold W_aH V_aH beginM
  simp only at r0 r1 hw ⊢
  by_cases c1:nx<1
  · rw[r0 c1,obind_s,selim_r,ht,obind_s,if_neg (by omega)]
    by_cases c2:1≤n
    · rw[dT c2,cnd_t]
      by_cases c3:n≤1000000
      · rw[dT c3,cnd_t,if_pos ⟨c2,c3⟩]
      · rw[dF c3,cnd_f,if_neg (fun q=>c3 q.2)]
    · rw[dF c2,cnd_f,if_neg (fun q=>c2 q.1)]
  · rw[r1 c1,obind_s,selim_l,hk,obind_s,if_pos (by omega),hw (by omega)]
theorem pNotes_eq (N:Nat) (hN:2000≤N) {K c:Int} {f:Fd} (h:FI K c f) (hK:K≤10000000) (lo hi:Int) (hh:hi≤1000000→hi≤K):W_8 N (f,lo,hi)=some (notesM f lo hi):=by
  obtain⟨k1,k2⟩:=h.knows hi hh
  have ht:=h.twin N hK
  have hkn:=pKnows_eq N f hi ht
  have h0:=h.n0
  have r0:=@pRead0 N f;have r1:=@pRead1 N f
  obtain⟨nx,tp,R,Wn,Lg,a,b⟩:=f
  unfold W_8 V_8 notesM
  simp only at k2 h0 r0 r1 ⊢
  by_cases c0:nx<1
  · rw[r0 c0,obind_s,selim_r,cnd_t,obind_s]
    simp only[cnd_t]
    rw[ht,obind_s,if_pos (.inl (by omega))]
  rw[r1 c0,obind_s,selim_l]
  by_cases c1:lo<1
  · rw[dT c1,cnd_t,obind_s]
    simp only[cnd_t]
    rw[ht,obind_s,if_pos (.inr (.inl c1))]
  rw[dF c1,cnd_f,obind_s]
  try simp only
  by_cases c2:hi<lo
  · rw[dT c2,cnd_t,ht,obind_s,if_pos (.inr (.inr (.inl c2)))]
  rw[dF c2,cnd_f]
  by_cases c3:1000000<hi
  · rw[dT c3,cnd_t,ht,obind_s,if_pos (.inr (.inr (.inr c3)))]
  rw[dF c3,cnd_f,if_neg (by omega),hkn,obind_s]
  obtain⟨g,hg⟩:∃g,knowsM (nx,tp,R,Wn,Lg,a,b) hi=g:=⟨_,rfl⟩
  rw[hg] at k1 k2 ⊢
  by_cases c4:nx<lo
  · rw[dT c4,cnd_t,if_pos (.inl c4)]
  rw[dF c4,cnd_f]
  by_cases c5:hi<nx
  · rw[dT c5,cnd_t,if_pos (.inr c5)]
  rw[dF c5,cnd_f,if_neg (by omega)]
  have hg1:1≤g.1:=by omega
  obtain⟨s1,s2,s3⟩:=k1.skips hg1 hi 1 hh
  have e1:=pSkips_eq N hN (k1.twin N hK) k1.p hK hi 1 hh
  have e2:=pGoes_eq N hN (s1.p (by omega)) hK
  rw[e1,obind_s]
  show obind (W_q N (skipsM g hi 1).2) _=_
  rw[e2,obind_s]
theorem wants_le {K c:Int} {f:Fd} (h:FI K c f) (hw:(wantsM f).1=true):1≤f.1∧(wantsM f).2.1=f.1∧f.1≤(wantsM f).2.2∧(wantsM f).2.2≤K:=by
  have h0:=h.n0;have hp:=h.p;have htp:=h.tp
  obtain⟨nx,tp,R,Wn,Lg,a,b⟩:=f
  unfold wantsM at hw ⊢
  simp only at h0 hp htp hw ⊢
  cases Wn with
  | nil=>
    simp only at hw ⊢
    split at hw
    · cases hw
    · rename_i q
      rw[if_neg q];exact⟨by omega,rfl,by simp only;omega,by simp only;omega⟩
  | cons w r=>
    simp only at hw ⊢
    split at hw
    · cases hw
    · rename_i q
      rw[if_neg q]
      have:=(hp (by omega)).wk.2.1
      exact⟨by omega,rfl,by simp only;omega,by simp only;omega⟩
def insN (x:Int):List It→Nat
  | []=>0
  | w::r=>if x<w.1 then 0 else insN x r+1
theorem insN_eq (x:It):∀l,List.take (insN x.1 l) l++([x]++List.drop (insN x.1 l) l)=insW x l
  | []=>rfl
  | w::r=>by
    simp only[insN,insW]
    by_cases q:x.1<w.1
    · rw[if_pos q,if_pos q];rfl
    · rw[if_neg q,if_neg q]
      simp only[List.take_succ_cons,List.drop_succ_cons,List.cons_append]
      rw[←insN_eq x r];rfl
theorem insN_le (x:Int):∀l,insN x l≤l.length
  | []=>by simp[insN]
  | w::r=>by
    simp only[insN,List.length_cons]
    have:=insN_le x r
    split<;>omega
theorem Wk.drop:∀{l:List It} {n K:Int},Wk n K l→∀k,Wk n K (l.drop k)
  | l,_,_,h,0=>by simpa using h
  | [],_,_,_,k+1=>by simp;trivial
  | w::r,n,K,h,k+1=>(h.2.2.drop k).mono (by have:=h.1;omega) (Int.le_refl _)
theorem pPlace_eq (N:Nat) (hN:2000≤N) (l:List It) (s n K:Int) (hw:Wk n K l) (hl:l.length≤1000):W_bb N (l,s)=some (if (getF l s).2=true then .inr () else .inl (insN s l:Int)):=by
  unfold W_bb V_bb
  try simp only
  refine loop_G (N:=N) (fun o=>o=some (if (getF l s).2=true then(.inr ():Int⊕PUnit) else .inl (insN s l:Int))) (fun k (v:Int)=>v=k∧k≤l.length∧getF (l.drop k) s=getF l s∧insN s (l.drop k)+k=insN s l) l.length (fun r:PUnit⊕Int⊕PUnit=>(r=.inl ()∧(getF l s).2=false∧insN s l=l.length)∨(r=.inr (if (getF l s).2=true then(.inr ():Int⊕PUnit) else .inl (insN s l:Int)))) ⟨rfl,by omega,rfl,by simp⟩ (by omega) ?_ (fun k v h=>h.2.1) ?_
  · rintro r (⟨rfl,h,h2⟩ | rfl)
    · rw[selim_l,h,if_neg (by simp),h2]
    · rw[selim_r]
  · rintro k v ⟨e,hk,hg,hi⟩
    subst e
    by_cases c:(k:Int)<l.length
    case neg=>
      right
      rw[dF c,cnd_f]
      rw[List.drop_eq_nil_of_le (by omega)] at hg hi
      exact⟨_,rfl,.inl ⟨rfl,by rw[←hg];rfl,by simp only[insN] at hi;omega⟩⟩
    have hwd:=hw.drop k
    rw[drop_consI (by omega)] at hg hi hwd
    simp only[getF,insN] at hg hi
    rw[dT c,cnd_t,dT (by omega),Bool.and_self,cnd_t,Int.toNat_natCast]
    by_cases c2:(l.getD k iD).1=s
    · right
      rw[if_pos c2] at hg
      rw[dT c2,cnd_t]
      exact⟨_,rfl,.inr (by rw[←hg];rfl)⟩
    rw[if_neg c2] at hg
    rw[dF c2,cnd_f]
    by_cases c3:s<(l.getD k iD).1
    · right
      rw[if_pos c3] at hi
      rw[dT c3,cnd_t]
      have:=getF_none hwd.2.2 s (by omega)
      rw[this] at hg
      refine⟨_,rfl,.inr ?_⟩
      rw[←hg,if_neg (by simp)]
      congr 2;omega
    · left
      rw[if_neg c3] at hi
      rw[dF c3,cnd_f,wr_m (by omega) (by omega)]
      exact⟨_,rfl,by omega,by omega,hg,by omega⟩
theorem pPut_eq (N:Nat) (hN:2000≤N) (l:List It) (n m K:Int) (x:It) (hw:Wk m K l) (hl:l.length≤1000) (hn:0≤n) (hn2:n≤10000001):W_az N (l,n,x)=some (putM l n x):=by
  unfold W_az V_az putM
  try simp only
  rw[pCloneI N l (by omega),obind_s,pPlace_eq N hN l x.1 m K hw hl,obind_s]
  by_cases c1:(getF l x.1).2=true
  · rw[if_pos c1,selim_r,cnd_t,if_pos (.inr (.inr c1))]
  rw[if_neg c1,selim_l]
  by_cases c2:x.1<n
  · rw[dT c2,cnd_t,if_pos (.inl c2)]
  rw[dF c2,cnd_f,wr_m (by omega) (by omega)]
  by_cases c3:n+8≤x.1
  · rw[dT c3,cnd_t,if_pos (.inr (.inl (by omega)))]
  rw[dF c3,cnd_f,if_neg (by rintro(q | q | q)<;>first | omega | exact c1 q)]
  have h1:=insN_le x.1 l
  unfold W_as
  try simp only
  rw[dT (by omega),dT (by omega),dT (by rfl),dT (by omega)]
  simp only[Bool.and_self,cnd_t,obind_s,Int.toNat_natCast]
  rw[insN_eq]
theorem rGet_eq (N:Nat) (l:List It) (s:Int) (hN:2000≤N) (hl:l.length≤1000):W_a9 N (l,s)=some (getF l s):=by
  unfold W_a9 V_a9
  try simp only
  refine loop_G (N:=N) (fun o=>o=some (getF l s)) (fun k (v:Int)=>v=k∧k≤l.length∧getF (l.drop k) s=getF l s) l.length (fun r:PUnit⊕List UInt8×Bool=>(r=.inl ()∧getF l s=([],false))∨r=.inr (getF l s)) ⟨rfl,by omega,rfl⟩ (by omega) ?_ (fun k v h=>h.2.1) ?_
  · rintro r (⟨rfl,h⟩ | rfl)
    · rw[selim_l,h]
    · rw[selim_r]
  · rintro k v ⟨e,hk,hg⟩
    subst e
    by_cases c:(k:Int)<l.length
    case neg=>
      right
      rw[dF c,cnd_f]
      rw[List.drop_eq_nil_of_le (by omega)] at hg
      exact⟨_,rfl,.inl ⟨rfl,hg.symm⟩⟩
    rw[drop_consI (by omega)] at hg
    simp only[getF] at hg
    rw[dT c,cnd_t,dT (by omega),Bool.and_self,cnd_t,Int.toNat_natCast]
    by_cases c2:(l.getD k iD).1=s
    · right
      rw[if_pos c2] at hg
      rw[dT c2,cnd_t,cnd_t]
      exact⟨_,rfl,.inr (by rw[←hg])⟩
    · left
      rw[if_neg c2] at hg
      rw[dF c2,cnd_f,wr_m (by omega) (by omega)]
      exact⟨_,rfl,by omega,by omega,hg⟩
theorem rPut_eq_4 (N:Nat) (hN:2000≤N) (l:List It) (n:Int) (x:It) (hl:l.length≤500) (hn:0≤n) (hn2:n≤10000001) (hx:0≤x.1) (hx2:x.1≤10000000):W_aC N (l,n,x)=some (putM l n x):=by
  unfold W_aC V_aC putM
  try simp only
  rw[rGet_eq N l x.1 hN (by omega),obind_s]
  by_cases c1:x.1<n
  · rw[dT c1,cnd_t,if_pos (.inl c1)]
  rw[dF c1,cnd_f,wr_m (by omega) (by omega)]
  by_cases c2:8≤x.1-n
  · rw[dT c2,cnd_t,if_pos (.inr (.inl c2))]
  rw[dF c2,cnd_f]
  cases hg:(getF l x.1).2 with
  | true=>rw[cnd_t,if_pos (.inr (.inr rfl))]
  | false=>
    rw[cnd_f,if_neg (by rintro(q | q | q)<;>first | omega | cases q)]
    have hIl:=insW_len x l
    refine loop_G (N:=N) (fun o=>o=some (insW x l,true)) (fun k (v:Bool×Int×It×List It)=>v.2.1=k∧k≤l.length∧v.2.2.1=x∧((v.1=false∧v.2.2.2++insW x (l.drop k)=insW x l)∨(v.1=true∧v.2.2.2++l.drop k=insW x l))) l.length
      (fun r:Bool×It×List It=>r.2.1=x∧((r.1=false∧r.2.2++[x]=insW x l)∨(r.1=true∧r.2.2=insW x l))) ⟨rfl,by omega,rfl,.inl ⟨rfl,rfl⟩⟩ (by omega) ?_ (fun k v h=>h.2.1) ?_
    · rintro⟨p,y,o⟩ ⟨rfl,h⟩
      simp only at h ⊢
      rcases h with⟨rfl,h⟩ | ⟨rfl,rfl⟩
      · have:=congrArg List.length h
        rw[hIl,List.length_append] at this
        simp only[List.length_cons,List.length_nil] at this
        rw[Bool.not_false,cnd_t,cnd_T (by simp only[List.length_cons,List.length_nil];omega)]
        rw[←h]
      · rw[Bool.not_true,cnd_f]
    · rintro k ⟨p,i,y,o⟩ ⟨e1,hk,rfl,h⟩
      simp only at e1 h ⊢
      subst e1
      by_cases c:(k:Int)<l.length
      case neg=>
        right
        rw[dF c,cnd_f]
        rw[List.drop_eq_nil_of_le (by omega)] at h
        refine⟨_,rfl,rfl,?_⟩
        rcases h with⟨rfl,h⟩ | ⟨rfl,h⟩
        · exact .inl ⟨rfl,h⟩
        · rw[List.append_nil] at h;exact .inr ⟨rfl,h⟩
      left
      rw[drop_consI (by omega)] at h
      have hol:o.length≤l.length+1:=by
        rcases h with⟨_,h⟩ | ⟨_,h⟩ <;>
        · have:=congrArg List.length h
          rw[hIl,List.length_append] at this
          omega
      rw[dT c,cnd_t,dT (show (0:Int)≤(k:Int) by omega),Bool.and_self,cnd_t,Int.toNat_natCast,wr_m (by omega) (by omega)]
      rcases h with⟨rfl,h⟩ | ⟨rfl,h⟩
      · rw[Bool.not_false,cnd_t]
        simp only[insW] at h
        by_cases c3:y.1<(l.getD k iD).1
        · rw[if_pos c3] at h
          rw[dT c3,cnd_t,cnd_T (by simp only[List.length_cons,List.length_nil];omega),obind_s]
          simp only[cnd_t]
          refine⟨_,cnd_T (by simp only[List.length_append,List.length_cons,List.length_nil];omega),by simp only;omega,by omega,rfl,.inr ⟨rfl,?_⟩⟩
          simp only[List.append_assoc]
          exact h
        · rw[if_neg c3] at h
          rw[dF c3,cnd_f,obind_s]
          simp only[cnd_t]
          refine⟨_,cnd_T (by omega),by simp only;omega,by omega,rfl,.inl ⟨rfl,?_⟩⟩
          simp only[List.append_assoc]
          exact h
      · rw[Bool.not_true,cnd_f,obind_s]
        simp only[cnd_t]
        refine⟨_,cnd_T (by omega),by simp only;omega,by omega,rfl,.inr ⟨rfl,?_⟩⟩
        simp only[List.append_assoc]
        exact h
theorem FI.put {K c:Int} {f:Fd} (h:FI K c f) (h1:1≤f.1) (x:It) (hx:x.1≤K):FI K c (f.1,f.2.1,f.2.2.1,(putM f.2.2.2.1 f.1 x).1,f.2.2.2.2):=by
  have hp:=h.p h1
  refine⟨h.n0,h.tp,fun _=>⟨hp.nx,hp.rk,hp.rl,?_,hp.ch,hp.c0⟩,h.ask,fun q=>by simp only at q;omega⟩
  try simp only
  unfold putM
  by_cases c1:x.1<f.1∨8≤x.1-f.1∨(getF f.2.2.2.1 x.1).2=true
  · rw[if_pos c1];exact hp.wk
  · rw[if_neg c1]
    exact hp.wk.ins (by omega) (by omega) (by have:¬(getF f.2.2.2.1 x.1).2=true:=fun q=>c1 (.inr (.inr q));simpa using this)
theorem rComes_eq_4 (N:Nat) (hN:2000≤N) {K c:Int} {f:Fd} (h:FI K c f) (hK:K≤10000000) (x:It) (hx:x.1≤1000000→x.1≤K):W_aF N (f,x)=some (comesM f x):=by
  obtain⟨k1,k2⟩:=h.knows x.1 hx
  have hkn:=rKnows_eq N f x.1
  have h0:=h.n0
  obtain⟨nx,tp,R,Wn,Lg,a,b⟩:=f
  unfold W_aF V_aF comesM
  simp only at k2 h0 ⊢
  by_cases c0:nx=0
  · rw[dT c0,cnd_t,obind_s]
    simp only[cnd_t,obind_s]
    rw[if_pos (.inl c0)]
  rw[dF c0,cnd_f,obind_s]
  try simp only
  by_cases c1:x.1<1
  · rw[dT c1,cnd_t,obind_s]
    simp only[cnd_t]
    rw[if_pos (.inr (.inl c1))]
  rw[dF c1,cnd_f,obind_s]
  try simp only
  by_cases c2:1000000<x.1
  · rw[dT c2,cnd_t,if_pos (.inr (.inr (.inl c2)))]
  rw[dF c2,cnd_f]
  by_cases c3:(12:Int)<x.2.length
  · rw[dT c3,cnd_t,if_pos (.inr (.inr (.inr c3)))]
  rw[dF c3,cnd_f,if_neg (by omega),hkn,obind_s]
  obtain⟨g,hg⟩:∃g,knowsM (nx,tp,R,Wn,Lg,a,b) x.1=g:=⟨_,rfl⟩
  rw[hg] at k1 k2 ⊢
  have hg1:1≤g.1:=by omega
  have hp:=k1.p hg1
  have hn:=hp.nx
  have hl:=hp.lens hK
  have e1:=rPut_eq_4 N hN g.2.2.2.1 g.1 x (by omega) (by omega) (by omega) (by omega) (by omega)
  have hF:=k1.put hg1 x (hx (by omega))
  have e2:=rGoes_eq N hN (hF.p hg1) hK
  show obind (W_aC N (g.2.2.2.1,g.1,x)) _=_
  rw[e1,obind_s]
  show obind (W_l N (g.1,g.2.1,g.2.2.1,(putM g.2.2.2.1 g.1 x).1,g.2.2.2.2)) _=_
  rw[e2,obind_s]
theorem pComes_eq (N:Nat) (hN:2000≤N) {K c:Int} {f:Fd} (h:FI K c f) (hK:K≤10000000) (x:It) (hx:x.1≤1000000→x.1≤K):W_ak N (f,x)=some (comesM f x):=by
  obtain⟨k1,k2⟩:=h.knows x.1 hx
  have ht:=h.twin N hK
  have hkn:=pKnows_eq N f x.1 ht
  have h0:=h.n0
  have r0:=@pRead0 N f;have r1:=@pRead1 N f
  obtain⟨nx,tp,R,Wn,Lg,a,b⟩:=f
  unfold W_ak V_ak comesM
  simp only at k2 h0 r0 r1 ⊢
  by_cases c0:nx<1
  · rw[r0 c0,obind_s,selim_r,cnd_t,obind_s]
    simp only[cnd_t]
    rw[ht,obind_s,if_pos (.inl (by omega))]
  rw[r1 c0,obind_s,selim_l]
  by_cases c1:x.1<1
  · rw[dT c1,cnd_t,obind_s]
    simp only[cnd_t]
    rw[ht,obind_s,if_pos (.inr (.inl c1))]
  rw[dF c1,cnd_f,obind_s]
  try simp only
  by_cases c2:1000000<x.1
  · rw[dT c2,cnd_t,ht,obind_s,if_pos (.inr (.inr (.inl c2)))]
  rw[dF c2,cnd_f]
  by_cases c3:(12:Int)<x.2.length
  · rw[dT c3,cnd_t,ht,obind_s,if_pos (.inr (.inr (.inr c3)))]
  rw[dF c3,cnd_f,if_neg (by omega),hkn,obind_s]
  obtain⟨g,hg⟩:∃g,knowsM (nx,tp,R,Wn,Lg,a,b) x.1=g:=⟨_,rfl⟩
  rw[hg] at k1 k2 ⊢
  have hg1:1≤g.1:=by omega
  have hp:=k1.p hg1
  have hn:=hp.nx
  have hl:=hp.lens hK
  have e1:=pPut_eq N hN g.2.2.2.1 g.1 _ _ x hp.wk (by omega) (by omega) (by omega)
  have hF:=k1.put hg1 x (hx (by omega))
  have e2:=pGoes_eq N hN (hF.p hg1) hK
  show obind (W_az N (g.2.2.2.1,g.1,x)) _=_
  rw[e1,obind_s]
  show obind (W_q N (g.1,g.2.1,g.2.2.1,(putM g.2.2.2.1 g.1 x).1,g.2.2.2.2)) _=_
  rw[e2,obind_s]
theorem FI.notes {K c:Int} {f:Fd} (h:FI K c f) (lo hi:Int) (hh:hi≤1000000→hi≤K):FI K c (notesM f lo hi):=by
  unfold notesM
  split
  · exact h
  rename_i q
  have hg:=h.knows hi hh
  have h0:=h.n0
  split
  · exact hg.1
  · rename_i q2
    obtain⟨a,b,_⟩:=hg.1.skips (by omega) hi 1 hh
    exact(a.goes (by omega)).1
theorem FI.comes {K c:Int} {f:Fd} (h:FI K c f) (x:It) (hx:x.1≤1000000→x.1≤K):FI K c (comesM f x):=by
  unfold comesM
  split
  · exact h
  rename_i q
  have hg:=h.knows x.1 hx
  have h0:=h.n0
  exact((hg.1.put (by omega) x (hx (by omega))).goes (by simp only;omega)).1
theorem FI.tick {K c:Int} {f:Fd} (h:FI K c f) (now:Int):FI K c (tickM_4 f now).2.1:=by
  unfold tickM_4
  try simp only
  split
  · exact h
  rename_i q
  obtain⟨w1,w2,w3,w4⟩:=wants_le h (by cases hq:(wantsM f).1 with | true=>rfl | false=>exact absurd (.inl hq) q)
  split
  · obtain⟨a,b,_⟩:=h.skips w1 (wantsM f).2.2 2 (fun _=>w4)
    exact(a.goes (by omega)).1
  · have ha:=h.ask
    exact⟨h.n0,h.tp,h.p,⟨by simp only[triedM];omega,by simp only[triedM];omega⟩,h.z⟩
theorem FI.begins {K c:Int} {f:Fd} (h:FI K c f) (n:Int) (hn:n≤1000000→n≤K) (hn2:n-1≤1000000→n-1≤K):∃c',FI K c' (beginM f n)∧(0<f.1→c'=c)∧(f.1=0→c'=(beginM f n).1):=by
  have h0:=h.n0
  unfold beginM
  split
  · rename_i q
    exact⟨c,(h.knows (n-1) hn2).1,fun _=>rfl,fun q2=>by omega⟩
  · rename_i q
    have hz:=h.z (by omega)
    split
    · rename_i q2
      have:=hn q2.2
      refine⟨n,⟨by simp only;omega,h.tp,fun _=>⟨⟨by simp only;omega,by simp only;omega⟩,?_,?_,?_,?_,by omega⟩,h.ask,fun q3=>by simp only at q3;omega⟩,fun q3=>by omega,fun _=>rfl⟩
      · simp only[hz.1];trivial
      · simp only[hz.1];simp
      · simp only[hz.2.1];trivial
      · simp only[hz.2.2];rfl
    · exact⟨f.1,⟨h.n0,h.tp,fun q3=>by omega,h.ask,h.z⟩,fun q3=>by omega,fun _=>rfl⟩
def Le (f g:Fd):Prop:=f.1≤g.1∧f.2.1≤g.2.1∧∃e,g.2.2.2.2.1=f.2.2.2.2.1++e
theorem Le.refl (f:Fd):Le f f:=⟨Int.le_refl _,Int.le_refl _,[],by simp⟩
theorem Le.trans {f g h:Fd} (a:Le f g) (b:Le g h):Le f h:=by
  obtain⟨a1,a2,e1,a3⟩:=a
  obtain⟨b1,b2,e2,b3⟩:=b
  exact⟨by omega,by omega,e1++e2,by rw[b3,a3,List.append_assoc]⟩
theorem knows_Le (f:Fd) (t:Int):Le f (knowsM f t):=by
  unfold knowsM
  split
  · exact⟨Int.le_refl _,by simp only;omega,[],by simp⟩
  · exact Le.refl f
theorem goM_pre:∀(W:List It) (n:Int) (R:List It) (L:List Ev),n≤(goM W n R L).2.1∧∃e,(goM W n R L).2.2.2.2=L++e
  | [],n,R,L=>⟨Int.le_refl _,[],by simp[goM]⟩
  | w::r,n,R,L=>by
    by_cases c:w.1=n
    · subst c
      rw[goM_eq]
      obtain⟨a,e,b⟩:=goM_pre r (w.1+1) (addR R w) (L++[(1,w.1,w.1,w.2,0)])
      exact⟨by simp only;omega,(1,w.1,w.1,w.2,0)::e,by simp only;rw[b,List.append_assoc];rfl⟩
    · rw[goM_ne c];exact⟨Int.le_refl _,[],by simp⟩
theorem goes_Le (f:Fd):Le f (goesM f).2:=by
  obtain⟨a,e,b⟩:=goM_pre f.2.2.2.1 f.1 f.2.2.1 f.2.2.2.2.1
  exact⟨a,Int.le_refl _,e,b⟩
theorem skR_pre (hi why:Int):∀(j:Nat) (n:Int) (R W:List It) (L:List Ev) (o:List Sp),n≤(skR hi why j n R W L o).2.1∧∃e,(skR hi why j n R W L o).2.2.2.2=L++e
  | 0,n,R,W,L,o=>⟨Int.le_refl _,[],by simp[skR]⟩
  | j+1,n,R,W,L,o=>by
    unfold skR
    split
    case isFalse=>exact⟨Int.le_refl _,[],by simp⟩
    rename_i c
    cases W with
    | nil=>
      obtain⟨a,e,b⟩:=skR_pre hi why j (hi+1) R [] (L++[(2,n,hi,[],why)]) (o++[(n,hi)])
      exact⟨by simp only;omega,_,by simp only;rw[b,List.append_assoc]⟩
    | cons w r=>
      try simp only
      split
      · split
        · obtain⟨a1,e1,b1⟩:=goM_pre (w::r) w.1 R (L++[(2,n,w.1-1,[],why)])
          obtain⟨a,e,b⟩:=skR_pre hi why j (goM (w::r) w.1 R (L++[(2,n,w.1-1,[],why)])).2.1 (goM (w::r) w.1 R (L++[(2,n,w.1-1,[],why)])).2.2.1 (goM (w::r) w.1 R (L++[(2,n,w.1-1,[],why)])).2.2.2.1 (goM (w::r) w.1 R (L++[(2,n,w.1-1,[],why)])).2.2.2.2 (o++[(n,w.1-1)])
          exact⟨by omega,_,by rw[b,b1,List.append_assoc,List.append_assoc]⟩
        · obtain⟨a1,e1,b1⟩:=goM_pre (w::r) n R L
          obtain⟨a,e,b⟩:=skR_pre hi why j (goM (w::r) n R L).2.1 (goM (w::r) n R L).2.2.1 (goM (w::r) n R L).2.2.2.1 (goM (w::r) n R L).2.2.2.2 o
          exact⟨by omega,_,by rw[b,b1,List.append_assoc]⟩
      · obtain⟨a,e,b⟩:=skR_pre hi why j (hi+1) R (w::r) (L++[(2,n,hi,[],why)]) (o++[(n,hi)])
        exact⟨by omega,_,by rw[b,List.append_assoc]⟩
theorem skips_Le (f:Fd) (hi why:Int):Le f (skipsM f hi why).2:=by
  unfold skipsM
  split
  · exact Le.refl f
  · obtain⟨a,e,b⟩:=skR_pre hi why (f.2.2.2.1.length+2) f.1 f.2.2.1 f.2.2.2.1 f.2.2.2.2.1 []
    exact⟨a,Int.le_refl _,e,b⟩
theorem notes_Le (f:Fd) (lo hi:Int):Le f (notesM f lo hi):=by
  unfold notesM
  split
  · exact Le.refl f
  · simp only
    split
    · exact knows_Le f hi
    · exact((knows_Le f hi).trans (skips_Le _ _ _)).trans (goes_Le _)
theorem comes_Le (f:Fd) (x:It):Le f (comesM f x):=by
  unfold comesM
  split
  · exact Le.refl f
  · exact((knows_Le f x.1).trans ⟨Int.le_refl _,Int.le_refl _,[],by simp⟩).trans (goes_Le _)
theorem tick_Le (f:Fd) (now:Int):Le f (tickM_4 f now).2.1:=by
  unfold tickM_4
  try simp only
  split
  · exact Le.refl f
  · split
    · exact(skips_Le _ _ _).trans (goes_Le _)
    · exact⟨Int.le_refl _,Int.le_refl _,[],by simp⟩
def txt (d:Int):List UInt8:=List.getD [[],[(97:UInt8)],[(98:UInt8),(99:UInt8)],[(104:UInt8),(101:UInt8),(108:UInt8),(108:UInt8),(111:UInt8)],[(116:UInt8),(104:UInt8),(105:UInt8),(114:UInt8),(116:UInt8),(101:UInt8),(101:UInt8),(110:UInt8),(32:UInt8),(98:UInt8),(121:UInt8),(116:UInt8),(101:UInt8)]] (Int.toNat (d % 5)) []
theorem FI.lens {K c:Int} {f:Fd} (h:FI K c f) (hK:K≤10000000):f.2.2.1.length≤6∧f.2.2.2.1.length≤8∧f.2.2.2.2.1.length≤10000001:=by
  by_cases q:1≤f.1
  · obtain⟨a,b,_⟩:=(h.p q).lens hK
    exact⟨(h.p q).rl,a,b⟩
  · obtain⟨a,b,e⟩:=h.z (by have:=h.n0;omega)
    rw[a,b,e];simp
theorem FI.nx {K c:Int} {f:Fd} (h:FI K c f) (hK:0≤K):0≤f.1∧f.1≤K+1:=by
  refine⟨h.n0,?_⟩
  by_cases q:1≤f.1
  · exact(h.p q).nx.2
  · omega
structure FA (P:It→Prop) (Q:Ev→Prop) (f:Fd):Prop where
  w:∀x∈f.2.2.2.1,P x
  r:∀x∈f.2.2.1,P x
  l:∀e∈f.2.2.2.2.1,Q e
theorem addR_all {P:It→Prop} {R:List It} {w:It} (h:∀x∈R,P x) (hw:P w):∀x∈addR R w,P x:=by
  intro x hx
  have:x∈R++[w]:=by
    unfold addR at hx
    split at hx
    · exact List.mem_of_mem_drop hx
    · exact hx
  rcases List.mem_append.1 this with h1 | h1
  · exact h x h1
  · rw[List.mem_singleton.1 h1];exact hw
theorem goM_all {P:It→Prop} {Q:Ev→Prop} (hPQ:∀w:It,P w→Q (1,w.1,w.1,w.2,0)):∀(W:List It) (n:Int) (R:List It) (L:List Ev),(∀x∈W,P x)→(∀x∈R,P x)→(∀e∈L,Q e)→
    (∀x∈(goM W n R L).2.2.2.1,P x)∧(∀x∈(goM W n R L).2.2.1,P x)∧(∀e∈(goM W n R L).2.2.2.2,Q e)
  | [],n,R,L,h1,h2,h3=>⟨h1,h2,h3⟩
  | w::r,n,R,L,h1,h2,h3=>by
    have hw:=h1 w (by simp)
    by_cases c:w.1=n
    · subst c
      rw[goM_eq]
      exact goM_all hPQ r _ _ _ (fun x hx=>h1 x (by simp[hx])) (addR_all h2 hw) (fun e he=>by
        rcases List.mem_append.1 he with he | he
        · exact h3 e he
        · rw[List.mem_singleton.1 he];exact hPQ w hw)
    · rw[goM_ne c];exact⟨h1,h2,h3⟩
theorem skR_all {P:It→Prop} {Q:Ev→Prop} (hPQ:∀w:It,P w→Q (1,w.1,w.1,w.2,0)) (hi why:Int):∀(j:Nat) (n:Int) (R W:List It) (L:List Ev) (o:List Sp),(∀a b,n≤a→a≤b→b≤hi→Q (2,a,b,[],why))→(∀x∈W,P x)→(∀x∈R,P x)→(∀e∈L,Q e)→
    (∀x∈(skR hi why j n R W L o).2.2.2.1,P x)∧(∀x∈(skR hi why j n R W L o).2.2.1,P x)∧(∀e∈(skR hi why j n R W L o).2.2.2.2,Q e)
  | 0,n,R,W,L,o,_,h1,h2,h3=>⟨h1,h2,h3⟩
  | j+1,n,R,W,L,o,hQ,h1,h2,h3=>by
    have snoc:∀a b,n≤a→a≤b→b≤hi→∀e∈L++[(2,a,b,[],why)],Q e:=fun a b ha hb hc e he=>by
      rcases List.mem_append.1 he with he | he
      · exact h3 e he
      · rw[List.mem_singleton.1 he];exact hQ a b ha hb hc
    unfold skR
    split
    case isFalse=>exact⟨h1,h2,h3⟩
    rename_i c
    cases W with
    | nil=>exact skR_all hPQ hi why j _ _ _ _ _ (fun a b ha hb hc=>by omega) h1 h2 (snoc _ _ (by omega) (by omega) (by omega))
    | cons w r=>
      try simp only
      split
      · split
        · obtain⟨a1,a2,a3⟩:=goM_all hPQ (w::r) w.1 R _ h1 h2 (snoc n (w.1-1) (by omega) (by omega) (by omega))
          obtain⟨b1,_⟩:=goM_pre (w::r) w.1 R (L++[(2,n,w.1-1,[],why)])
          exact skR_all hPQ hi why j _ _ _ _ _ (fun a b ha hb hc=>hQ a b (by omega) hb hc) a1 a2 a3
        · obtain⟨a1,a2,a3⟩:=goM_all hPQ (w::r) n R L h1 h2 h3
          obtain⟨b1,_⟩:=goM_pre (w::r) n R L
          exact skR_all hPQ hi why j _ _ _ _ _ (fun a b ha hb hc=>hQ a b (by omega) hb hc) a1 a2 a3
      · exact skR_all hPQ hi why j _ _ _ _ _ (fun a b ha hb hc=>by omega) h1 h2 (snoc _ _ (by omega) (by omega) (by omega))
theorem FA.knows {P:It→Prop} {Q:Ev→Prop} {f:Fd} (h:FA P Q f) (t:Int):FA P Q (knowsM f t):=by
  unfold knowsM
  split
  · exact⟨h.w,h.r,h.l⟩
  · exact h
theorem FA.goes {P:It→Prop} {Q:Ev→Prop} (hPQ:∀w:It,P w→Q (1,w.1,w.1,w.2,0)) {f:Fd} (h:FA P Q f):FA P Q (goesM f).2:=by
  obtain⟨a,b,c⟩:=goM_all hPQ _ f.1 _ _ h.w h.r h.l
  exact⟨a,b,c⟩
theorem FA.skips {P:It→Prop} {Q:Ev→Prop} (hPQ:∀w:It,P w→Q (1,w.1,w.1,w.2,0)) {f:Fd} (h:FA P Q f) (hi why:Int) (hQ:∀a b,f.1≤a→a≤b→b≤hi→Q (2,a,b,[],why)):FA P Q (skipsM f hi why).2:=by
  unfold skipsM
  split
  · exact h
  · obtain⟨a,b,c⟩:=skR_all hPQ hi why (f.2.2.2.1.length+2) f.1 _ _ _ [] hQ h.w h.r h.l
    exact⟨a,b,c⟩
theorem insW_mem (x:It):∀(l:List It) (w:It),w∈insW x l→w=x∨w∈l
  | [],w,h=>by simp[insW] at h;exact .inl h
  | y::r,w,h=>by
    simp only[insW] at h
    split at h
    · rcases List.mem_cons.1 h with h | h
      · exact .inl h
      · exact .inr h
    · rcases List.mem_cons.1 h with h | h
      · exact .inr (by simp[h])
      · rcases insW_mem x r w h with h | h
        · exact .inl h
        · exact .inr (by simp[h])
theorem FA.put {P:It→Prop} {Q:Ev→Prop} {f:Fd} (h:FA P Q f) (x:It) (hx:P x):FA P Q (f.1,f.2.1,f.2.2.1,(putM f.2.2.2.1 f.1 x).1,f.2.2.2.2):=by
  refine⟨fun w hw=>?_,h.r,h.l⟩
  simp only at hw
  unfold putM at hw
  split at hw
  · exact h.w w hw
  · rcases insW_mem x _ w hw with rfl | hw
    · exact hx
    · exact h.w w hw
theorem FA.notes {P:It→Prop} {Q:Ev→Prop} (hPQ:∀w:It,P w→Q (1,w.1,w.1,w.2,0)) {f:Fd} (h:FA P Q f) (lo hi:Int) (hQ:∀a b,f.1≤a→a≤b→b≤hi→lo≤a→Q (2,a,b,[],1)):FA P Q (notesM f lo hi):=by
  unfold notesM
  split
  · exact h
  · simp only
    split
    · exact h.knows hi
    · rename_i q1 q2
      refine((h.knows hi).skips hPQ hi 1 (fun a b ha hb hc=>?_)).goes hPQ
      have:(knowsM f hi).1=f.1:=by unfold knowsM;split<;>rfl
      rw[this] at ha
      exact hQ a b ha hb hc (by omega)
theorem FA.comes {P:It→Prop} {Q:Ev→Prop} (hPQ:∀w:It,P w→Q (1,w.1,w.1,w.2,0)) {f:Fd} (h:FA P Q f) (x:It) (hx:(1≤x.1∧x.1≤1000000∧x.2.length≤12)→P x):FA P Q (comesM f x):=by
  unfold comesM
  split
  · exact h
  · rename_i q
    exact((h.knows x.1).put x (hx ⟨by omega,by omega,by omega⟩)).goes hPQ
theorem FA.tick {P:It→Prop} {Q:Ev→Prop} (hPQ:∀w:It,P w→Q (1,w.1,w.1,w.2,0)) {f:Fd} (h:FA P Q f) (now:Int) (hQ:3≤f.2.2.2.2.2.1→∀a b,f.1≤a→a≤b→Q (2,a,b,[],2)):FA P Q (tickM_4 f now).2.1:=by
  unfold tickM_4
  try simp only
  split
  · exact h
  · split
    · rename_i q
      exact(h.skips hPQ _ 2 (fun a b ha hb _=>hQ q a b ha hb)).goes hPQ
    · exact⟨h.w,h.r,h.l⟩
theorem FA.begins {P:It→Prop} {Q:Ev→Prop} {f:Fd} (h:FA P Q f) (n:Int):FA P Q (beginM f n):=by
  unfold beginM
  split
  · exact h.knows _
  · split
    · exact⟨h.w,h.r,h.l⟩
    · exact h
def FS (K:Int) (f:Fd):Prop:=Wk (f.1+1) (min K (f.1+7)) f.2.2.2.1
theorem FS.knows {K:Int} {f:Fd} (h:FS K f) (t:Int):FS K (knowsM f t):=by
  unfold knowsM
  split
  · exact h
  · exact h
theorem FS.notes {K c:Int} {f:Fd} (hf:FI K c f) (h:FS K f) (lo hi:Int) (hh:hi≤1000000→hi≤K):FS K (notesM f lo hi):=by
  unfold notesM
  split
  · exact h
  rename_i q
  have hg:=hf.knows hi hh
  have h0:=hf.n0
  split
  · exact h.knows hi
  · rename_i q2
    obtain⟨a,b,_⟩:=hg.1.skips (by omega) hi 1 hh
    exact(a.goes (by omega)).2.2
theorem FS.comes {K c:Int} {f:Fd} (hf:FI K c f) (h:FS K f) (x:It) (hx:x.1≤1000000→x.1≤K):FS K (comesM f x):=by
  unfold comesM
  split
  · exact h
  rename_i q
  have hg:=hf.knows x.1 hx
  have h0:=hf.n0
  exact((hg.1.put (by omega) x (hx (by omega))).goes (by simp only;omega)).2.2
theorem FS.tick {K c:Int} {f:Fd} (hf:FI K c f) (h:FS K f) (now:Int):FS K (tickM_4 f now).2.1:=by
  unfold tickM_4
  try simp only
  split
  · exact h
  rename_i q
  obtain⟨w1,w2,w3,w4⟩:=wants_le hf (by cases hq:(wantsM f).1 with | true=>rfl | false=>exact absurd (.inl hq) q)
  split
  · obtain⟨a,b,_⟩:=hf.skips w1 (wantsM f).2.2 2 (fun _=>w4)
    exact(a.goes (by omega)).2.2
  · exact h
theorem FS.begins {K c:Int} {f:Fd} (hf:FI K c f) (h:FS K f) (n:Int):FS K (beginM f n):=by
  have h0:=hf.n0
  unfold beginM
  split
  · exact h.knows _
  · rename_i q
    have hz:=hf.z (by omega)
    split
    · unfold FS;simp only[hz.2.1];trivial
    · exact h
def eD:Ev:=((0:Int),(0:Int),(0:Int),([]:List UInt8),(0:Int))
def EvOk (e:Ev):Prop:=(e.1=1∧e.2.2.1=e.2.1∧e.2.2.2.1.length≤12∧e.2.2.2.2=0)∨(e.1=2∧e.2.2.2.1=[]∧(e.2.2.2.2=1∨e.2.2.2.2=2))
theorem Ch.le:∀{L:List Ev} {n m:Int},Ch n L m→n≤m
  | [],_,_,h=>by have h':_=_:=h;omega
  | e::r,n,m,h=>by have:=h.2.2.le;have:=h.1;have:=h.2.1;omega
theorem Ch.last:∀{L:List Ev} {n m:Int},Ch n L m→L≠[]→(L.getD (L.length-1) eD).2.2.1+1=m
  | [],_,_,_,h=>absurd rfl h
  | [e],n,m,h,_=>by have h':_=_:=h.2.2;simpa using h'
  | e::x::r,n,m,h,_=>by
    have:=h.2.2.last (by simp)
    simpa using this
theorem Wk.at:∀{l:List It} {n K:Int},Wk n K l→∀j,j+1<l.length→(l.getD j iD).1<(l.getD (j+1) iD).1
  | [],_,_,_,j,hj=>by simp at hj
  | [w],_,_,_,j,hj=>by simp at hj
  | w::x::r,n,K,h,0,_=>by have:=h.2.2.1;simp;omega
  | w::x::r,n,K,h,j+1,hj=>by
    have:=h.2.2.at j (by simp at hj ⊢;omega)
    simpa using this
theorem Fp.mono {K K' c n:Int} {R W:List It} {L:List Ev} (h:Fp K c n R W L) (hK:K≤K'):Fp K' c n R W L:=
  ⟨⟨h.nx.1,by have:=h.nx.2;omega⟩,h.rk,h.rl,h.wk.mono (Int.le_refl _) (by omega),h.ch,h.c0⟩
theorem FI.mono {K K' c:Int} {f:Fd} (h:FI K c f) (hK:K≤K'):FI K' c f:=
  ⟨h.n0,⟨h.tp.1,by have:=h.tp.2;omega⟩,fun q=>(h.p q).mono hK,h.ask,h.z⟩
theorem FS.mono {K K':Int} {f:Fd} (h:FS K f) (hK:K≤K'):FS K' f:=Wk.mono h (Int.le_refl _) (by omega)
abbrev FT (f:Fd):Prop:=FA (fun w=>w.2.length≤12) EvOk f
theorem FT.hpq (w:It) (hw:w.2.length≤12):EvOk (1,w.1,w.1,w.2,0):=.inl ⟨rfl,rfl,hw,rfl⟩
def okS (s:Sp):Prop:=1≤s.1∧s.1≤s.2∧s.2≤1000000
def B (h:Sp):Prop:=0≤h.1∧h.1≤1000001∧0≤h.2∧h.2≤1000001
theorem okS.B {s:Sp} (h:okS s):B s:=⟨by have:=h.1;omega,by have:=h.2.1;have:=h.2.2;omega,by have:=h.1;have:=h.2.1;omega,by have:=h.2.2;omega⟩
abbrev AS3:=Sp×List Sp×List Sp
def ad (s:AS3) (h:Sp):AS3:=if h.2+1<s.1.1 then(s.1,s.2.1++[h],s.2.2) else if s.1.2+1<h.1 then(s.1,s.2.1,s.2.2++[h]) else((min s.1.1 h.1,max s.1.2 h.2),s.2.1,s.2.2)
open Classical in
def addP (l:List Sp) (s:Sp):List Sp:=if okS s then(l.foldl ad (s,[],[])).2.1++[(l.foldl ad (s,[],[])).1]++(l.foldl ad (s,[],[])).2.2 else l
theorem ad_len (l:List Sp):∀s:AS3,(l.foldl ad s).2.1.length+(l.foldl ad s).2.2.length≤s.2.1.length+s.2.2.length+l.length:=by
  induction l with
  | nil=>intro s;simp
  | cons h r ih=>
    intro s
    have:=ih (ad s h)
    have h2 : (ad s h).2.1.length + (ad s h).2.2.length ≤ s.2.1.length + s.2.2.length + 1 := by unfold ad; split; · simp; omega
                                                                                                split<;>simp<;>omega
    simp only[List.foldl_cons,List.length_cons];omega
def Rr (a b:Sp):Prop:=a.2+1<b.1
def VS (l:List Sp):Prop:=(∀a∈l,okS a)∧l.Pairwise Rr
structure J (s:AS3) (rest:List Sp):Prop where
  f1:∀a∈s.2.1,okS a
  f2:s.2.1.Pairwise Rr
  m:okS s.1
  fm:∀a∈s.2.1,a.2+1<s.1.1
  b1:∀a∈s.2.2,okS a
  b2:s.2.2.Pairwise Rr
  bm:∀a∈s.2.2,s.1.2+1<a.1
  br:∀a∈s.2.2,∀h∈rest,a.2+1<h.1
  fr:∀a∈s.2.1,∀h∈rest,a.2+1<h.1
  r1:∀h∈rest,okS h
  r2:rest.Pairwise Rr
theorem J_step {s:AS3} {h:Sp} {r:List Sp} (j:J s (h::r)):J (ad s h) r:=by
  obtain⟨f1,f2,m,fm,b1,b2,bm,br,fr,r1,r2⟩:=j
  have hh:=r1 h (by simp)
  rw[List.pairwise_cons] at r2
  have r1':∀x∈r,okS x:=fun x hx=>r1 x (by simp[hx])
  have br':∀a∈s.2.2,∀x∈r,a.2+1<x.1:=fun a ha x hx=>br a ha x (by simp[hx])
  have fr':∀a∈s.2.1,∀x∈r,a.2+1<x.1:=fun a ha x hx=>fr a ha x (by simp[hx])
  have bh:∀a∈s.2.2,a.2+1<h.1:=fun a ha=>br a ha h (by simp)
  have fh:∀a∈s.2.1,a.2+1<h.1:=fun a ha=>fr a ha h (by simp)
  obtain⟨m1,m2,m3⟩:=m
  obtain⟨g1,g2,g3⟩:=hh
  unfold ad
  split
  · rename_i k
    refine⟨?_,?_,⟨m1,m2,m3⟩,?_,b1,b2,bm,br',?_,r1',r2.2⟩
    · intro a ha
      simp only[List.mem_append,List.mem_singleton] at ha
      rcases ha with ha | rfl
      · exact f1 a ha
      · exact⟨g1,g2,g3⟩
    · rw[List.pairwise_append]
      exact⟨f2,by simp,fun a ha b hb=>by simp at hb;subst hb;exact fh a ha⟩
    · intro a ha
      simp only[List.mem_append,List.mem_singleton] at ha
      rcases ha with ha | rfl
      · exact fm a ha
      · exact k
    · intro a ha x hx
      simp only[List.mem_append,List.mem_singleton] at ha
      rcases ha with ha | rfl
      · exact fr' a ha x hx
      · exact r2.1 x hx
  · rename_i k
    split
    · rename_i k2
      refine⟨f1,f2,⟨m1,m2,m3⟩,fm,?_,?_,?_,?_,fr',r1',r2.2⟩
      · intro a ha
        simp only[List.mem_append,List.mem_singleton] at ha
        rcases ha with ha | rfl
        · exact b1 a ha
        · exact⟨g1,g2,g3⟩
      · rw[List.pairwise_append]
        exact⟨b2,by simp,fun a ha b hb=>by simp at hb;subst hb;exact bh a ha⟩
      · intro a ha
        simp only[List.mem_append,List.mem_singleton] at ha
        rcases ha with ha | rfl
        · exact bm a ha
        · exact k2
      · intro a ha x hx
        simp only[List.mem_append,List.mem_singleton] at ha
        rcases ha with ha | rfl
        · exact br' a ha x hx
        · exact r2.1 x hx
    · rename_i k2
      have hb:∀a∈s.2.2,False:=fun a ha=>by
        have q1:=bm a ha
        have q2:=bh a ha
        have q3:=(b1 a ha).2.1
        omega
      refine⟨f1,f2,⟨by simp only;omega,by simp only;omega,by simp only;omega⟩,fun a ha=>?_,b1,b2,fun a ha=>(hb a ha).elim,br',fr',r1',r2.2⟩
      have q1:=fm a ha
      have q2:=fh a ha
      try simp only
      omega
theorem J_fold:∀(l:List Sp) (s:AS3),J s l→J (l.foldl ad s) []
  | [],s,h=>h
  | x::r,s,h=>J_fold r _ (J_step h)
theorem VS_add {l:List Sp} {s:Sp} (hl:VS l) (hs:okS s):VS (addP l s)∧(addP l s).length≤l.length+1:=by
  have j:=J_fold l (s,[],[]) ⟨by simp,by simp,hs,by simp,by simp,by simp,by simp,by simp,by simp,hl.1,hl.2⟩
  have hlen:=ad_len l (s,[],[])
  simp only[List.length_nil] at hlen
  unfold addP
  rw[if_pos hs]
  generalize l.foldl ad (s,[],[])=q at *
  obtain⟨f1,f2,m,fm,b1,b2,bm,_,_,_,_⟩:=j
  refine⟨⟨?_,?_⟩,by simp only[List.length_append,List.length_singleton];omega⟩
  · intro a ha
    simp only[List.mem_append,List.mem_singleton] at ha
    rcases ha with(ha | rfl) | ha
    · exact f1 a ha
    · exact m
    · exact b1 a ha
  · rw[List.pairwise_append,List.pairwise_append]
    refine⟨⟨f2,by simp,fun a ha b hb=>by simp at hb;subst hb;exact fm a ha⟩,b2,fun a ha b hb=>?_⟩
    have q2:=bm b hb
    have q3:=m.2.1
    simp only[List.mem_append,List.mem_singleton] at ha
    show a.2+1<b.1
    rcases ha with ha | rfl
    · have:=fm a ha;omega
    · omega
def push (o:List Sp) (lo hi:Int):List Sp:=if 0<o.length∧(o.getD (o.length-1) (0,0)).2+1=lo then putL o [((o.getD (o.length-1) (0,0)).1,hi)] (o.length-1) else o++[(lo,hi)]
theorem push_nil (lo hi:Int):push [] lo hi=[(lo,hi)]:=by unfold push;rw[if_neg (by simp)];rfl
theorem push_snoc (o:List Sp) (t:Sp) (lo hi:Int):push (o++[t]) lo hi=if t.2+1=lo then o++[(t.1,hi)] else o++[t]++[(lo,hi)]:=by
  have hl:(o++[t]).length-1=o.length:=by simp
  have hg:(o++[t]).getD o.length (0,0)=t:=by rw[List.getD_eq_getElem?_getD];simp
  unfold push
  rw[hl,hg]
  by_cases h:t.2+1=lo
  · rw[if_pos ⟨by simp,h⟩,if_pos h]
    unfold putL
    simp
  · rw[if_neg (fun q=>h q.2),if_neg h]
theorem snoc_cases (o:List Sp):o=[]∨∃p t,o=p++[t]:=by
  rcases List.eq_nil_or_concat o with h | ⟨p,t,h⟩
  · exact .inl h
  · exact .inr ⟨p,t,by rw[h,List.concat_eq_append]⟩
theorem push_hi {o:List Sp} {lo hi m:Int} (ho:∀s∈o,s.2+1≤m) (hm:hi+1≤m):∀s∈push o lo hi,s.2+1≤m:=by
  rcases snoc_cases o with rfl | ⟨p,t,rfl⟩
  · rw[push_nil];intro s hs;simp at hs;subst hs;exact hm
  · rw[push_snoc]
    intro s hs
    split at hs
    · simp only[List.mem_append,List.mem_singleton] at hs
      rcases hs with hs | rfl
      · exact ho s (by simp[hs])
      · exact hm
    · simp only[List.mem_append,List.mem_singleton] at hs
      rcases hs with(hs | rfl) | rfl
      · exact ho s (by simp[hs])
      · exact ho s (by simp)
      · exact hm
theorem fold_front (s:Sp):∀(l fr:List Sp),(∀t∈l,t.2+1<s.1)→l.foldl ad (s,fr,[])=(s,fr++l,[])
  | [],fr,_=>by simp
  | t::r,fr,h=>by
    have e:ad (s,fr,[]) t=(s,fr++[t],[]):=by unfold ad;rw[if_pos (h t (by simp))]
    rw[List.foldl_cons,e,fold_front s r (fr++[t]) fun x hx=>h x (by simp[hx])]
    simp
theorem addP_push {a:List Sp} {s:Sp} (ha:VS a) (hs:okS s) (hb:∀t∈a,t.2+1≤s.1):addP a s=push a s.1 s.2:=by
  unfold addP
  rw[if_pos hs]
  rcases snoc_cases a with rfl | ⟨p,t,rfl⟩
  · rw[push_nil];simp
  · have hp:∀x∈p,x.2+1<s.1:=fun x hx=>by
      have h1:Rr x t:=(List.pairwise_append.1 ha.2).2.2 x hx t (by simp)
      have h2:=hb t (by simp)
      have h3:=(ha.1 t (by simp)).2.1
      unfold Rr at h1
      omega
    have ht:=hb t (by simp)
    have ht2:=(ha.1 t (by simp)).2.1
    have hs2:=hs.2.1
    rw[List.foldl_append,fold_front s p [] hp,List.nil_append,push_snoc]
    simp only[List.foldl_cons,List.foldl_nil]
    unfold ad
    try simp only
    by_cases h:t.2+1=s.1
    · rw[if_neg (by omega),if_neg (by omega),if_pos h]
      simp only[List.append_nil]
      rw[show min s.1 t.1=t.1 by omega,show max s.2 t.2=s.2 by omega]
    · rw[if_pos (by omega),if_neg h]
      simp
open Classical in
theorem Get_eq (N:Nat) (l:List It) (s:Int) (hN:2000≤N) (hl:l.length≤1000):W_bl N (l,s)=some (getF l s):=by
  have hf:∃r:List UInt8⊕PUnit,W_bg N (l,s)=some r∧((r=.inl (getF l s).1∧(getF l s).2=true)∨(r=.inr ()∧getF l s=([],false))):=by
    unfold W_bg V_bg
    try simp only
    refine loop_G (N:=N) (fun o=>∃r:List UInt8⊕PUnit,o=some r∧((r=.inl (getF l s).1∧(getF l s).2=true)∨(r=.inr ()∧getF l s=([],false)))) (fun k (v:Int)=>v=k∧k≤l.length∧getF (l.drop k) s=getF l s) l.length (fun r:PUnit⊕List UInt8⊕PUnit=>(r=.inl ()∧getF l s=([],false))∨(r=.inr (.inl (getF l s).1)∧(getF l s).2=true)) ⟨rfl,by omega,rfl⟩ (by omega) ?_ (fun k v h=>h.2.1) ?_
    · rintro r (⟨rfl,h⟩ | ⟨rfl,h⟩)
      · rw[selim_l];exact⟨_,rfl,.inr ⟨rfl,h⟩⟩
      · rw[selim_r];exact⟨_,rfl,.inl ⟨rfl,h⟩⟩
    · rintro k v ⟨e,hk,hg⟩
      subst e
      by_cases c:(k:Int)<l.length
      case neg=>
        right
        rw[dF c,cnd_f]
        rw[List.drop_eq_nil_of_le (by omega)] at hg
        exact⟨_,rfl,.inl ⟨rfl,hg.symm⟩⟩
      rw[drop_consI (by omega)] at hg
      simp only[getF] at hg
      rw[dT c,cnd_t,dT (by omega),Bool.and_self,cnd_t,Int.toNat_natCast]
      by_cases c2:(l.getD k iD).1=s
      · right
        rw[if_pos c2] at hg
        rw[dT c2,cnd_t]
        exact⟨_,rfl,.inr ⟨by rw[←hg],by rw[←hg]⟩⟩
      · left
        rw[if_neg c2] at hg
        rw[dF c2,cnd_f,wr_m (by omega) (by omega)]
        exact⟨_,rfl,by omega,by omega,hg⟩
  obtain⟨r,h1,h2⟩:=hf
  unfold W_bl V_bl
  try simp only
  rw[h1,obind_s]
  rcases h2 with⟨rfl,h2⟩ | ⟨rfl,h2⟩
  · rw[selim_l]
    cases hq:getF l s with
    | mk a b=>rw[hq] at h2;simp only at h2;rw[h2]
  · rw[selim_r,h2]
def itF (R:List It) (lo:Int):Nat→List It
  | 0=>[]
  | k+1=>if (getF R (lo+k)).2=true then itF R lo k++[(lo+k,(getF R (lo+k)).1)] else itF R lo k
def noF (R:List It) (lo:Int):Nat→List Sp
  | 0=>[]
  | k+1=>if (getF R (lo+k)).2=true then noF R lo k else push (noF R lo k) (lo+k) (lo+k)
theorem itF_len (R:List It) (lo:Int):∀k,(itF R lo k).length≤k
  | 0=>by simp[itF]
  | k+1=>by
    have:=itF_len R lo k
    simp only[itF]
    split
    · simp only[List.length_append,List.length_cons,List.length_nil];omega
    · omega
theorem noF_ok {R:List It} {lo:Int} (hlo:1≤lo):∀k:Nat,(k=0∨lo+k≤1000001)→VS (noF R lo k)∧(∀t∈noF R lo k,t.2+1≤lo+k)∧(noF R lo k).length≤k
  | 0,_=>⟨⟨by simp[noF],by simp[noF]⟩,by simp[noF],by simp[noF]⟩
  | k+1,h=>by
    obtain⟨h1,h2,h3⟩:=noF_ok (R:=R) hlo k (by omega)
    have hk:lo+k≤1000000:=by omega
    simp only[noF]
    split
    · exact⟨h1,fun t ht=>by have:=h2 t ht;omega,by omega⟩
    · have hs:okS (lo+k,lo+k):=⟨by simp only;omega,by simp only;omega,hk⟩
      have e:=addP_push h1 hs h2
      have hv:=VS_add h1 hs
      rw[e] at hv
      simp only at hv
      exact⟨hv.1,push_hi (fun s hs=>by have:=h2 s hs;omega) (by omega),by omega⟩
abbrev cnt (f:Fd) (lo hi:Int):Nat:=(min (min hi (f.1-1)) (lo+7)+1-lo).toNat
theorem pServes (N:Nat) (f:Fd) (lo hi:Int) (hN:2000≤N) (hl:f.2.2.1.length≤6) (h1:1≤f.1) (h2:f.1≤1000001) (h3:1≤lo) (h4:lo≤2000000000000):
    W_ag N (f,lo,hi)=some (itF f.2.2.1 lo (cnt f lo hi),noF f.2.2.1 lo (cnt f lo hi)):=by
  unfold W_ag V_ag cnt
  try simp only
  rw[dF (show ¬f.1<1 by omega),cnd_f,wr_m (z:=lo+8) (by omega) (by omega),wr_m (z:=lo+8-1) (by omega) (by omega),show lo+8-1=lo+7 by omega]
  obtain⟨T,hT⟩:∃T,min (min hi (f.1-1)) (lo+7)=T:=⟨_,rfl⟩
  rw[hT]
  have hT7:T≤lo+7:=by omega
  have hTf:T≤f.1-1:=by omega
  refine loop_G (N:=N) (fun o=>o=some (itF f.2.2.1 lo (T+1-lo).toNat,noF f.2.2.1 lo (T+1-lo).toNat)) (fun k (v:Int×Fd×List It×List Sp)=>v=(lo+(k:Int),f,itF f.2.2.1 lo k,noF f.2.2.1 lo k)∧k≤(T+1-lo).toNat) 8 (fun r:List It×List Sp=>r=(itF f.2.2.1 lo (T+1-lo).toNat,noF f.2.2.1 lo (T+1-lo).toNat)) ⟨by simp[itF,noF],by omega⟩ (by omega) (fun r h=>by rw[h]) (fun k v h=>by have:=h.2;omega) ?_
  rintro k v ⟨rfl,hk⟩
  try simp only
  rw[wr_m (z:=f.1-1) (by omega) (by omega),hT]
  by_cases c:lo+(k:Int)≤T
  case neg=>
    right
    rw[dF c,cnd_f]
    exact⟨_,rfl,by rw[show k=(T+1-lo).toNat by omega]⟩
  left
  have hkl:=itF_len f.2.2.1 lo k
  have hnl:=(noF_ok (R:=f.2.2.1) h3 k (by omega)).2.2
  have w:wr .i64 (lo+(k:Int)+1)=lo+((k+1:Nat):Int):=by rw[wr_m (by omega) (by omega)];omega
  rw[dT c,cnd_t,Get_eq N _ _ hN (by omega),obind_s,w]
  clear w
  by_cases q:(getF f.2.2.1 (lo+k)).2=true
  · rw[q,cnd_t,dT (by simp only[List.length_singleton];omega),cnd_t]
    refine⟨_,rfl,?_,by omega⟩
    simp only[itF,noF]
    rw[if_pos q,if_pos q]
  · have e1:itF f.2.2.1 lo (k+1)=itF f.2.2.1 lo k:=by simp only[itF];rw[if_neg q]
    have e2:noF f.2.2.1 lo (k+1)=push (noF f.2.2.1 lo k) (lo+k) (lo+k):=by simp only[noF];rw[if_neg q]
    rw[Bool.not_eq_true] at q
    rw[q,cnd_f]
    refine⟨(lo+((k+1:Nat):Int),f,itF f.2.2.1 lo (k+1),noF f.2.2.1 lo (k+1)),?_,rfl,by omega⟩
    rw[e1,e2]
    generalize noF f.2.2.1 lo k=o at *
    unfold push
    by_cases p0:0<o.length
    · rw[show wr .i64 ((o.length:Int)-1)=((o.length-1:Nat):Int) by rw[wr_m (by omega) (by omega)];omega,show wr .i64 (lo+(k:Int)-1)=lo+k-1 from wr_m (by omega) (by omega),dT (show (0:Int)≤((o.length-1:Nat):Int) by omega),cnd_t,dT (show ((o.length-1:Nat):Int)<o.length by omega),Bool.true_and,cnd_t,Int.toNat_natCast]
      by_cases p1:(o.getD (o.length-1) (0,0)).2=lo+k-1
      · rw[dT p1,cnd_t,cnd_t,if_pos ⟨p0,by omega⟩]
      · rw[dF p1,cnd_f,dT (by simp only[List.length_singleton];omega),cnd_t,if_neg (fun h=>p1 (by omega))]
    · rw[show wr .i64 ((o.length:Int)-1)=-1 by rw[wr_m (by omega) (by omega)];omega,dF (by omega),cnd_f,dT (by simp only[List.length_singleton];omega),cnd_t,if_neg (fun h=>p0 h.1)]
end
end Go.Proofs.YtgpgmncgbebgdaaGreat.nodeDownX
