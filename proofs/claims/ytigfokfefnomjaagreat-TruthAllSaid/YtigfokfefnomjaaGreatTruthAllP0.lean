/- TruthAll: for all arguments the call returns true. The law is brought to a function of Lean's own (W_..) by the machine of the texts beside it, and that is reckoned; no condition. -/
import Derived.Test.YtigfokfefnomjaaGreatTruthAllW1
namespace Go.Proofs.YtigfokfefnomjaaGreat.truthAllX
open Go.Abs Go.RowKit Go.ChangeShapes Go.WideShapes Go.ChangeAt
set_option maxRecDepth 100000
set_option linter.unusedVariables false
set_option linter.unusedSimpArgs false
noncomputable section
/-! What is reckoned. -/
-- PURE
theorem wr_m {z:Int} (h:-140737488355328≤z) (h2:z≤140737488355328):wr .i64 z=z:=wr_i64 (by omega) (by omega)
theorem cnd_T {α:Type} {p:Prop} {i:Decidable p} {x y:α} (h:p):cnd (@decide p i) x y=x:=by rw[decide_eq_true h];rfl
theorem cnd_F {α:Type} {p:Prop} {i:Decidable p} {x y:α} (h:¬p):cnd (@decide p i) x y=y:=by rw[decide_eq_false h];rfl
def gd (D:List (List Int)) (i j:Nat):Int:=(D.getD i []).getD j 0
structure GD (D:List (List Int)):Prop where
  len:D.length=8
  row:∀i,i<8→(D.getD i []).length=8
  rng:∀i j,i<8→j<8→0≤gd D i j∧gd D i j≤1000
  sym:∀i j,i<8→j<8→gd D i j=gd D j i
theorem loop_post {σ ρ β:Type} {f:σ→Option (σ⊕ρ)} {k:ρ→Option β} {x:σ} {N:Nat} (Q:Option β→Prop) (I:σ→Prop) (m:σ→Nat) (J:ρ→Prop) (hx:I x) (hm:m x<N) (hk:∀r,J r→Q (k r))
    (hs:∀x,I x→(∃y,f x=some (.inl y)∧I y∧m y<m x)∨∃r,f x=some (.inr r)∧J r):Q (obind (loopN N f x) k):=by
  obtain⟨r,h1,h2⟩:=loopN_run I m J hs N x hx hm
  rw[h1];exact hk r h2
def S8 (l:List Int):Prop:=∀b∈l,1≤b∧b≤8
def G (D:List (List Int)) (a b:Int):Int:=gd D (a-1).toNat (b-1).toNat
def far (D:List (List Int)) (a:Int) (l:List Int):Int:=l.foldl (fun m b=>max m (G D a b)) 0
theorem take_snoc (l:List Int) (j:Nat) (h:j<l.length):l.take (j+1)=l.take j++[l.getD j 0]:=by
  rw[List.take_add_one,List.getD_eq_getElem?_getD,List.getElem?_eq_getElem h];rfl
theorem getD_mem (l:List Int) (j:Nat) (h:j<l.length):l.getD j 0∈l:=by
  rw[List.getD_eq_getElem?_getD,List.getElem?_eq_getElem h]
  exact List.getElem_mem h
theorem far_snoc (D:List (List Int)) (a:Int) (l:List Int) (b:Int):far D a (l++[b])=max (far D a l) (G D a b):=by
  unfold far;rw[List.foldl_append];rfl
theorem row_eq {D:List (List Int)} (hD:GD D) {a:Int} (ha:1≤a∧a≤8):((D.getD (a-1).toNat []).length:Int)=8:=by
  have:=hD.row (a-1).toNat (by omega);omega
theorem len_eq {D:List (List Int)} (hD:GD D):(D.length:Int)=8:=by
  have:=hD.len;omega
def Least (F:Int→Int) (l:List Int) (w:Int):Prop:=w∈l∧∀x∈l,F w<F x∨(F w=F x∧w≤x)
def Who (F:Int→Int) (l:List Int) (v:Int):Prop:=(l=[]∧v=0)∨Least F l v
theorem Has_eq (N:Nat) (l:List Int) (a:Int) (hlen:l.length≤900) (hN:1000≤N):W_c N (l,a)=some (decide (a∈l)):=by
  unfold W_c V_c
  try simp only
  refine loop_post (fun o=>o=some (decide (a∈l))) (fun v=>0≤v∧v≤l.length∧a∉l.take v.toNat) (fun v=>l.length-v.toNat) (fun r=>(r=.inl ()∧a∉l)∨(r=.inr true∧a∈l)) ⟨by simp,by simp,by simp⟩ (by simp;omega) (fun r h=>?_) ?_
  · rcases h with⟨rfl,h⟩ | ⟨rfl,h⟩
    · rw[selim_l,dF h]
    · rw[selim_r,dT h]
  rintro i ⟨g1,g2,g3⟩
  by_cases h:i<l.length
  · rw[dT h,cnd_t,dT g1,Bool.and_self,cnd_t]
    by_cases e:l.getD i.toNat 0=a
    · right
      rw[dT e,cnd_t]
      exact⟨_,rfl,.inr ⟨rfl,e▸getD_mem l i.toNat (by omega)⟩⟩
    · left
      rw[dF e,cnd_f,wr_m (by omega) (by omega)]
      refine⟨_,rfl,⟨by omega,by omega,?_⟩,by omega⟩
      rw[show (i+1).toNat=i.toNat+1 by omega,take_snoc l _ (by omega)]
      intro hm
      rcases List.mem_append.1 hm with hm | hm
      · exact g3 hm
      · exact e (List.mem_singleton.1 hm).symm
  · right
    rw[dF h,cnd_f]
    rw[List.take_of_length_le (by omega)] at g3
    exact⟨_,rfl,.inl ⟨rfl,g3⟩⟩
abbrev Up (l:List Int):Prop:=l.Pairwise (·<·)
theorem Up_nodup {l:List Int} (h:Up l):l.Nodup:=h.imp fun h=>by omega
theorem Up_eq:∀{l m:List Int},Up l→Up m→(∀x,x∈l↔x∈m)→l=m
  | [],[],_,_,_=>rfl
  | [],b::m,_,_,h=>by have:=(h b).2 (List.mem_cons_self ..);cases this
  | a::l,[],_,_,h=>by have:=(h a).1 (List.mem_cons_self ..);cases this
  | a::l,b::m,hl,hm,h=>by
    have hl':=List.pairwise_cons.1 hl
    have hm':=List.pairwise_cons.1 hm
    have hab:a=b:=by
      rcases List.mem_cons.1 ((h a).1 (List.mem_cons_self ..)) with e | e
      · exact e
      rcases List.mem_cons.1 ((h b).2 (List.mem_cons_self ..)) with e2 | e2
      · exact e2.symm
      · have h1:=hm'.1 a e;have h2:=hl'.1 b e2;omega
    subst hab
    rw[Up_eq hl'.2 hm'.2 fun x=>?_]
    constructor
    · intro hx
      rcases List.mem_cons.1 ((h x).1 (List.mem_cons_of_mem _ hx)) with e | e
      · have:=hl'.1 x hx;omega
      · exact e
    · intro hx
      rcases List.mem_cons.1 ((h x).2 (List.mem_cons_of_mem _ hx)) with e | e
      · have:=hm'.1 x hx;omega
      · exact e
theorem Up_snoc {l:List Int} {b:Int} (h:Up l) (hb:∀x∈l,x<b):Up (l++[b]):=by
  rw[Up,List.pairwise_append]
  exact⟨h,by simp,fun x hx y hy=>by rw[List.mem_singleton.1 hy];exact hb x hx⟩
def ins (l m:List Int):List Int:=(l++m).mergeSort fun a b=>decide (a≤b)
theorem ins_mem {l m:List Int} {x:Int}:x∈ins l m↔x∈l∨x∈m:=by
  unfold ins
  rw[List.mem_mergeSort,List.mem_append]
theorem ins_len {l m:List Int}:(ins l m).length=l.length+m.length:=by
  unfold ins
  rw[List.length_mergeSort,List.length_append]
theorem ins_up {l m:List Int} (h:(l++m).Nodup):Up (ins l m):=by
  have h1:(ins l m).Nodup:=(List.mergeSort_perm _ _).nodup_iff.2 h
  have h2:(ins l m).Pairwise (fun a b=>decide (a≤b)=true):=List.pairwise_mergeSort (fun a b c h1 h2=>by simp only[decide_eq_true_eq] at h1 h2 ⊢;omega) (fun a b=>by simp only[Bool.or_eq_true,decide_eq_true_eq];omega) _
  exact(h2.and h1).imp fun⟨p,q⟩=>by simp only[decide_eq_true_eq] at p;omega
def les (l:List Int) (k:Int):List Int:=l.filter fun x=>decide (x≠k)
theorem les_mem {l:List Int} {k x:Int}:x∈les l k↔x∈l∧x≠k:=by
  unfold les
  rw[List.mem_filter,decide_eq_true_eq]
theorem les_up {l:List Int} {k:Int} (h:Up l):Up (les l k):=h.filter _
theorem les_len:∀{l:List Int} {k:Int},l.Nodup→k∈l→(les l k).length+1=l.length
  | [],k,_,h=>nomatch h
  | a::l,k,hn,h=>by
    have hn':=List.nodup_cons.1 hn
    unfold les
    by_cases e:a=k
    · subst e
      rw[List.filter_cons_of_neg (by simp)]
      rw[List.filter_eq_self.2 fun x hx=>by simp only[decide_eq_true_eq];intro q;exact hn'.1 (q▸hx)]
      rfl
    · rw[List.filter_cons_of_pos (by simpa using e)]
      rcases List.mem_cons.1 h with h | h
      · exact absurd h.symm e
      · have:=les_len hn'.2 h
        unfold les at this
        simp only[List.length_cons];omega
theorem les_le {l:List Int} {k:Int}:(les l k).length≤l.length:=List.length_filter_le _ _
theorem Rising_up (N:Nat) (l:List Int) (hlen:l.length≤900) (hN:1000≤N):∃R,W_f N l=some R∧Up R∧∀x,x∈R↔(1≤x∧x≤8)∧x∈l:=by
  unfold W_f V_f
  refine loop_post (σ:=Int×List Int) (ρ:=List Int) (β:=List Int) (fun o=>∃R,o=some R∧Up R∧∀x,x∈R↔(1≤x∧x≤8)∧x∈l) (fun v=>(1≤v.1∧v.1≤9)∧(v.2.length≤v.1-1∧Up v.2)∧∀x,x∈v.2↔(1≤x∧x<v.1)∧x∈l) (fun v=>9-v.1.toNat) (fun r=>Up r∧∀x,x∈r↔(1≤x∧x≤8)∧x∈l) ⟨⟨by simp,by simp⟩,⟨by simp,by simp⟩,fun x=>⟨fun h=>(by cases h),fun h=>by have:=h.1;simp only at this;omega⟩⟩ (by simp;omega) (fun r h=>⟨r,rfl,h⟩) ?_
  rintro⟨i,R⟩ ⟨⟨g1,g2⟩,⟨g3,g5⟩,g4⟩
  simp only at g1 g2 g3 g4 g5 ⊢
  by_cases h:i≤8
  · left
    rw[dT h,cnd_t,Has_eq N l i hlen hN,obind_s,wr_m (by omega) (by omega)]
    by_cases hm:i∈l
    · rw[dT hm,cnd_t,dT (show (List.length R+List.length [i])*8≤140737488355328 by rw[List.length_singleton];omega),cnd_t]
      refine⟨_,rfl,⟨⟨by omega,by omega⟩,⟨by simp only[List.length_append,List.length_singleton];omega,Up_snoc g5 fun x hx=>((g4 x).1 hx).1.2⟩,fun x=>?_⟩,by simp only;omega⟩
      simp only[List.mem_append,List.mem_singleton,g4]
      constructor
      · rintro(⟨hx,hm⟩ | rfl)
        · exact⟨by omega,hm⟩
        · exact⟨by omega,hm⟩
      · rintro⟨hx,hm2⟩
        by_cases hxi:x=i
        · exact .inr hxi
        · exact .inl ⟨by omega,hm2⟩
    · rw[dF hm,cnd_f]
      refine⟨_,rfl,⟨⟨by omega,by omega⟩,⟨by simp only;omega,g5⟩,fun x=>?_⟩,by simp only;omega⟩
      simp only[g4]
      constructor
      · rintro⟨hx,hm⟩
        exact⟨by omega,hm⟩
      · rintro⟨hx,hm2⟩
        by_cases hxi:x=i
        · exact absurd (hxi▸hm2) hm
        · exact⟨by omega,hm2⟩
  · right
    rw[dF h,cnd_f]
    refine⟨_,rfl,g5,fun x=>?_⟩
    rw[g4]
    exact⟨fun⟨a,b⟩=>⟨by omega,b⟩,fun⟨a,b⟩=>⟨by omega,b⟩⟩
theorem Rising_is (N:Nat) {l m:List Int} (hlen:l.length≤900) (hN:1000≤N) (hm:Up m) (h8:S8 m) (h:∀x,x∈l↔x∈m):W_f N l=some m:=by
  obtain⟨R,e,h1,h2⟩:=Rising_up N l hlen hN
  rw[e,Up_eq h1 hm fun x=>by rw[h2,h];exact⟨fun q=>q.2,fun q=>⟨h8 x q,q⟩⟩]
structure Pt (s a b:List Int) (lo hi:Int):Prop where
  ua:Up a
  ub:Up b
  ma:∀x∈a,x∈s
  mb:∀x∈b,x∈s
  cov:∀x∈s,x∈a∨x∈b
  dis:∀x∈a,x∉b
  len:a.length+b.length=s.length
  la:hi∉a
  lb:lo∉b
theorem Pt.swap {s a b:List Int} {lo hi:Int} (h:Pt s a b lo hi):Pt s b a hi lo:=
  ⟨h.ub,h.ua,h.mb,h.ma,fun x hx=>(h.cov x hx).symm,fun x hx hy=>h.dis x hy hx,by have:=h.len;omega,h.lb,h.la⟩
theorem Pt.toA {s a b:List Int} {lo hi x:Int} (h:Pt s a b lo hi) (hs:∀y∈s,y<x) (hx:x≠hi):Pt (s++[x]) (a++[x]) b lo hi where
  ua:=Up_snoc h.ua fun y hy=>hs y (h.ma y hy)
  ub:=h.ub
  ma:=fun y hy=>by
    rcases List.mem_append.1 hy with hy | hy
    · exact List.mem_append.2 (.inl (h.ma y hy))
    · exact List.mem_append.2 (.inr hy)
  mb:=fun y hy=>List.mem_append.2 (.inl (h.mb y hy))
  cov:=fun y hy=>by
    rcases List.mem_append.1 hy with hy | hy
    · rcases h.cov y hy with q | q
      · exact .inl (List.mem_append.2 (.inl q))
      · exact .inr q
    · exact .inl (List.mem_append.2 (.inr hy))
  dis:=fun y hy hb=>by
    rcases List.mem_append.1 hy with hy | hy
    · exact h.dis y hy hb
    · have:=hs y (h.mb y hb);rw[List.mem_singleton.1 hy] at this;omega
  len:=by have:=h.len;simp only[List.length_append,List.length_singleton];omega
  la:=fun hy=>by
    rcases List.mem_append.1 hy with hy | hy
    · exact h.la hy
    · exact hx (List.mem_singleton.1 hy).symm
  lb:=h.lb
theorem Pt.toB {s a b:List Int} {lo hi x:Int} (h:Pt s a b lo hi) (hs:∀y∈s,y<x) (hx:x≠lo):Pt (s++[x]) a (b++[x]) lo hi:=(h.swap.toA hs hx).swap
theorem Pt.give {s a b:List Int} {lo hi id:Int} (h:Pt s a b lo hi) (hid:id∈b) (hh:id≠hi):Pt s (ins a [id]) (les b id) lo hi where
  ua:=ins_up (by
    rw[List.nodup_append]
    refine⟨Up_nodup h.ua,by simp,fun x hx y hy=>?_⟩
    rw[List.mem_singleton.1 hy]
    exact fun q=>h.dis x hx (q▸hid))
  ub:=les_up h.ub
  ma:=fun x hx=>by
    rcases ins_mem.1 hx with q | q
    · exact h.ma x q
    · rw[List.mem_singleton.1 q];exact h.mb id hid
  mb:=fun x hx=>h.mb x (les_mem.1 hx).1
  cov:=fun x hx=>by
    rcases h.cov x hx with q | q
    · exact .inl (ins_mem.2 (.inl q))
    · by_cases e:x=id
      · exact .inl (ins_mem.2 (.inr (by simp[e])))
      · exact .inr (les_mem.2 ⟨q,e⟩)
  dis:=fun x hx hb=>by
    have hb:=les_mem.1 hb
    rcases ins_mem.1 hx with q | q
    · exact h.dis x q hb.1
    · exact hb.2 (List.mem_singleton.1 q)
  len:=by
    have:=h.len
    have:=les_len (Up_nodup h.ub) hid
    rw[ins_len,List.length_singleton];omega
  la:=fun q=>by
    rcases ins_mem.1 q with q | q
    · exact h.la q
    · exact hh (List.mem_singleton.1 q).symm
  lb:=fun q=>h.lb (les_mem.1 q).1
theorem ex_T {α β:Type} {p:Prop} {i:Decidable p} {x y:Option α} {P:β→Prop} {c:β→Option α} (h:p) (hx:∃b,x=c b∧P b):∃b,cnd (@decide p i) x y=c b∧P b:=by
  obtain⟨b,e,q⟩:=hx
  exact⟨b,(cnd_T h).trans e,q⟩
def Below (F:Int→Int) (P:Int→Prop) (i w:Int):Prop:=(w=0∧∀x,1≤x→x<i→¬P x)∨((1≤w∧w<i)∧P w∧∀x,1≤x→x<i→P x→F w<F x∨(F w=F x∧w≤x))
theorem Below_no {F:Int→Int} {P:Int→Prop} {i w:Int} (h:Below F P i w) (hi:¬P i):Below F P (i+1) w:=by
  have e:∀x,x<i+1→P x→x<i:=fun x hx hp=>by
    by_cases c:x=i
    · exact absurd (c▸hp) hi
    · omega
  rcases h with⟨rfl,h⟩ | ⟨h1,h2,h3⟩
  · exact .inl ⟨rfl,fun x h1 h2 hp=>h x h1 (e x h2 hp) hp⟩
  · exact .inr ⟨by omega,h2,fun x k1 k2 hp=>h3 x k1 (e x k2 hp) hp⟩
theorem Below_new {F:Int→Int} {P:Int→Prop} {i w:Int} (h1:1≤i) (h:Below F P i w) (hi:P i) (hw:w=0∨F i<F w):Below F P (i+1) i:=by
  refine .inr ⟨by omega,hi,fun x k1 k2 hp=>?_⟩
  by_cases c:x=i
  · subst c;omega
  · rcases h with⟨rfl,h⟩ | ⟨h1,h2,h3⟩
    · exact absurd hp (h x k1 (by omega))
    · have:=h3 x k1 (by omega) hp;omega
theorem Below_old {F:Int→Int} {P:Int→Prop} {i w:Int} (h:Below F P i w) (hw:¬w=0) (hw2:¬F i<F w):Below F P (i+1) w:=by
  rcases h with⟨rfl,h⟩ | ⟨h1,h2,h3⟩
  · exact absurd rfl hw
  · refine .inr ⟨by omega,h2,fun x k1 k2 hp=>?_⟩
    by_cases c:x=i
    · subst c;omega
    · exact h3 x k1 (by omega) hp
theorem Below_who {F:Int→Int} {P:Int→Prop} {l:List Int} {w:Int} (hl:S8 l) (hP:∀x,P x↔x∈l) (h:Below F P 9 w):Who F l w:=by
  rcases h with⟨rfl,h⟩ | ⟨h1,h2,h3⟩
  · refine .inl ⟨?_,rfl⟩
    cases l with
    | nil=>rfl
    | cons a t=>
      have:=hl a (List.mem_cons_self ..)
      exact absurd ((hP a).2 (List.mem_cons_self ..)) (h a (by omega) (by omega))
  · exact .inr ⟨(hP w).1 h2,fun x hx=>h3 x (hl x hx).1 (by have:=hl x hx;omega) ((hP x).2 hx)⟩
theorem Far7_eq (N:Nat) {D:List (List Int)} (hD:GD D) {a:Int} (ha:1≤a∧a≤8) {l:List Int} (hl:S8 l) (hlen:l.length≤900) (hN:1000≤N):W_at N (D,a,l)=some (far D a l):=by
  unfold W_at V_at
  try simp only
  refine loop_post (fun o=>o=some (far D a l)) (fun v=>0≤v.2∧v.2≤l.length∧v.1=far D a (l.take v.2.toNat)) (fun v=>l.length-v.2.toNat) (fun r=>r=far D a l) ⟨by simp,by simp,rfl⟩ (by simp;omega) (fun r h=>by rw[h]) ?_
  rintro⟨m,i⟩ ⟨g1,g2,g3⟩
  simp only at g1 g2 g3 ⊢
  by_cases h:i<l.length
  · left
    have hb:=hl _ (getD_mem l i.toNat (by omega))
    rw[wr_m (z:=a-1) (by omega) (by omega),wr_m (z:=l.getD i.toNat 0-1) (by omega) (by omega),row_eq hD ha,len_eq hD]
    rw[dT h,cnd_t,dT (show 0≤a-1 by omega),dT (show a-1<8 by omega),Bool.and_self,cnd_t,dT g1,Bool.and_self,cnd_t,dT (show 0≤l.getD i.toNat 0-1 by omega),dT (show l.getD i.toNat 0-1<8 by omega),Bool.and_self,cnd_t,wr_m (by omega) (by omega)]
    refine⟨_,rfl,⟨by omega,by omega,?_⟩,by omega⟩
    try simp only
    rw[show (i+1).toNat=i.toNat+1 by omega,take_snoc l _ (by omega),far_snoc,g3]
    rfl
  · right
    rw[dF h,cnd_f]
    refine⟨_,rfl,?_⟩
    rw[g3,List.take_of_length_le (by omega)]
theorem Mid7_spec (N:Nat) {D:List (List Int)} (hD:GD D) {l:List Int} (hl:S8 l) (hlen:l.length≤900) (hN:1000≤N):∃v,W_a3 N (D,l)=some v∧Who (fun x=>far D x l) l v:=by
  unfold W_a3 V_a3
  try simp only
  refine loop_post (σ:=Int×Int) (ρ:=Int) (β:=Int) (fun o=>∃v,o=some v∧Who (fun x=>far D x l) l v) (fun v=>(1≤v.2∧v.2≤9)∧Below (fun x=>far D x l) (fun x=>x∈l) v.2 v.1) (fun v=>9-v.2.toNat) (fun r=>Who (fun x=>far D x l) l r) ⟨⟨by simp,by simp⟩,.inl ⟨rfl,fun x h1 h2=>by simp only at h2;omega⟩⟩ (by simp;omega) (fun r h=>⟨r,rfl,h⟩) ?_
  rintro⟨w,i⟩ ⟨⟨g1,g2⟩,g3⟩
  simp only at g1 g2 g3 ⊢
  by_cases h:i≤8
  · left
    rw[dT h,cnd_t,Has_eq N l i hlen hN,obind_s,wr_m (by omega) (by omega)]
    by_cases hm:i∈l
    · rw[dT hm,cnd_t]
      by_cases hw:w=0
      · rw[dT hw,cnd_t]
        exact⟨_,rfl,⟨⟨by omega,by omega⟩,Below_new g1 g3 hm (.inl hw)⟩,by simp only;omega⟩
      rw[dF hw,cnd_f]
      have hw8:1≤w∧w≤8:=by
        rcases g3 with⟨h,_⟩ | ⟨h,_⟩<;>omega
      rw[Far7_eq N hD ⟨g1,h⟩ hl hlen hN,obind_s,Far7_eq N hD hw8 hl hlen hN,obind_s]
      by_cases hf:far D i l<far D w l
      · rw[dT hf,cnd_t]
        exact⟨_,rfl,⟨⟨by omega,by omega⟩,Below_new g1 g3 hm (.inr hf)⟩,by simp only;omega⟩
      · rw[dF hf,cnd_f]
        exact⟨_,rfl,⟨⟨by omega,by omega⟩,Below_old g3 hw hf⟩,by simp only;omega⟩
    · rw[dF hm,cnd_f]
      exact⟨_,rfl,⟨⟨by omega,by omega⟩,Below_no g3 hm⟩,by simp only;omega⟩
  · right
    rw[dF h,cnd_f]
    have:i=9:=by omega
    subst this
    exact⟨_,rfl,Below_who hl (fun x=>Iff.rfl) g3⟩
theorem Near7_spec (N:Nat) {D:List (List Int)} (hD:GD D) {a:Int} (ha:1≤a∧a≤8) {l:List Int} (hl:S8 l) (hlen:l.length≤900) (hN:1000≤N):∃v,W_k N (D,a,l)=some v∧Who (fun x=>G D a x) (l.filter fun x=>decide (x≠a)) v:=by
  have hfm:∀x,(x∈l∧x≠a)↔x∈l.filter fun x=>decide (x≠a):=fun x=>by rw[List.mem_filter,decide_eq_true_eq]
  have hfS:S8 (l.filter fun x=>decide (x≠a)):=fun b hb=>hl b ((hfm b).2 hb).1
  generalize (l.filter fun x=>decide (x≠a))=l' at *
  unfold W_k V_k
  try simp only
  refine loop_post (σ:=Int×Int) (ρ:=Int) (β:=Int) (fun o=>∃v,o=some v∧Who (fun x=>G D a x) l' v) (fun v=>(1≤v.2∧v.2≤9)∧Below (fun x=>G D a x) (fun x=>x∈l∧x≠a) v.2 v.1) (fun v=>9-v.2.toNat) (fun r=>Who (fun x=>G D a x) l' r) ⟨⟨by simp,by simp⟩,.inl ⟨rfl,fun x h1 h2=>by simp only at h2;omega⟩⟩ (by simp;omega) (fun r h=>⟨r,rfl,h⟩) ?_
  rintro⟨w,i⟩ ⟨⟨g1,g2⟩,g3⟩
  simp only at g1 g2 g3 ⊢
  by_cases h:i≤8
  · left
    rw[dT h,cnd_t,wr_m (z:=i+1) (by omega) (by omega)]
    by_cases hia:i=a
    · refine⟨(w,i+1),cnd_F (fun c=>c hia),⟨⟨by omega,by omega⟩,Below_no g3 (fun c=>c.2 hia)⟩,by simp only;omega⟩
    refine ex_T hia ?_
    rw[Has_eq N l i hlen hN,obind_s]
    by_cases hm:i∈l
    · rw[dT hm,cnd_t]
      by_cases hw:w=0
      · rw[dT hw,cnd_t]
        exact⟨_,rfl,⟨⟨by omega,by omega⟩,Below_new g1 g3 ⟨hm,hia⟩ (.inl hw)⟩,by simp only;omega⟩
      rw[dF hw,cnd_f]
      have hw8:1≤w∧w≤8:=by
        rcases g3 with⟨h,_⟩ | ⟨h,_⟩<;>omega
      rw[wr_m (z:=a-1) (by omega) (by omega),wr_m (z:=i-1) (by omega) (by omega),wr_m (z:=w-1) (by omega) (by omega),row_eq hD ha,len_eq hD]
      rw[dT (show 0≤a-1 by omega),dT (show a-1<8 by omega),Bool.and_self,cnd_t,dT (show 0≤i-1 by omega),dT (show i-1<8 by omega),Bool.and_self,cnd_t,cnd_t,dT (show 0≤w-1 by omega),dT (show w-1<8 by omega),Bool.and_self,cnd_t]
      by_cases hf:G D a i<G D a w
      · refine⟨(i,i+1),cnd_T hf,⟨⟨by omega,by omega⟩,Below_new g1 g3 ⟨hm,hia⟩ (.inr hf)⟩,by simp only;omega⟩
      · refine⟨(w,i+1),cnd_F hf,⟨⟨by omega,by omega⟩,Below_old g3 hw hf⟩,by simp only;omega⟩
    · rw[dF hm,cnd_f]
      exact⟨_,rfl,⟨⟨by omega,by omega⟩,Below_no g3 (fun c=>hm c.1)⟩,by simp only;omega⟩
  · right
    rw[dF h,cnd_f]
    have:i=9:=by omega
    subst this
    exact⟨_,rfl,Below_who hfS hfm g3⟩
abbrev Cl:=List Int×Int
abbrev cD:Cl:=(([]:List Int),(0:Int))
theorem take_snocC {l:List Cl} {k:Nat} (h:k<l.length):l.take (k+1)=l.take k++[l.getD k cD]:=by
  rw[List.take_succ_eq_append_getElem h,List.getD_eq_getElem?_getD,List.getElem?_eq_getElem h];rfl
theorem getD_memC {l:List Cl} {i:Nat} (h:i<l.length):l.getD i cD∈l:=by
  rw[List.getD_eq_getElem?_getD,List.getElem?_eq_getElem h];exact List.getElem_mem h
theorem filt_snoc (p:Int→Bool) (l:List Int) (x:Int):(l++[x]).filter p=if p x=true then l.filter p++[x] else l.filter p:=by
  rw[List.filter_append,List.filter_cons]
  split<;>simp
theorem without7_eq (N:Nat) (l:List Int) (k:Int) (hl:l.length≤900) (hN:1000≤N):W_u N (l,k)=some (les l k):=by
  unfold W_u V_u les
  try simp only
  refine loop_post (σ:=Int×List Int) (ρ:=List Int) (β:=List Int) (fun o=>o=some (l.filter fun x=>decide (x≠k))) (fun v=>∃i:Nat,v=((i:Int),(l.take i).filter fun x=>decide (x≠k))∧i≤l.length) (fun v=>l.length-v.1.toNat) (fun r=>r=l.filter fun x=>decide (x≠k)) ⟨0,by simp,by omega⟩ (by simp;omega) (fun r h=>by rw[h]) ?_
  rintro v ⟨i,rfl,hi⟩
  try simp only
  by_cases c:(i:Int)<l.length
  case neg=>
    right
    rw[dF c,cnd_f,List.take_of_length_le (by omega)]
    exact⟨_,rfl,rfl⟩
  left
  have htk:l.take (i+1)=l.take i++[l.getD i 0]:=take_snoc l _ (by omega)
  have la:((l.take i).filter fun x=>decide (x≠k)).length≤900:=Nat.le_trans (List.length_filter_le _ _) (by rw[List.length_take];omega)
  rw[dT c,cnd_t,dT (show (0:Int)≤(i:Int) by omega),Bool.and_self,cnd_t,Int.toNat_natCast,wr_m (z:=(i:Int)+1) (by omega) (by omega)]
  refine⟨(((i+1:Nat):Int),(l.take (i+1)).filter fun x=>decide (x≠k)),?_,⟨i+1,rfl,by omega⟩,by simp only;omega⟩
  rw[htk,filt_snoc,show ((i+1:Nat):Int)=i+1 by omega]
  generalize l.getD i 0=x at *
  generalize (l.take i).filter (fun x=>decide (x≠k))=A at *
  by_cases c1:x≠k
  · rw[dT c1,cnd_t,cnd_t,dT (show (A.length+[x].length)*8≤140737488355328 by rw[List.length_singleton];omega),cnd_t];rfl
  · rw[dF c1,cnd_f];rfl
structure Vd (l:List Int):Prop where
  s:S8 l
  u:Up l
  p:1≤l.length
  e:l.length≤8
theorem drop_getC {l:List Cl} {i:Nat} (h:i<l.length):l.drop i=l.getD i cD::l.drop (i+1):=by
  rw[List.drop_eq_getElem_cons h,List.getD_eq_getElem?_getD,List.getElem?_eq_getElem h];rfl
theorem Of7_spec (N:Nat) {D:List (List Int)} (hD:GD D) {l:List Int} (hl:S8 l) (hlen:l.length≤900) (hN:1000≤N):∃v,W_g N (D,l)=some (l,v)∧Who (fun x=>far D x l) l v:=by
  obtain⟨v,e,h⟩:=Mid7_spec N hD hl hlen hN
  refine⟨v,?_,h⟩
  unfold W_g V_g
  try simp only
  rw[cnd_T (by omega),e,obind_s]
theorem parted_eq (N:Nat) {D:List (List Int)} (hD:GD D) {k:Int} (hN:1000≤N) {st:List Cl} {i:Nat} (hi:i<st.length) (hst:st.length≤100) {a b:List Int} (hs:W_ap N (D,(st.getD i cD).1,k)=some (a,b)) (ha:S8 a) (hb:S8 b) (la:a.length≤900) (lb:b.length≤900):
    ∃v w,W_m N (D,st,(i:Int),k)=some (st.take i++[(a,v),(b,w)]++st.drop (i+1))∧Who (fun x=>far D x a) a v∧Who (fun x=>far D x b) b w:=by
  obtain⟨v,e1,w1⟩:=Of7_spec N hD ha la hN
  obtain⟨w,e2,w2⟩:=Of7_spec N hD hb lb hN
  refine⟨v,w,?_,w1,w2⟩
  unfold W_m V_m
  try simp only
  rw[dT (show (0:Int)≤(i:Int) by omega),dT (show (i:Int)<st.length by omega),Bool.and_self,cnd_t,Int.toNat_natCast]
  refine(congrArg (fun o=>obind o _) hs).trans ?_
  rw[obind_s,dT (show (i:Int)≤st.length by omega),Bool.and_self,cnd_t,List.drop_zero,cnd_T (by rw[List.length_take];omega),e1,obind_s,e2,obind_s,wr_m (z:=(i:Int)+1) (by omega) (by omega),dT (show (0:Int)≤(i:Int)+1 by omega),dT (show (i:Int)+1≤st.length by omega),Bool.and_self,List.take_length,show ((i:Int)+1).toNat=i+1 by omega]
  rw[cnd_T (by simp only[List.length_take,List.length_cons,List.length_nil];omega),cnd_t,cnd_T (by simp only[List.length_append,List.length_take,List.length_drop,List.length_cons,List.length_nil];omega)]
theorem Who_in {F:Int→Int} {l:List Int} {v:Int} (h:Who F l v) (hl:1≤l.length):v∈l:=by
  rcases h with⟨h,_⟩ | h
  · rw[h] at hl;simp at hl
  · exact h.1
structure Cs (D:List (List Int)) (cs:List Cl):Prop where
  v:∀c∈cs,Vd c.1∧Who (fun x=>far D x c.1) c.1 c.2
  d:cs.Pairwise (fun a b=>∀x∈a.1,x∉b.1)
theorem getD_eqC {cs:List Cl} {i:Nat} (h:i<cs.length):cs.getD i cD=cs[i]:=by
  rw[List.getD_eq_getElem?_getD,List.getElem?_eq_getElem h];rfl
theorem Cs.one {D:List (List Int)} {cs:List Cl} (h:Cs D cs) {i j:Nat} (hi:i<cs.length) (hj:j<cs.length) {x:Int} (h1:x∈(cs.getD i cD).1) (h2:x∈(cs.getD j cD).1):i=j:=by
  rw[getD_eqC hi] at h1
  rw[getD_eqC hj] at h2
  rcases Nat.lt_trichotomy i j with q | q | q
  · exact absurd h2 (List.pairwise_iff_getElem.1 h.d i j hi hj q x h1)
  · exact q
  · exact absurd h1 (List.pairwise_iff_getElem.1 h.d j i hj hi q x h2)
theorem mem_getDC {cs:List Cl} {c:Cl} (h:c∈cs):∃i,i<cs.length∧cs.getD i cD=c:=by
  obtain⟨i,hi,e⟩:=List.mem_iff_getElem.1 h
  exact⟨i,hi,by rw[getD_eqC hi];exact e⟩
theorem Home_at (N:Nat) {D:List (List Int)} {cs:List Cl} (h:Cs D cs) (hl:cs.length≤100) {i:Nat} (hi:i<cs.length) {x:Int} (hx:x∈(cs.getD i cD).1) (hN:1000≤N):W_d N (cs,x)=some (i:Int):=by
  unfold W_d V_d
  try simp only
  refine loop_post (σ:=Int) (ρ:=Unit⊕Int) (β:=Int) (fun o=>o=some (i:Int)) (fun v=>∃j:Nat,v=j∧j≤i) (fun v=>i+1-v.toNat) (fun r=>r=.inr (i:Int)) ⟨0,rfl,by omega⟩ (by simp;omega) (fun r hr=>by rw[hr,selim_r]) ?_
  rintro v ⟨j,rfl,hj⟩
  have hc:=(h.v _ (getD_memC (l:=cs) (i:=j) (by omega))).1.e
  rw[dT (show (j:Int)<cs.length by omega),cnd_t,dT (show (0:Int)≤(j:Int) by omega),Bool.and_self,cnd_t,Int.toNat_natCast]
  have he:=Has_eq N (cs.getD j cD).1 x (by omega) hN
  by_cases c:x∈(cs.getD j cD).1
  · right
    have:=h.one (by omega) hi c hx
    subst this
    refine⟨_,(congrArg (fun o=>obind o _) he).trans ?_,rfl⟩
    rw[obind_s,dT c,cnd_t]
  · left
    have hji:j≠i:=fun q=>c (q▸hx)
    refine⟨((j+1:Nat):Int),(congrArg (fun o=>obind o _) he).trans ?_,⟨j+1,rfl,by omega⟩,by omega⟩
    rw[obind_s,dF c,cnd_f,wr_m (by omega) (by omega)];rfl
theorem Home_no (N:Nat) {D:List (List Int)} {cs:List Cl} (h:Cs D cs) (hl:cs.length≤100) {x:Int} (hx:∀j,j<cs.length→x∉(cs.getD j cD).1) (hN:1000≤N):W_d N (cs,x)=some (-1):=by
  unfold W_d V_d
  try simp only
  refine loop_post (σ:=Int) (ρ:=Unit⊕Int) (β:=Int) (fun o=>o=some (-1)) (fun v=>∃j:Nat,v=j∧j≤cs.length) (fun v=>cs.length-v.toNat) (fun r=>r=.inl ()) ⟨0,rfl,by omega⟩ (by simp;omega) (fun r hr=>by rw[hr,selim_l]) ?_
  rintro v ⟨j,rfl,hj⟩
  by_cases c:(j:Int)<cs.length
  case neg=>right;rw[dF c,cnd_f];exact⟨_,rfl,rfl⟩
  left
  have hc:=(h.v _ (getD_memC (l:=cs) (i:=j) (by omega))).1.e
  rw[dT c,cnd_t,dT (show (0:Int)≤(j:Int) by omega),Bool.and_self,cnd_t,Int.toNat_natCast]
  have he:=Has_eq N (cs.getD j cD).1 x (by omega) hN
  refine⟨((j+1:Nat):Int),(congrArg (fun o=>obind o _) he).trans ?_,⟨j+1,rfl,by omega⟩,by omega⟩
  rw[obind_s,dF (hx j (by omega)),cnd_f,wr_m (by omega) (by omega)];rfl
def repl (o:List Cl) (p q:Nat):Nat→List Cl→List Cl
  | _,[]=>[]
  | i,c::r=>(if i=p then o else if i=q then [] else [c])++repl o p q (i+1) r
theorem repl_snoc (o:List Cl) (p q:Nat):∀(l:List Cl) (i:Nat) (c:Cl),repl o p q i (l++[c])=repl o p q i l++(if i+l.length=p then o else if i+l.length=q then [] else [c])
  | [],i,c=>by simp[repl]
  | x::r,i,c=>by
    simp only[List.cons_append,repl,repl_snoc o p q r (i+1) c,List.length_cons,List.append_assoc]
    rw[show i+1+r.length=i+(r.length+1) by omega]
theorem repl_len (o:List Cl) (p q:Nat):∀(l:List Cl) (i:Nat),(repl o p q i l).length+(if i≤p∧p<i+l.length then 1 else 0)+(if q≠p∧i≤q∧q<i+l.length then 1 else 0)=l.length+(if i≤p∧p<i+l.length then o.length else 0)
  | [],i=>by
    rw[if_neg (by simp only[List.length_nil];omega),if_neg (by simp only[List.length_nil];omega),if_neg (by simp only[List.length_nil];omega)];rfl
  | x::r,i=>by
    have ih:=repl_len o p q r (i+1)
    simp only[repl,List.length_append,List.length_cons] at ih ⊢
    by_cases c1:i=p
    · rw[if_pos c1]
      rw[if_neg (show ¬(i+1≤p∧p<i+1+r.length) by omega),if_neg (show ¬(i+1≤p∧p<i+1+r.length) by omega)] at ih
      rw[if_pos (show i≤p∧p<i+(r.length+1) by omega),if_pos (show i≤p∧p<i+(r.length+1) by omega)]
      by_cases c2:q≠p∧i+1≤q∧q<i+1+r.length
      · rw[if_pos c2] at ih;rw[if_pos (by omega)];omega
      · rw[if_neg c2] at ih;rw[if_neg (by omega)];omega
    · rw[if_neg c1]
      have e:(i≤p∧p<i+(r.length+1))↔(i+1≤p∧p<i+1+r.length):=by omega
      by_cases c3:i+1≤p∧p<i+1+r.length
      all_goals
        first | rw[if_pos c3,if_pos c3] at ih | rw[if_neg c3,if_neg c3] at ih
        first | rw[if_pos (e.2 c3),if_pos (e.2 c3)] | rw[if_neg (fun h=>c3 (e.1 h)),if_neg (fun h=>c3 (e.1 h))]
        by_cases c2:i=q
        · rw[if_pos c2]
          rw[if_neg (show ¬(q≠p∧i+1≤q∧q<i+1+r.length) by omega)] at ih
          rw[if_pos (by omega)]
          simp only[List.length_nil];omega
        · rw[if_neg c2]
          by_cases c4:q≠p∧i+1≤q∧q<i+1+r.length
          · rw[if_pos c4] at ih;rw[if_pos (by omega)];simp only[List.length_singleton];omega
          · rw[if_neg c4] at ih;rw[if_neg (by omega)];simp only[List.length_singleton];omega
theorem repl_mem (o:List Cl) (p q:Nat) (c:Cl):∀(l:List Cl) (i:Nat),c∈repl o p q i l↔((i≤p∧p<i+l.length)∧c∈o)∨∃j,j<l.length∧i+j≠p∧i+j≠q∧l.getD j cD=c
  | [],i=>by
    simp only[repl,List.not_mem_nil,List.length_nil,false_iff]
    rintro(⟨h,_⟩ | ⟨j,h,_⟩)<;>omega
  | x::r,i=>by
    have ih:=repl_mem o p q c r (i+1)
    simp only[repl,List.mem_append,ih,List.length_cons]
    constructor
    · rintro(h | ⟨h1,h2⟩ | ⟨j,h1,h2,h3,h4⟩)
      · split at h
        · exact .inl ⟨by omega,h⟩
        · split at h
          · simp at h
          · exact .inr ⟨0,by omega,by omega,by omega,(List.mem_singleton.1 h).symm⟩
      · exact .inl ⟨by omega,h2⟩
      · exact .inr ⟨j+1,by omega,by omega,by omega,h4⟩
    · rintro(⟨h1,h2⟩ | ⟨j,h1,h2,h3,h4⟩)
      · by_cases c1:i=p
        · left;rw[if_pos c1];exact h2
        · exact .inr (.inl ⟨by omega,h2⟩)
      · cases j with
        | zero=>
          left
          rw[if_neg (by omega),if_neg (by omega)]
          have:x=c:=h4
          rw[this];simp
        | succ j=>exact .inr (.inr ⟨j,by omega,by omega,by omega,h4⟩)
theorem leaders_S8 {D:List (List Int)} {cs:List Cl} (h:Cs D cs) (p:Nat):S8 ((repl [] p p 0 cs).map (fun c=>c.2)):=by
  intro x hx
  obtain⟨c,hc,rfl⟩:=List.mem_map.1 hx
  rcases (repl_mem [] p p c cs 0).1 hc with⟨_,q⟩ | ⟨j,h1,_,_,h4⟩
  · simp at q
  · have hm:=h.v c (h4▸getD_memC h1)
    exact hm.1.s _ (Who_in hm.2 hm.1.p)
theorem leaders_len (p:Nat) {cs:List Cl} (hl:cs.length≤8):((repl [] p p 0 cs).map (fun c=>c.2)).length≤8:=by
  have:=repl_len [] p p cs 0
  rw[List.length_map]
  split at this<;>split at this<;>(try simp only[List.length_nil] at this)<;>omega
theorem Up_len8:∀(l:List Int) (n:Int),n≤9→Up l→(∀x∈l,n≤x∧x≤8)→(l.length:Int)≤9-n
  | [],n,hn,_,_=>by simp;omega
  | x::r,n,hn,hu,h=>by
    have hx:=h x (by simp)
    have hp:=List.pairwise_cons.1 hu
    have:=Up_len8 r (x+1) (by omega) hp.2 (fun y hy=>⟨by have:=hp.1 y hy;omega,(h y (by simp[hy])).2⟩)
    simp only[List.length_cons];omega
theorem repl_pair {R:Cl→Cl→Prop} (o:List Cl) (p q:Nat) (ho:o.Pairwise R):∀(l:List Cl) (i:Nat),l.Pairwise R→(∀j,j<l.length→i+j≠p→i+j≠q→∀d∈o,R (l.getD j cD) d∧R d (l.getD j cD))→(repl o p q i l).Pairwise R
  | [],i,_,_=>List.Pairwise.nil
  | x::r,i,hl,h=>by
    have hp:=List.pairwise_cons.1 hl
    have ih:=repl_pair o p q ho r (i+1) hp.2 (fun j hj h1 h2 d hd=>h (j+1) (by simp only[List.length_cons];omega) (by omega) (by omega) d hd)
    simp only[repl]
    refine List.pairwise_append.2 ⟨?_,ih,fun a ha b hb=>?_⟩
    · split
      · exact ho
      · split
        · exact List.Pairwise.nil
        · exact List.pairwise_singleton _ _
    · rcases (repl_mem o p q b r (i+1)).1 hb with⟨h1,h2⟩ | ⟨j,h1,h2,h3,h4⟩
      · split at ha
        · omega
        · split at ha
          · simp at ha
          · rw[List.mem_singleton.1 ha]
            exact(h 0 (by simp) (by omega) (by omega) b h2).1
      · split at ha
        · have:=(h (j+1) (by simp only[List.length_cons];omega) (by omega) (by omega) a ha).2
          rw[show (x::r).getD (j+1) cD=b from h4] at this
          exact this
        · split at ha
          · simp at ha
          · rw[List.mem_singleton.1 ha]
            exact hp.1 b (h4▸getD_memC h1)
theorem repl_app (o:List Cl) (p q:Nat):∀(l m:List Cl) (i:Nat),repl o p q i (l++m)=repl o p q i l++repl o p q (i+l.length) m
  | [],m,i=>by simp[repl]
  | c::r,m,i=>by
    simp only[List.cons_append,repl,repl_app o p q r m (i+1),List.append_assoc,List.length_cons]
    rw[show i+1+r.length=i+(r.length+1) by omega]
theorem repl_id (o:List Cl) (p q:Nat):∀(l:List Cl) (i:Nat),(p<i∨i+l.length≤p)→(q<i∨i+l.length≤q)→repl o p q i l=l
  | [],i,_,_=>rfl
  | c::r,i,h1,h2=>by
    simp only[List.length_cons] at h1 h2
    simp only[repl]
    rw[if_neg (by omega),if_neg (by omega),repl_id o p q r (i+1) (by omega) (by omega)]
    rfl
theorem parts (l:List Cl) (i:Nat) (h:i<l.length):∃A C,l=A++l.getD i cD::C∧A.length=i:=
  ⟨l.take i,l.drop (i+1),by rw[←drop_getC h,List.take_append_drop],by rw[List.length_take];omega⟩
theorem repl_same (o:List Cl) {l:List Cl} {p:Nat} (h:p<l.length):repl o p p 0 l=l.take p++o++l.drop (p+1):=by
  obtain⟨A,C,e,ha⟩:=parts l p h
  generalize l.getD p cD=c at e
  subst e
  subst ha
  rw[repl_app,repl_id o _ _ A 0 (by omega) (by omega),Nat.zero_add]
  simp only[repl]
  rw[if_pos trivial,repl_id o _ _ C _ (by omega) (by omega),List.take_left' rfl,show A.length+1=(A++[c]).length by simp,show A++c::C=(A++[c])++C by simp,List.drop_left' rfl,List.append_assoc]
theorem getD_mid (A C:List Cl) (c:Cl) {i:Nat} (h:A.length=i):(A++c::C).getD i cD=c:=by
  subst h;simp[List.getD]
def pos (p q:Nat):Nat:=if q<p then p-1 else p
theorem repl_two (c:Cl) {l:List Cl} {p q:Nat} (hp:p<l.length) (hq:q<l.length) (hn:q≠p):
    ∃E,repl [c] p q 0 l=E∧(putL l [c] p).take q++(putL l [c] p).drop (q+1)=E∧pos p q<E.length∧E.getD (pos p q) cD=c∧E.length+1=l.length∧∀f,repl f p q 0 l=E.take (pos p q)++f++E.drop (pos p q+1):=by
  refine⟨_,rfl,?_⟩
  by_cases h:q<p
  · obtain⟨B',C,e,hb⟩:=parts l p hp
    obtain⟨A,B,e2,ha⟩:=parts B' q (by omega)
    generalize l.getD p cD=x at e
    generalize B'.getD q cD=y at e2
    subst e2
    simp only[List.length_append,List.length_cons] at hb
    subst e
    have hr:∀f,repl f p q 0 ((A++y::B)++x::C)=A++B++f++C:=by
      intro f
      rw[repl_app,repl_app,repl_id f _ _ A 0 (by omega) (by omega)]
      simp only[repl,List.length_append,List.length_cons]
      rw[if_neg (by omega),if_pos (by omega),repl_id f _ _ B _ (by omega) (by omega),if_pos (by omega),repl_id f _ _ C _ (by omega) (by omega)]
      simp only[List.nil_append,List.append_assoc]
    have hpl:putL ((A++y::B)++x::C) [c] p=(A++y::B)++c::C:=by
      unfold putL
      rw[List.take_left' (by simp;omega),show p+[c].length=((A++y::B)++[x]).length by simp;omega,show (A++y::B)++x::C=((A++y::B)++[x])++C by simp,List.drop_left' rfl]
      rfl
    rw[hpl]
    simp only[hr]
    refine⟨?_,?_,?_,?_,fun f=>?_⟩
    · rw[show (A++y::B)++c::C=A++(y::(B++c::C)) by simp,List.take_left' ha,show A++(y::(B++c::C))=(A++[y])++(B++c::C) by simp,List.drop_left' (by simp;omega)]
      simp
    · simp only[pos,if_pos h,List.length_append,List.length_cons,List.length_nil];omega
    · rw[pos,if_pos h,show A++B++[c]++C=(A++B)++(c::C) by simp]
      exact getD_mid _ _ _ (by rw[List.length_append];omega)
    · simp only[List.length_append,List.length_cons,List.length_nil];omega
    · rw[pos,if_pos h,show A++B++[c]++C=(A++B)++(c::C) by simp,List.take_left' (by rw[List.length_append];omega),show (A++B)++(c::C)=(A++B++[c])++C by simp,List.drop_left' (by simp only[List.length_append,List.length_cons,List.length_nil];omega)]
  · obtain⟨B',C,e,hb⟩:=parts l q hq
    obtain⟨A,B,e2,ha⟩:=parts B' p (by omega)
    generalize l.getD q cD=y at e
    generalize B'.getD p cD=x at e2
    subst e2
    simp only[List.length_append,List.length_cons] at hb
    subst e
    have hr:∀f,repl f p q 0 ((A++x::B)++y::C)=A++f++B++C:=by
      intro f
      rw[repl_app,repl_app,repl_id f _ _ A 0 (by omega) (by omega)]
      simp only[repl,List.length_append,List.length_cons]
      rw[if_pos (by omega),repl_id f _ _ B _ (by omega) (by omega),if_neg (by omega),if_pos (by omega),repl_id f _ _ C _ (by omega) (by omega)]
      simp only[List.nil_append,List.append_assoc]
    have hpl:putL ((A++x::B)++y::C) [c] p=(A++c::B)++y::C:=by
      unfold putL
      rw[show (A++x::B)++y::C=A++(x::(B++y::C)) by simp,List.take_left' ha,show A++(x::(B++y::C))=(A++[x])++(B++y::C) by simp,List.drop_left' (by simp;omega)]
      simp
    rw[hpl]
    simp only[hr]
    refine⟨?_,?_,?_,?_,fun f=>?_⟩
    · rw[List.take_left' (by simp;omega),show (A++c::B)++y::C=(A++c::B++[y])++C by simp,List.drop_left' (by simp;omega)]
      simp
    · simp only[pos,if_neg h,List.length_append,List.length_cons,List.length_nil];omega
    · rw[pos,if_neg h,show A++[c]++B++C=A++(c::(B++C)) by simp]
      exact getD_mid _ _ _ ha
    · simp only[List.length_append,List.length_cons,List.length_nil];omega
    · rw[pos,if_neg h,show A++[c]++B++C=A++(c::(B++C)) by simp,List.take_left' ha,show A++(c::(B++C))=(A++[c])++(B++C) by simp,List.drop_left' (by simp;omega)]
      simp
theorem Cs_len {D:List (List Int)} {cs:List Cl} (h:Cs D cs):cs.length≤8:=by
  have hm:∀c∈cs,c.2∈c.1:=fun c hc=>Who_in (h.v c hc).2 (h.v c hc).1.p
  have hn:(cs.map fun c=>c.2).Nodup:=by
    refine List.pairwise_map.2 (h.d.imp_of_mem fun {a b} ha hb hd e=>hd _ (hm a ha) ?_)
    rw[e];exact hm b hb
  have hu:Up (ins (cs.map fun c=>c.2) []):=ins_up (by rw[List.append_nil];exact hn)
  have:=Up_len8 _ 1 (by omega) hu (fun x hx=>by
    rcases ins_mem.1 hx with q | q
    · obtain⟨c,hc,rfl⟩:=List.mem_map.1 q
      exact(h.v c hc).1.s _ (hm c hc)
    · cases q)
  rw[ins_len,List.length_map,List.length_nil] at this
  omega
theorem Cs_repl {D:List (List Int)} {cs fit:List Cl} (h:Cs D cs) (hf:Cs D fit) (p q:Nat) (hd:∀j,j<cs.length→j≠p→j≠q→∀c∈fit,∀x∈c.1,x∉(cs.getD j cD).1):Cs D (repl fit p q 0 cs):=by
  refine⟨fun c hc=>?_,repl_pair fit p q hf.d cs 0 h.d fun j hj h1 h2 d hdm=>?_⟩
  · rcases (repl_mem fit p q c cs 0).1 hc with⟨_,q⟩ | ⟨j,h1,_,_,h4⟩
    · exact hf.v c q
    · exact h.v c (h4▸getD_memC h1)
  · have:=hd j hj (by omega) (by omega) d hdm
    exact⟨fun x hx hx2=>this x hx2 hx,this⟩
theorem set_putM:∀(l:List Cl) (i:Nat) (x:Cl),i<l.length→l.set i x=putL l [x] i
  | [],i,x,h=>by simp at h
  | y::r,0,x,h=>by simp[putL]
  | y::r,i+1,x,h=>by
    have:=set_putM r i x (by simpa using h)
    simp only[putL,List.length_singleton] at this ⊢
    simp only[List.set_cons_succ,this,List.take_succ_cons,List.cons_append]
    rw[show i+1+1=(i+1)+1 from rfl,List.drop_succ_cons]
theorem put_td (l:List Cl) (c:Cl) {p:Nat} (h:p<l.length):(putL l [c] p).getD p cD=c∧(putL l [c] p).take p=l.take p∧(putL l [c] p).drop (p+1)=l.drop (p+1)∧(putL l [c] p).length=l.length∧(∀q,q≠p→(putL l [c] p).getD q cD=l.getD q cD)∧(∀d,putL (putL l [c] p) [d] p=putL l [d] p)∧putL l [c] p=repl [c] p p 0 l:=by
  have e:∀d,putL l [d] p=l.set p d:=fun d=>(set_putM l p d h).symm
  refine⟨?_,?_,?_,?_,fun q hq=>?_,fun d=>?_,?_⟩
  · rw[e];simp[List.getD,h]
  · rw[e,List.take_set_of_le (by omega)]
  · rw[e,List.drop_set_of_lt (by omega)]
  · rw[e,List.length_set]
  · rw[e];simp only[List.getD,List.getElem?_set_ne (Ne.symm hq)]
  · rw[←set_putM (putL l [c] p) p d (by rw[e,List.length_set];exact h),e,e,List.set_set]
  · rw[repl_same _ h];unfold putL;simp
def Z0 (D:List (List Int)):Prop:=∀i,i<8→gd D i i=0
def In (cs:List Cl) (x:Int):Prop:=∃c∈cs,x∈c.1
theorem In_at {cs:List Cl} {x:Int} (h:In cs x):∃p,p<cs.length∧x∈(cs.getD p cD).1:=by
  obtain⟨c,hc,hx⟩:=h
  obtain⟨i,hi,e⟩:=mem_getDC hc
  exact⟨i,hi,by rw[e];exact hx⟩
theorem In_of {cs:List Cl} {x:Int} {p:Nat} (hp:p<cs.length) (h:x∈(cs.getD p cD).1):In cs x:=⟨_,getD_memC hp,h⟩
abbrev Lv:=List (List Cl)
abbrev Hr:=Int×List (List Int)×Lv
def lead (cs:List Cl):List Int:=ins [] (cs.map fun c=>c.2)
theorem lead_mem {cs:List Cl} {x:Int}:x∈lead cs↔∃c∈cs,c.2=x:=by
  unfold lead
  rw[ins_mem,List.mem_map]
  exact⟨fun q=>Or.elim q (fun q=>by cases q) (fun q=>q),.inr⟩
theorem lead_len {cs:List Cl}:(lead cs).length=cs.length:=by
  unfold lead
  rw[ins_len,List.length_map,List.length_nil];omega
theorem lead_in {D:List (List Int)} {cs:List Cl} (h:Cs D cs) {c:Cl} (hc:c∈cs):c.2∈c.1:=Who_in (h.v c hc).2 (h.v c hc).1.p
theorem lead_Vd {D:List (List Int)} {cs:List Cl} (h:Cs D cs) (h1:1≤cs.length):Vd (lead cs):=by
  have hn:(cs.map fun c=>c.2).Nodup:=by
    refine List.pairwise_map.2 (h.d.imp_of_mem fun {a b} ha hb hd e=>hd _ (lead_in h ha) ?_)
    rw[e];exact lead_in h hb
  have hs:S8 (lead cs):=fun x hx=>by
    obtain⟨c,hc,rfl⟩:=lead_mem.1 hx
    exact(h.v c hc).1.s _ (lead_in h hc)
  have hl:=Cs_len h
  exact⟨hs,ins_up (by simpa using hn),by rw[lead_len];exact h1,by rw[lead_len];exact hl⟩
theorem cut_lo (n m p:Nat):Prod.fst (Prod.snd (cutT (0:Nat) n m none (some (p:Int))))=0:=by simp[cutT]
theorem cut_hi (n m p:Nat):Prod.snd (Prod.snd (cutT (0:Nat) n m none (some (p:Int))))=p:=by simp[cutT]
theorem cut_lo2 (n m p:Nat):Prod.fst (Prod.snd (cutT (0:Nat) n m (some ((p:Int)+1)) none))=p+1:=by simp only[cutT,Option.getD_some];omega
theorem cut_hi2 (n m p:Nat):Prod.snd (Prod.snd (cutT (0:Nat) n m (some ((p:Int)+1)) none))=n:=by simp[cutT]
theorem g_none (z:Int):Option.getD (none:Option Int) z=z:=by cases z<;>rfl
theorem g_some (y z:Int):Option.getD (some y) z=y:=by cases z<;>rfl
theorem z_add (n:Nat):0+n=n:=by omega
theorem s_zero (n:Nat):n-0=n:=by omega
theorem d_zero (l:List Cl):l.drop 0=l:=by cases l<;>rfl
theorem rMay_eq (N:Nat) {D:List (List Int)} (hD:GD D) (h0:Z0 D) (hN:1000≤N):W_o N D=some true:=by
  have hl:=hD.len
  unfold W_o V_o
  try simp only
  rw[dF (show ¬(D.length:Int)≠8 by omega),cnd_f]
  refine loop_post (σ:=Int) (ρ:=Unit⊕Bool) (β:=Bool) (fun o=>o=some true) (fun v=>∃i:Nat,v=i∧i≤8) (fun v=>8-v.toNat) (fun r=>r=.inl ()) ⟨0,rfl,by omega⟩ (by simp;omega) ?_ ?_
  rotate_left
  · rintro v ⟨i,rfl,hi⟩
    by_cases c:(i:Int)<D.length
    case neg=>right;rw[dF c,cnd_f];exact⟨_,rfl,rfl⟩
    left
    have hr:=hD.row i (by omega)
    refine⟨((i+1:Nat):Int),?_,⟨i+1,rfl,by omega⟩,by omega⟩
    rw[dT c,cnd_t,dT (show (0:Int)≤(i:Int) by omega),Bool.and_self,cnd_t,Int.toNat_natCast,dF (show ¬((D.getD i []).length:Int)≠8 by omega),cnd_f,wr_m (by omega) (by omega)]
    rfl
  rintro r rfl
  rw[selim_l]
  refine loop_post (σ:=Int) (ρ:=Unit⊕Bool) (β:=Bool) (fun o=>o=some true) (fun v=>∃i:Nat,v=i∧i≤8) (fun v=>8-v.toNat) (fun r=>r=.inl ()) ⟨0,rfl,by omega⟩ (by simp;omega) (fun r h=>by rw[h,selim_l]) ?_
  rintro v ⟨i,rfl,hi⟩
  by_cases c:(i:Int)<D.length
  case neg=>right;rw[dF c,cnd_f];exact⟨_,rfl,rfl⟩
  left
  have hr:=hD.row i (by omega)
  rw[dT c,cnd_t]
  refine loop_post (σ:=Int) (ρ:=Unit⊕Bool) (β:=Int⊕(Unit⊕Bool)) (fun o=>∃y:Int,o=some (.inl y)∧(∃i:Nat,y=i∧i≤8)∧8-y.toNat<8-i) (fun v=>∃j:Nat,v=j∧j≤8) (fun v=>8-v.toNat) (fun r=>r=.inl ()) ⟨0,rfl,by omega⟩ (by simp;omega) (fun r h=>?_) ?_
  · rw[h,selim_l,wr_m (by omega) (by omega)]
    exact⟨_,rfl,⟨i+1,by omega,by omega⟩,by omega⟩
  rintro v ⟨j,rfl,hj⟩
  by_cases c2:(j:Int)<D.length
  case neg=>right;rw[dF c2,cnd_f];exact⟨_,rfl,rfl⟩
  left
  have hr2:=hD.row j (by omega)
  have g1:=hD.rng i j (by omega) (by omega)
  have g2:=hD.sym i j (by omega) (by omega)
  have g3:=h0 i (by omega)
  refine⟨((j+1:Nat):Int),?_,⟨j+1,rfl,by omega⟩,by omega⟩
  unfold gd at g1 g2 g3
  simp only[Int.toNat_natCast,hr,hr2,dT c,dT c2,dT (show (0:Int)≤(i:Int) by omega),dT (show (0:Int)≤(j:Int) by omega),dT (show (i:Int)<((8:Nat):Int) by omega),dT (show (j:Int)<((8:Nat):Int) by omega),Bool.and_self,cnd_t]
  rw[dF (show ¬(D.getD i []).getD j 0<0 by omega),cnd_f,dF (show ¬1000<(D.getD i []).getD j 0 by omega),cnd_f,wr_m (by omega) (by omega)]
  refine(cnd_F (fun q=>q g2)).trans ?_
  by_cases e:i=j
  · subst e
    refine(cnd_T rfl).trans ((cnd_F (fun q=>q g3)).trans ?_);rfl
  · refine(cnd_F (by omega)).trans ?_;rfl
theorem rleaders_eq (N:Nat) {D:List (List Int)} {cs:List Cl} (h:Cs D cs) (h1:1≤cs.length) (hN:1000≤N):W_aC N cs=some (lead cs):=by
  have hl:=Cs_len h
  have hV:=lead_Vd h h1
  unfold W_aC V_aC
  try simp only
  refine loop_post (σ:=Int×List Int) (ρ:=List Int) (β:=List Int) (fun o=>o=some (lead cs)) (fun v=>∃i:Nat,v=((i:Int),(cs.take i).map fun c=>c.2)∧i≤cs.length) (fun v=>cs.length-v.1.toNat) (fun r=>r=cs.map fun c=>c.2) ⟨0,by simp,by omega⟩ (by simp;omega) ?_ ?_
  · rintro r rfl
    rw[Rising_is N (m:=lead cs) (by rw[List.length_map];omega) hN hV.u hV.s (fun x=>by rw[lead_mem,List.mem_map]),obind_s]
  · rintro v ⟨i,rfl,hi⟩
    try simp only
    by_cases c:(i:Int)<cs.length
    case neg=>right;rw[dF c,cnd_f,List.take_of_length_le (by omega)];exact⟨_,rfl,rfl⟩
    left
    refine⟨(((i+1:Nat):Int),(cs.take (i+1)).map fun c=>c.2),?_,⟨i+1,rfl,by omega⟩,by simp only;omega⟩
    rw[dT c,cnd_t,dT (show (0:Int)≤(i:Int) by omega),Bool.and_self,cnd_t,Int.toNat_natCast,cnd_T (by rw[List.length_map,List.length_take];omega),wr_m (by omega) (by omega),take_snocC (by omega),List.map_append]
    rfl
theorem above_nil (N:Nat) (hN:1000≤N) (k:Int) (D:List (List Int)) (K:Lv):W_w N ((k,D,K),[])=some (k,D,[]):=by
  obtain⟨M,rfl⟩:∃M,N=M+1:=⟨N-1,by omega⟩
  rfl
theorem loopG {σ ρ:Type} {f:σ→Option (σ⊕ρ)} (I:Nat→σ→Prop) (B:Nat) (J:ρ→Prop) (hb:∀k x,I k x→k≤B) (hs:∀k x,I k x→(∃y,f x=some (.inl y)∧I (k+1) y)∨∃r,f x=some (.inr r)∧J r):
    ∀(M k:Nat) (x:σ),I k x→B<M+k→∃r,loopN M f x=some r∧J r
  | 0,k,x,h,hm=>by have:=hb k x h;omega
  | M+1,k,x,h,hm=>by
    rcases hs k x h with⟨y,h1,h2⟩ | ⟨r,h1,h2⟩
    · obtain⟨r,h4,h5⟩:=loopG I B J hb hs M (k+1) y h2 (by omega)
      exact⟨r,by simp only[loopN,h1];exact h4,h5⟩
    · exact⟨r,by simp only[loopN,h1],h2⟩
theorem up_lt {l:List Int} (hu:Up l) {i j:Nat} (h:i<j) (hj:j<l.length):l.getD i 0<l.getD j 0:=by
  rw[List.getD_eq_getElem?_getD,List.getElem?_eq_getElem (by omega),List.getD_eq_getElem?_getD,List.getElem?_eq_getElem hj]
  exact List.pairwise_iff_getElem.1 hu i j (by omega) hj h
theorem hand7 (N:Nat) {D:List (List Int)} (hD:GD D) {s p q:List Int} {u v k:Int} (hs:S8 s) (hsl:s.length≤8) (hu:u∈s) (hk:1≤k) (g3:Pt s p q u v) (h2:k<q.length) (hN:1000≤N):
    ∃id,W_k N (D,u,les q v)=some id∧W_f N (p++[id])=some (ins p [id])∧id∈les q v∧Pt s (ins p [id]) (les q id) u v:=by
  have hlen:=g3.len
  have hS:S8 (les q v):=fun x hx=>hs x (g3.mb x (les_mem.1 hx).1)
  have hL:(les q v).length≤900:=by have:=les_le (l:=q) (k:=v);omega
  obtain⟨id,e',hw⟩:=Near7_spec N hD (hs u hu) (l:=les q v) hS hL hN
  have hid:id∈les q v:=by
    rcases hw with⟨h,_⟩ | h
    · exfalso
      have hq:2≤q.length:=by omega
      have:∃y,y∈les q v:=by
        by_cases hv:v∈q
        · have:=les_len (Up_nodup g3.ub) hv
          obtain⟨y,hy⟩:=List.exists_mem_of_length_pos (show 0<(les q v).length by omega)
          exact⟨y,hy⟩
        · obtain⟨y,hy⟩:=List.exists_mem_of_length_pos (show 0<q.length by omega)
          exact⟨y,les_mem.2 ⟨hy,fun c=>hv (c▸hy)⟩⟩
      obtain⟨y,hy⟩:=this
      have:y∈(les q v).filter fun x=>decide (x≠u):=by
        rw[List.mem_filter,decide_eq_true_eq]
        exact⟨hy,fun c=>g3.lb (c▸(les_mem.1 hy).1)⟩
      rw[h] at this
      cases this
    · exact(List.mem_filter.1 h.1).1
  have hid2:=les_mem.1 hid
  have hP:=g3.give hid2.1 hid2.2
  exact⟨id,e',Rising_is N (by rw[List.length_append,List.length_singleton];omega) hN hP.ua (fun x hx=>hs x (hP.ma x hx)) (fun x=>by rw[ins_mem,List.mem_append]),hid,hP⟩
theorem Split7_spec (N:Nat) {D:List (List Int)} (hD:GD D) {l:List Int} {k:Int} (h:Vd l) (h2:2≤l.length) (hk:1≤k) (hN:1000≤N):∃a b lo hi,W_ap N (D,l,k)=some (a,b)∧Pt l a b lo hi∧lo∈l∧hi∈l:=by
  have hl:=h.s
  have h8:=h.e
  have hDl:=len_eq hD
  unfold W_ap V_ap
  try simp only
  rw[dF (show ¬(l.length:Int)<2 by omega),cnd_f]
  refine loop_post (σ:=Int×Int×Int) (ρ:=Int×Int) (β:=List Int×List Int) (fun o=>∃a b lo hi,o=some (a,b)∧Pt l a b lo hi∧lo∈l∧hi∈l) (fun v=>∃i:Nat,v.2.2=i∧i≤l.length∧(v.1=0∧i=0∨(v.1∈l∧v.2.1∈l∧v.1<v.2.1))) (fun v=>l.length-v.2.2.toNat) (fun r=>r.1∈l∧r.2∈l∧r.1<r.2) ⟨0,rfl,by omega,.inl ⟨rfl,rfl⟩⟩ (by simp;omega) ?_ ?_
  rotate_left
  · rintro⟨p,q,i'⟩ ⟨i,hi',hi,hpq⟩
    simp only at hi' hpq ⊢
    subst hi'
    by_cases c:(i:Int)<l.length
    case neg=>
      right
      rw[dF c,cnd_f]
      refine⟨_,rfl,?_⟩
      rcases hpq with⟨_,q⟩ | q
      · omega
      · exact q
    left
    have him:=getD_mem l i (by omega)
    rw[dT c,cnd_t,wr_m (z:=(i:Int)+1) (by omega) (by omega),dT (show (0:Int)≤(i:Int) by omega),Bool.and_self,Int.toNat_natCast]
    have hord:=fun j (q1:i<j) (q2:j<l.length)=>up_lt h.u q1 q2
    obtain⟨a,ha⟩:∃a,l.getD i 0=a:=⟨_,rfl⟩
    rw[ha] at him hord ⊢
    have ha8:=hl a him
    refine loop_post (σ:=Int×Int×Int) (ρ:=Int×Int) (β:=(Int×Int×Int)⊕(Int×Int)) (fun o=>∃y:Int×Int×Int,o=some (.inl y)∧(∃i:Nat,y.2.2=i∧i≤l.length∧(y.1=0∧i=0∨(y.1∈l∧y.2.1∈l∧y.1<y.2.1)))∧l.length-y.2.2.toNat<l.length-i)
      (fun v=>∃j:Nat,v.2.2=j∧i+1≤j∧j≤l.length∧(v.1=0∧i=0∧j=1∨(v.1∈l∧v.2.1∈l∧v.1<v.2.1))) (fun v=>l.length-v.2.2.toNat) (fun r=>r.1∈l∧r.2∈l∧r.1<r.2)
      ⟨i+1,by simp,by omega,by omega,by rcases hpq with⟨q1,q2⟩ | q;exact .inl ⟨q1,q2,by omega⟩;exact .inr q⟩ (by simp;omega) (fun r hr=>⟨_,rfl,⟨i+1,by simp,by omega,.inr hr⟩,by simp only;omega⟩) ?_
    rintro⟨p1,q1,j'⟩ ⟨j,hj',hj1,hj,hpq1⟩
    simp only at hj' hpq1 ⊢
    subst hj'
    by_cases c2:(j:Int)<l.length
    case neg=>
      right
      rw[dF c2,cnd_f]
      refine⟨_,rfl,?_⟩
      rcases hpq1 with⟨_,_,q⟩ | q
      · omega
      · exact q
    left
    have hb:=getD_mem l j (by omega)
    have hab:=hord j (by omega) (by omega)
    have hb8:=hl _ hb
    rw[dT c2,cnd_t,wr_m (z:=(j:Int)+1) (by omega) (by omega),dT (show (0:Int)≤(j:Int) by omega),Bool.and_self,Int.toNat_natCast]
    generalize l.getD j 0=b at *
    by_cases c0:p1=0
    · rw[dT c0,cnd_t,cnd_t,cnd_t]
      exact⟨_,rfl,⟨j+1,by simp,by omega,by omega,.inr ⟨him,hb,hab⟩⟩,by simp only;omega⟩
    obtain⟨hp1,hq1,hlt⟩:=hpq1.resolve_left fun q=>c0 q.1
    have hp8:=hl _ hp1
    have hq8:=hl _ hq1
    have ra:=row_eq hD ha8
    have rp:=row_eq hD hp8
    rw[dF c0,cnd_f,cnd_t,wr_m (z:=a-1) (by omega) (by omega),wr_m (z:=b-1) (by omega) (by omega),wr_m (z:=p1-1) (by omega) (by omega),wr_m (z:=q1-1) (by omega) (by omega),dT (show 0≤a-1 by omega),dT (show a-1<(D.length:Int) by omega),Bool.and_self,cnd_t,cnd_t,dT (show 0≤b-1 by omega),dT (show b-1<((D.getD (a-1).toNat []).length:Int) by omega),Bool.and_self,cnd_t,dT (show 0≤p1-1 by omega),dT (show p1-1<(D.length:Int) by omega),Bool.and_self,cnd_t,dT (show 0≤q1-1 by omega),dT (show q1-1<((D.getD (p1-1).toNat []).length:Int) by omega),Bool.and_self,cnd_t]
    show (∃y,cnd (decide (G D p1 q1<G D a b)) _ _=_∧_)
    by_cases hc:G D p1 q1<G D a b
    · rw[dT hc,cnd_t,cnd_t,cnd_t]
      exact⟨_,rfl,⟨j+1,by simp,by omega,by omega,.inr ⟨him,hb,hab⟩⟩,by simp only;omega⟩
    · rw[dF hc,cnd_f]
      exact⟨_,rfl,⟨j+1,by simp,by omega,by omega,.inr ⟨hp1,hq1,hlt⟩⟩,by simp only;omega⟩
  rintro⟨u,v⟩ ⟨hu,hv,huv⟩
  simp only at hu hv huv ⊢
  have hu8:=hl u hu
  have hv8:=hl v hv
  refine loop_post (σ:=Int×List Int×List Int) (ρ:=List Int×List Int) (β:=List Int×List Int) (fun o=>∃a b lo hi,o=some (a,b)∧Pt l a b lo hi∧lo∈l∧hi∈l) (fun s=>∃i:Nat,s.1=i∧i≤l.length∧Pt (l.take i) s.2.1 s.2.2 u v) (fun s=>l.length-s.1.toNat) (fun r=>Pt l r.1 r.2 u v) ⟨0,rfl,by omega,⟨by simp,by simp,by simp,by simp,by simp,by simp,by simp,by simp,by simp⟩⟩ (by simp;omega) ?_ ?_
  rotate_left
  · rintro⟨i',A,B⟩ ⟨i,hi',hi,hP⟩
    simp only at hi' hP ⊢
    subst hi'
    by_cases c:(i:Int)<l.length
    case neg=>
      right
      rw[dF c,cnd_f]
      rw[List.take_of_length_le (by omega)] at hP
      exact⟨_,rfl,hP⟩
    left
    have hx:=getD_mem l i (by omega)
    have hx8:=hl _ hx
    have htk:l.take (i+1)=l.take i++[l.getD i 0]:=take_snoc l _ (by omega)
    have hlt:∀y∈l.take i,y<l.getD i 0:=fun y hy=>by
      have hq:Up (l.take (i+1)):=List.Pairwise.take h.u
      rw[htk,Up,List.pairwise_append] at hq
      exact hq.2.2 y hy _ (List.mem_singleton.2 rfl)
    have hln:=hP.len
    rw[List.length_take] at hln
    rw[dT c,cnd_t,dT (show (0:Int)≤(i:Int) by omega),Bool.and_self,cnd_t,Int.toNat_natCast,wr_m (z:=(i:Int)+1) (by omega) (by omega)]
    generalize l.getD i 0=x at *
    have ca:(A.length+[x].length)*8≤140737488355328:=by rw[List.length_singleton];omega
    have cb:(B.length+[x].length)*8≤140737488355328:=by rw[List.length_singleton];omega
    have rx:=row_eq hD hx8
    have toA:x≠v→∃y:Int×List Int×List Int,(some (.inl ((i:Int)+1,A++[x],B)):Option ((Int×List Int×List Int)⊕(List Int×List Int)))=some (.inl y)∧(∃i:Nat,y.1=i∧i≤l.length∧Pt (l.take i) y.2.1 y.2.2 u v)∧l.length-y.1.toNat<l.length-i:=
      fun q=>⟨_,rfl,⟨i+1,by simp,by omega,by rw[htk];exact hP.toA hlt q⟩,by simp only;omega⟩
    have toB:x≠u→∃y:Int×List Int×List Int,(some (.inl ((i:Int)+1,A,B++[x])):Option ((Int×List Int×List Int)⊕(List Int×List Int)))=some (.inl y)∧(∃i:Nat,y.1=i∧i≤l.length∧Pt (l.take i) y.2.1 y.2.2 u v)∧l.length-y.1.toNat<l.length-i:=
      fun q=>⟨_,rfl,⟨i+1,by simp,by omega,by rw[htk];exact hP.toB hlt q⟩,by simp only;omega⟩
    rw[dT ca,dT cb]
    by_cases c2:x=v
    · rw[dF (fun q:x≠v=>q c2),cnd_f,cnd_t];exact toB (by omega)
    rw[dT c2,cnd_t]
    by_cases c1:x=u
    · rw[dT c1,cnd_t,cnd_t];exact toA (by omega)
    rw[dF c1,cnd_f,wr_m (z:=x-1) (by omega) (by omega),wr_m (z:=u-1) (by omega) (by omega),wr_m (z:=v-1) (by omega) (by omega),dT (show 0≤x-1 by omega),dT (show x-1<(D.length:Int) by omega),Bool.and_self,cnd_t,dT (show 0≤u-1 by omega),dT (show u-1<((D.getD (x-1).toNat []).length:Int) by omega),Bool.and_self,cnd_t,cnd_t,dT (show 0≤v-1 by omega),dT (show v-1<((D.getD (x-1).toNat []).length:Int) by omega),Bool.and_self,cnd_t]
    show (∃y,cnd (decide (G D x u≤G D x v)) _ _=_∧_)
    by_cases c3:G D x u≤G D x v
    · rw[dT c3,cnd_t,cnd_t];exact toA c2
    · rw[dF c3,cnd_f,cnd_t];exact toB c1
  rintro⟨A,B⟩ hP
  simp only at hP ⊢
  -- the two that are too few are given to
  refine loop_post (σ:=List Int×List Int) (ρ:=List Int×List Int) (β:=List Int×List Int) (fun o=>∃a b lo hi,o=some (a,b)∧Pt l a b lo hi∧lo∈l∧hi∈l) (fun s=>Pt l s.1 s.2 u v) (fun s=>s.2.length) (fun r=>Pt l r.1 r.2 u v) hP (by have:=hP.len;simp only;omega) ?_ ?_
  rotate_left
  · rintro⟨A,B⟩ hP
    simp only at hP ⊢
    have hln:=hP.len
    by_cases c1:(A.length:Int)<k
    case neg=>right;rw[dF c1,cnd_f];exact⟨_,rfl,hP⟩
    rw[dT c1,cnd_t]
    by_cases c2:k<(B.length:Int)
    case neg=>right;rw[dF c2,cnd_f];exact⟨_,rfl,hP⟩
    left
    obtain⟨id,e1,e2,hid,hP2⟩:=hand7 N hD hl h8 hu hk hP c2 hN
    rw[dT c2,cnd_t,without7_eq N B v (by omega) hN,obind_s,e1,obind_s,dT (show (A.length+[id].length)*8≤140737488355328 by rw[List.length_singleton];omega),cnd_t,e2,obind_s,without7_eq N B id (by omega) hN,obind_s]
    refine⟨_,rfl,hP2,?_⟩
    have:=les_len (Up_nodup hP.ub) (les_mem.1 hid).1
    simp only;omega
  rintro⟨A,B⟩ hP
  simp only at hP ⊢
  refine loop_post (σ:=List Int×List Int) (ρ:=List Int×List Int) (β:=List Int×List Int) (fun o=>∃a b lo hi,o=some (a,b)∧Pt l a b lo hi∧lo∈l∧hi∈l) (fun s=>Pt l s.1 s.2 u v) (fun s=>s.1.length) (fun r=>Pt l r.1 r.2 u v) hP (by have:=hP.len;simp only;omega) (fun r hr=>⟨r.1,r.2,u,v,rfl,hr,hu,hv⟩) ?_
  rintro⟨A,B⟩ hP
  simp only at hP ⊢
  have hln:=hP.len
  by_cases c1:(B.length:Int)<k
  case neg=>right;rw[dF c1,cnd_f];exact⟨_,rfl,hP⟩
  rw[dT c1,cnd_t]
  by_cases c2:k<(A.length:Int)
  case neg=>right;rw[dF c2,cnd_f];exact⟨_,rfl,hP⟩
  left
  obtain⟨id,e1,e2,hid,hP2⟩:=hand7 N hD hl h8 hv hk hP.swap c2 hN
  rw[dT c2,cnd_t,without7_eq N A u (by omega) hN,obind_s,e1,obind_s,dT (show (B.length+[id].length)*8≤140737488355328 by rw[List.length_singleton];omega),cnd_t,e2,obind_s,without7_eq N A id (by omega) hN,obind_s]
  refine⟨_,rfl,hP2.swap,?_⟩
  have:=les_len (Up_nodup hP.ua) (les_mem.1 hid).1
  simp only;omega
structure Gs (D:List (List Int)) (l:List Int) (st:List Cl):Prop where
  c:Cs D st
  m:∀x,In st x↔x∈l
  n:(st.flatMap fun c=>c.1).length=l.length
  w:2≤l.length→∃c∈st,2≤c.1.length
  ne:1≤st.length
theorem flat_ge:∀(st:List Cl),(∀c∈st,1≤c.1.length)→st.length≤(st.flatMap fun c=>c.1).length
  | [],_=>by simp
  | c::r,h=>by
    have h1:=h c (List.mem_cons_self ..)
    have h2:=flat_ge r fun d hd=>h d (List.mem_cons_of_mem _ hd)
    rw[List.flatMap_cons,List.length_append,List.length_cons];omega
theorem flat_gt:∀(st:List Cl),(∀c∈st,1≤c.1.length)→(∃c∈st,2≤c.1.length)→st.length<(st.flatMap fun c=>c.1).length
  | [],_,h=>by obtain⟨c,hc,_⟩:=h;cases hc
  | c::r,h,⟨d,hd,h2⟩=>by
    have h1:=h c (List.mem_cons_self ..)
    have hr:=fun d hd=>h d (List.mem_cons_of_mem c hd)
    rw[List.flatMap_cons,List.length_append,List.length_cons]
    rcases List.mem_cons.1 hd with rfl | hd
    · have:=flat_ge r hr;omega
    · have:=flat_gt r hr ⟨d,hd,h2⟩;omega
theorem Gs.p {D:List (List Int)} {l:List Int} {st:List Cl} (h:Gs D l st):st.length≤8∧st.length≤l.length∧(2≤l.length→st.length<l.length):=by
  have h1:∀c∈st,1≤c.1.length:=fun c hc=>(h.c.v c hc).1.p
  have:=flat_ge st h1
  have hn:=h.n
  exact⟨Cs_len h.c,by omega,fun q=>by have:=flat_gt st h1 (h.w q);omega⟩
theorem st_split {st:List Cl} {i:Nat} (hi:i<st.length):st=st.take i++(st.getD i cD::st.drop (i+1)):=by
  rw[←drop_getC hi,List.take_append_drop]
theorem parted_spec (N:Nat) {D:List (List Int)} (hD:GD D) {k:Int} (hk:1≤k) (hN:1000≤N) {l:List Int} {st:List Cl} (h:Gs D l st) {i:Nat} (hi:i<st.length) (h3:3≤(st.getD i cD).1.length):
    ∃st',W_m N (D,st,(i:Int),k)=some st'∧Gs D l st'∧i<st'.length∧(st'.getD i cD).1.length<(st.getD i cD).1.length:=by
  obtain⟨hv,hw⟩:=h.c.v _ (getD_memC hi)
  obtain⟨a,b,lo,hi',e,hP,hlo,hhi⟩:=Split7_spec N hD hv (by omega) hk hN
  have hst:=h.p.1
  have ha8:S8 a:=fun x hx=>hv.s x (hP.ma x hx)
  have hb8:S8 b:=fun x hx=>hv.s x (hP.mb x hx)
  have hln:=hP.len
  have hve:=hv.e
  have hla:lo∈a:=(hP.cov lo hlo).resolve_right hP.lb
  have hlb:hi'∈b:=(hP.cov hi' hhi).resolve_left hP.la
  have pa:1≤a.length:=List.length_pos_of_mem hla
  have pb:1≤b.length:=List.length_pos_of_mem hlb
  obtain⟨v,w,e2,wa,wb⟩:=parted_eq N hD hN (k:=k) hi (by omega) e ha8 hb8 (by omega) (by omega)
  have va:Vd a:=⟨ha8,hP.ua,pa,by omega⟩
  have vb:Vd b:=⟨hb8,hP.ub,pb,by omega⟩
  have hs:=st_split hi
  generalize hc:st.getD i cD=c at *
  generalize hT:st.take i=T at *
  generalize hR:st.drop (i+1)=R at *
  have hTl:T.length=i:=by rw[←hT,List.length_take];omega
  have hd:=h.c.d
  rw[hs,List.pairwise_append,List.pairwise_cons] at hd
  refine⟨_,e2,⟨⟨fun d hd'=>?_,?_⟩,fun x=>?_,?_,fun q=>?_,by simp only[List.length_append,List.length_cons,List.length_nil];omega⟩,by simp only[List.length_append,List.length_cons,List.length_nil];omega,?_⟩
  · rcases List.mem_append.1 hd' with q | q
    · rcases List.mem_append.1 q with q | q
      · exact h.c.v d (by rw[hs];exact List.mem_append_left _ q)
      · rcases List.mem_cons.1 q with rfl | q
        · exact⟨va,wa⟩
        · rw[List.mem_singleton.1 q];exact⟨vb,wb⟩
    · exact h.c.v d (by rw[hs];exact List.mem_append_right _ (List.mem_cons_of_mem _ q))
  · rw[List.append_assoc,List.pairwise_append]
    refine⟨hd.1,?_,fun p hp q hq x hx=>?_⟩
    · show List.Pairwise _ ((a,v)::(b,w)::R)
      refine List.pairwise_cons.2 ⟨fun q hq x hx=>?_,List.pairwise_cons.2 ⟨fun q hq x hx=>hd.2.1.1 q hq x (hP.mb x hx),hd.2.1.2⟩⟩
      rcases List.mem_cons.1 hq with rfl | hq
      · exact hP.dis x hx
      · exact hd.2.1.1 q hq x (hP.ma x hx)
    · have hc2:=hd.2.2 p hp c (List.mem_cons_self ..) x hx
      rcases List.mem_cons.1 hq with rfl | hq
      · exact fun q=>hc2 (hP.ma x q)
      · rcases List.mem_cons.1 hq with rfl | hq
        · exact fun q=>hc2 (hP.mb x q)
        · exact hd.2.2 p hp q (List.mem_cons_of_mem _ hq) x hx
  · rw[←h.m x,hs]
    unfold In
    constructor
    · rintro⟨d,hd',hx⟩
      rcases List.mem_append.1 hd' with q | q
      · rcases List.mem_append.1 q with q | q
        · exact⟨d,List.mem_append_left _ q,hx⟩
        · refine⟨c,List.mem_append_right _ (List.mem_cons_self ..),?_⟩
          rcases List.mem_cons.1 q with rfl | q
          · exact hP.ma x hx
          · rw[List.mem_singleton.1 q] at hx;exact hP.mb x hx
      · exact⟨d,List.mem_append_right _ (List.mem_cons_of_mem _ q),hx⟩
    · rintro⟨d,hd',hx⟩
      rcases List.mem_append.1 hd' with q | q
      · exact⟨d,List.mem_append_left _ (List.mem_append_left _ q),hx⟩
      · rcases List.mem_cons.1 q with rfl | q
        · rcases hP.cov x hx with q | q
          · exact⟨_,List.mem_append_left _ (List.mem_append_right _ (List.mem_cons_self ..)),q⟩
          · exact⟨_,List.mem_append_left _ (List.mem_append_right _ (List.mem_cons_of_mem _ (List.mem_singleton.2 rfl))),q⟩
        · exact⟨d,List.mem_append_right _ q,hx⟩
  · have hn:=h.n
    rw[hs] at hn
    simp only[List.flatMap_append,List.flatMap_cons,List.flatMap_nil,List.length_append,List.length_nil] at hn ⊢
    omega
  · obtain⟨d,hd',h2⟩:=h.w q
    rw[hs] at hd'
    rcases List.mem_append.1 hd' with q | q
    · exact⟨d,List.mem_append_left _ (List.mem_append_left _ q),h2⟩
    · rcases List.mem_cons.1 q with rfl | q
      · by_cases q2:2≤a.length
        · exact⟨_,List.mem_append_left _ (List.mem_append_right _ (List.mem_cons_self ..)),q2⟩
        · exact⟨_,List.mem_append_left _ (List.mem_append_right _ (List.mem_cons_of_mem _ (List.mem_singleton.2 rfl))),by show 2≤b.length;omega⟩
      · exact⟨d,List.mem_append_right _ q,h2⟩
  · have:(T++[(a,v),(b,w)]++R).getD i cD=(a,v):=by
      rw[List.append_assoc,List.getD_eq_getElem?_getD,List.getElem?_append_right (by omega),hTl,Nat.sub_self]
      rfl
    rw[this]
    show a.length<_
    omega
theorem Gs_one {D:List (List Int)} {l:List Int} {v:Int} (h:Vd l) (hw:Who (fun x=>far D x l) l v):Gs D l [(l,v)]:=
  ⟨⟨fun c hc=>by rw[List.mem_singleton.1 hc];exact⟨h,hw⟩,List.pairwise_singleton _ _⟩,fun x=>⟨fun⟨c,hc,hx⟩=>by rw[List.mem_singleton.1 hc] at hx;exact hx,fun hx=>⟨_,List.mem_singleton.2 rfl,hx⟩⟩,by simp,fun q=>⟨_,List.mem_singleton.2 rfl,q⟩,by simp⟩
theorem Group7_spec (N:Nat) {D:List (List Int)} (hD:GD D) {k:Int} (hk:1≤k∧k≤3) (hN:1000≤N) {l:List Int} (h:Vd l):∃T,W_an N (D,l,k)=some T∧Gs D l T:=by
  have hp:=h.p
  have he:=h.e
  obtain⟨v0,e0,w0⟩:=Of7_spec N hD h.s (by omega) hN
  unfold W_an V_an
  try simp only
  rw[dF (show ¬(l.length:Int)=0 by omega),cnd_f,e0,obind_s,wr_m (z:=3*k) (by omega) (by omega),wr_m (z:=3*k-1) (by omega) (by omega)]
  refine loop_post (σ:=List Cl×Int) (ρ:=List Cl) (β:=List Cl) (fun o=>∃T,o=some T∧Gs D l T) (fun v=>∃i:Nat,v.2=i∧i≤v.1.length∧Gs D l v.1) (fun v=>9-v.2.toNat) (fun r=>Gs D l r) ⟨0,rfl,by omega,Gs_one h w0⟩ (by simp;omega) (fun r h=>⟨r,rfl,h⟩) ?_
  rintro⟨st,i'⟩ ⟨i,hi',hi,hG⟩
  simp only at hi' hi hG ⊢
  subst hi'
  have hst:=hG.p.1
  by_cases c:(i:Int)<st.length
  case neg=>right;rw[dF c,cnd_f];exact⟨_,rfl,hG⟩
  left
  rw[dT c,cnd_t]
  refine loop_post (σ:=List Cl) (ρ:=List Cl) (β:=(List Cl×Int)⊕List Cl) (fun o=>∃y:List Cl×Int,o=some (.inl y)∧(∃i:Nat,y.2=i∧i≤y.1.length∧Gs D l y.1)∧9-y.2.toNat<9-i) (fun s=>i<s.length∧Gs D l s) (fun s=>(s.getD i cD).1.length) (fun s=>i<s.length∧Gs D l s) ⟨by omega,hG⟩ ?_ ?_ ?_
  · have:=(hG.c.v _ (getD_memC (l:=st) (i:=i) (by omega))).1.e;omega
  · rintro s ⟨hs,hG⟩
    have:=hG.p.1
    rw[wr_m (z:=(i:Int)+1) (by omega) (by omega)]
    exact⟨_,rfl,⟨i+1,by simp,by simp only;omega,hG⟩,by simp only;omega⟩
  · rintro s ⟨hs,hG⟩
    have hsl:=hG.p.1
    rw[dT (show (0:Int)≤(i:Int) by omega),dT (show (i:Int)<s.length by omega),Bool.and_self,cnd_t,Int.toNat_natCast]
    by_cases hc:3*k-1<((s.getD i cD).1.length:Int)
    · left
      obtain⟨s',e,hG',hi2,hlt⟩:=parted_spec N hD hk.1 hN hG hs (by omega)
      exact⟨s',(congrArg (fun q=>cnd q _ _) (dT hc)).trans (cnd_t.trans (by rw[e,obind_s])),⟨hi2,hG'⟩,hlt⟩
    · right
      exact⟨_,(congrArg (fun q=>cnd q _ _) (dF hc)).trans cnd_f,hs,hG⟩
inductive Rr (N:Nat) (D:List (List Int)) (k:Int):List Cl→Lv→Prop
  | one {cs:List Cl}:Cs D cs→cs.length=1→Rr N D k cs [cs]
  | more {cs g:List Cl} {L:Lv}:Cs D cs→2≤cs.length→W_an N (D,lead cs,k)=some g→Gs D (lead cs) g→Rr N D k g L→Rr N D k cs (cs::L)
theorem Rr_ex (N:Nat) {D:List (List Int)} (hD:GD D) {k:Int} (hk:1≤k∧k≤3) (hN:1000≤N):∀(n:Nat) (cs:List Cl),cs.length≤n→1≤cs.length→Cs D cs→∃L,Rr N D k cs L:=by
  intro n
  induction n with
  | zero=>intro cs h h1;omega
  | succ n ih=>
    intro cs hl h1 hC
    by_cases c:cs.length=1
    · exact⟨_,.one hC c⟩
    obtain⟨g,e,hG⟩:=Group7_spec N hD hk hN (lead_Vd hC h1)
    have hls:=hG.p.2.2 (by rw[lead_len];omega)
    rw[lead_len] at hls
    obtain⟨L,hL⟩:=ih g (by omega) hG.ne hG.c
    exact⟨_,.more hC (by omega) e hG hL⟩
theorem Rr.c {N:Nat} {D:List (List Int)} {k:Int} {cs:List Cl} {L:Lv} (h:Rr N D k cs L):Cs D cs:=by cases h<;>assumption
theorem Rr.p {N:Nat} {D:List (List Int)} {k:Int} {cs:List Cl} {L:Lv} (h:Rr N D k cs L):1≤cs.length:=by cases h<;>omega
theorem Rr.hd {N:Nat} {D:List (List Int)} {k:Int} {cs:List Cl} {L:Lv} (h:Rr N D k cs L):∃R,L=cs::R:=by cases h<;>exact⟨_,rfl⟩
theorem Rr.lv {N:Nat} {D:List (List Int)} {k:Int} {cs:List Cl} {L:Lv} (h:Rr N D k cs L):∀x∈L,Cs D x∧1≤x.length:=by
  induction h with
  | one hC h1=>intro x hx;rw[List.mem_singleton.1 hx];exact⟨hC,by omega⟩
  | more hC h2 _ _ _ ih=>
    intro x hx
    rcases List.mem_cons.1 hx with rfl | hx
    · exact⟨hC,by omega⟩
    · exact ih x hx
theorem Rr.le {N:Nat} {D:List (List Int)} {k:Int} {cs:List Cl} {L:Lv} (h:Rr N D k cs L):L.length≤cs.length:=by
  induction h with
  | one hC h1=>simp;omega
  | more hC h2 _ hG _ ih=>
    have:=hG.p.2.2 (by rw[lead_len];omega)
    rw[lead_len] at this
    rw[List.length_cons];omega
theorem above7 (N:Nat) {D:List (List Int)} {k:Int} (hN:1000≤N) {cs:List Cl} {L:Lv} (h:Rr N D k cs L) (K:Lv):W_w N ((k,D,K),cs)=some (k,D,L):=by
  have hL:=h.le
  have hcl:=Cs_len h.c
  unfold W_w V_w
  try simp only
  refine loop_post (σ:=List Cl×Hr×Hr×Int×List (List Int)×Lv) (ρ:=Hr×Int×List (List Int)×Lv) (β:=Hr) (fun o=>o=some (k,D,L)) (fun v=>∃(top:List Cl) (pre R:Lv),v=(top,(k,D,K),(0,[],[]),k,D,pre)∧Rr N D k top R∧L=pre++R) (fun v=>L.length+1-v.2.2.2.2.2.length) (fun r=>r=((0,[],[]),k,D,L)) ⟨cs,[],L,rfl,h,rfl⟩ (by simp;omega) (fun r h=>by rw[h]) ?_
  rintro v ⟨top,pre,R,rfl,hR,e⟩
  try simp only
  have hp:=hR.p
  have hc:=hR.c
  have ht:=Cs_len hc
  obtain⟨R0,eR0⟩:=hR.hd
  have hlen:pre.length+1≤L.length:=by rw[e,eR0];simp
  rw[dT (show (0:Int)<top.length by omega),cnd_t,cnd_T (by rw[List.length_singleton];omega)]
  cases hR with
  | one hC h1=>
    right
    rw[dT (show (top.length:Int)=1 by omega),cnd_t]
    exact⟨_,rfl,by rw[e]⟩
  | more hC h2 hg hG hR=>
    rename_i g L'
    left
    rw[dF (show ¬(top.length:Int)=1 by omega),cnd_f,rleaders_eq N hC (by omega) hN,obind_s,hg,obind_s]
    refine⟨_,rfl,⟨g,pre++[top],L',rfl,hR,by rw[e,List.append_assoc];rfl⟩,?_⟩
    simp only[List.length_append,List.length_singleton]
    omega
theorem Gs_of {D:List (List Int)} {st:List Cl} (h:Cs D st) (hw:∃c∈st,2≤c.1.length):Gs D (st.flatMap fun c=>c.1) st:=
  ⟨h,fun x=>⟨fun⟨c,hc,hx⟩=>List.mem_flatMap.2 ⟨c,hc,hx⟩,fun hx=>by obtain⟨c,hc,hx⟩:=List.mem_flatMap.1 hx;exact⟨c,hc,hx⟩⟩,rfl,fun _=>hw,by obtain⟨c,hc,_⟩:=hw;exact List.length_pos_of_mem hc⟩
theorem Cs_put {D:List (List Int)} {st:List Cl} (h:Cs D st) {i:Nat} (hi:i<st.length) {c:Cl} (hv:Vd c.1) (hw:Who (fun x=>far D x c.1) c.1 c.2) (hd:∀x∈c.1,∀j,j<st.length→j≠i→x∉(st.getD j cD).1):Cs D (st.set i c)∧(∀x,In (st.set i c) x↔x∈c.1∨∃j,j<st.length∧j≠i∧x∈(st.getD j cD).1):=by
  have hg:∀j,j<st.length→j≠i→(st.set i c).getD j cD=st.getD j cD:=fun j hj q=>by
    rw[List.getD_eq_getElem?_getD,List.getElem?_set_ne (fun e=>q e.symm),←List.getD_eq_getElem?_getD]
  have hgi:(st.set i c).getD i cD=c:=by rw[List.getD_eq_getElem?_getD,List.getElem?_set_self hi];rfl
  have hl:(st.set i c).length=st.length:=List.length_set
  refine⟨⟨fun d hd'=>?_,?_⟩,fun x=>⟨fun hx=>?_,fun hx=>?_⟩⟩
  · rcases List.mem_or_eq_of_mem_set hd' with q | rfl
    · exact h.v d q
    · exact⟨hv,hw⟩
  · rw[List.pairwise_iff_getElem]
    intro p q hp hq hpq x hx
    have e1:(st.set i c)[p]=(st.set i c).getD p cD:=by rw[List.getD_eq_getElem?_getD,List.getElem?_eq_getElem hp];rfl
    have e2:(st.set i c)[q]=(st.set i c).getD q cD:=by rw[List.getD_eq_getElem?_getD,List.getElem?_eq_getElem hq];rfl
    rw[e1] at hx;rw[e2]
    have hp':p<st.length:=by rw[←hl];exact hp
    have hq':q<st.length:=by rw[←hl];exact hq
    have hpw:=List.pairwise_iff_getElem.1 h.d
    by_cases cp:p=i
    · subst cp
      rw[hgi] at hx
      rw[hg q hq' (by omega)]
      exact hd x hx q hq' (by omega)
    · rw[hg p hp' cp] at hx
      by_cases cq:q=i
      · subst cq
        rw[hgi]
        exact fun hxc=>hd x hxc p hp' cp hx
      · rw[hg q hq' cq]
        have:=hpw p q hp' hq' hpq x
        rw[List.getD_eq_getElem?_getD,List.getElem?_eq_getElem hp'] at hx
        rw[List.getD_eq_getElem?_getD,List.getElem?_eq_getElem hq']
        exact this hx
  · obtain⟨j,hj,hx⟩:=In_at hx
    rw[hl] at hj
    by_cases q:j=i
    · subst q;rw[hgi] at hx;exact .inl hx
    · rw[hg j hj q] at hx;exact .inr ⟨j,hj,q,hx⟩
  · rcases hx with hx | ⟨j,hj,q,hx⟩
    · exact In_of (p:=i) (by rw[hl];exact hi) (by rw[hgi];exact hx)
    · exact In_of (p:=j) (by rw[hl];exact hj) (by rw[hg j hj q];exact hx)
theorem Cs_apart {D:List (List Int)} {st:List Cl} (h:Cs D st) {i j:Nat} (hi:i<st.length) (hj:j<st.length) (hij:i≠j) {x:Int} (hx:x∈(st.getD i cD).1):x∉(st.getD j cD).1:=fun hy=> by
  have hp:=List.pairwise_iff_getElem.1 h.d
  rw[List.getD_eq_getElem?_getD,List.getElem?_eq_getElem hi] at hx
  rw[List.getD_eq_getElem?_getD,List.getElem?_eq_getElem hj] at hy
  rcases Nat.lt_or_ge i j with q | q
  · exact hp i j hi hj q x hx hy
  · exact hp j i hj hi (by omega) x hy hx
theorem fit7 (N:Nat) {D:List (List Int)} (hD:GD D) {k:Int} (hk:1≤k∧k≤3) (hN:1000≤N) {st:List Cl} (h:Cs D st) {i:Nat} (hi:i<st.length):∃x,cnd (decide (3*k-1<((st.getD i cD).1.length:Int))) (obind (W_m N (D,st,(i:Int),k)) fun b=>some b) (some st)=some x∧Cs D x∧1≤x.length:=by
  by_cases c:3*k-1<((st.getD i cD).1.length:Int)
  · obtain⟨x,e,hG,_⟩:=parted_spec N hD hk.1 hN (Gs_of h ⟨_,getD_memC hi,by omega⟩) hi (by omega)
    exact⟨x,by rw[dT c,cnd_t,e,obind_s],hG.c,hG.ne⟩
  · exact⟨st,by rw[dF c,cnd_f],h,by omega⟩
theorem JoinClus7 (N:Nat) {D:List (List Int)} (hD:GD D) {k:Int} (hk:1≤k∧k≤3) (hN:1000≤N) {cs:List Cl} (h:Cs D cs) {id:Int} (hid:1≤id∧id≤8) (hno:¬In cs id) {a:Nat} (ha:1≤cs.length→a<cs.length):∃x,W_af N (D,cs,(a:Int),id,k)=some x∧Cs D x∧1≤x.length:=by
  have hl:=Cs_len h
  unfold W_af V_af
  try simp only
  rw[dT (show cs.length*32≤140737488355328 by omega),cnd_t]
  by_cases c0:(cs.length:Int)=0
  · have hV:Vd [id]:=⟨fun x hx=>by rw[List.mem_singleton.1 hx];exact hid,List.pairwise_singleton _ _,by simp,by simp⟩
    obtain⟨v,e,hw⟩:=Of7_spec N hD hV.s (by simp) hN
    rw[dT c0,cnd_t,e,obind_s]
    exact⟨_,rfl,(Gs_one hV hw).c,by simp⟩
  have hal:=ha (by omega)
  rw[dF c0,cnd_f,dF (show ¬(a:Int)<0 by omega),cnd_f,obind_s]
  try simp only
  rw[dF (show ¬(cs.length:Int)≤a by omega),cnd_f,Home_no N h (by omega) (fun j hj hx=>hno (In_of hj hx)) hN,obind_s,dF (show ¬(0:Int)≤-1 by omega),cnd_f,dT (show (0:Int)≤(a:Int) by omega),dT (show (a:Int)<cs.length by omega),Bool.and_self,cnd_t,Int.toNat_natCast]
  obtain⟨hv,hw⟩:=h.v _ (getD_memC hal)
  have hdis:=fun x (hx:x∈(cs.getD a cD).1) j hj (q:j≠a)=>Cs_apart h hal hj (fun e=>q e.symm) hx
  have hni:id∉(cs.getD a cD).1:=fun q=>hno (In_of hal q)
  obtain⟨c,hc⟩:∃c,cs.getD a cD=c:=⟨_,rfl⟩
  have hcD:cs.getD a (([]:List Int),(0:Int))=c:=hc
  rw[hc] at hv hw hdis hni
  have hve:=hv.e
  have hu:Up (ins c.1 [id]):=ins_up (by
    rw[List.nodup_append]
    refine⟨Up_nodup hv.u,by simp,fun x hx y hy=>?_⟩
    rw[List.mem_singleton.1 hy]
    exact fun e=>hni (e▸hx))
  have hs:S8 (ins c.1 [id]):=fun x hx=>by
    rcases ins_mem.1 hx with q | q
    · exact hv.s x q
    · rw[List.mem_singleton.1 q];exact hid
  have hlen:=Up_len8 _ 1 (by omega) hu hs
  have hil:(ins c.1 [id]).length=c.1.length+1:=by rw[ins_len,List.length_singleton]
  have hV:Vd (ins c.1 [id]):=⟨hs,hu,by omega,by omega⟩
  obtain⟨v,e,hw'⟩:=Of7_spec N hD hs (by omega) hN
  rw[hcD,dT (show c.1.length*8≤140737488355328 by omega),cnd_t,dT (show (c.1.length+[id].length)*8≤140737488355328 by rw[List.length_singleton];omega),cnd_t,Rising_is N (by rw[List.length_append,List.length_singleton];omega) hN hu hs (fun x=>by rw[ins_mem,List.mem_append]),obind_s,e,obind_s,cnd_t]
  have hput:putL cs [(ins c.1 [id],v)] a=cs.set a (ins c.1 [id],v):=(set_putM cs a _ hal).symm
  rw[hput]
  obtain⟨hC,_⟩:=Cs_put h hal (c:=(ins c.1 [id],v)) hV hw' fun x hx j hj q=>by
    rcases ins_mem.1 hx with q2 | q2
    · exact hdis x q2 j hj q
    · rw[List.mem_singleton.1 q2];exact fun q3=>hno (In_of hj q3)
  have hl2:(cs.set a (ins c.1 [id],v)).length=cs.length:=List.length_set
  rw[dT (show (a:Int)<(cs.set a (ins c.1 [id],v)).length by omega),Bool.and_self,cnd_t,wr_m (z:=3*k) (by omega) (by omega),wr_m (z:=3*k-1) (by omega) (by omega)]
  exact fit7 N hD hk hN hC (by omega)
def Hw (N:Nat) (D:List (List Int)) (k:Int) (L:Lv):Prop:=L=[]∨∃cs,Rr N D k cs L
theorem Rr.down {N:Nat} {D:List (List Int)} {k:Int} {cs:List Cl} {L:Lv} (h:Rr N D k cs L):∀n,n+1<L.length→∀c∈L.getD (n+1) [],∀x∈c.1,In (L.getD n []) x:=by
  induction h with
  | one hC h1=>intro n hn;simp at hn
  | @more cs g L hC h2 hg hG hR ih=>
    intro n hn c hc x hx
    cases n with
    | zero=>
      obtain⟨R,e⟩:=hR.hd
      have hc:c∈g:=by rw[e] at hc;exact hc
      obtain⟨d,hd,rfl⟩:=lead_mem.1 ((hG.m x).1 ⟨c,hc,hx⟩)
      exact⟨d,hd,lead_in hC hd⟩
    | succ n=>exact ih n (by rw[List.length_cons] at hn;omega) c hc x hx
theorem Rr.low {N:Nat} {D:List (List Int)} {k:Int} {cs:List Cl} {L:Lv} (h:Rr N D k cs L) {x:Int}:∀n,n<L.length→In (L.getD n []) x→In (L.getD 0 []) x
  | 0,_,q=>q
  | n+1,hn,⟨c,hc,hx⟩=>Rr.low h n (by omega) (h.down n hn c hc x hx)
theorem Hw.b {N:Nat} {D:List (List Int)} {k:Int} {L:Lv} (h:Hw N D k L):L.length≤8∧∀l∈L,l.length≤8∧(Cs D l∧1≤l.length):=by
  rcases h with rfl | ⟨cs,hR⟩
  · exact⟨by simp,fun l hl=>by cases hl⟩
  · have h1:=hR.le
    have h2:=Cs_len hR.c
    exact⟨by omega,fun l hl=>⟨Cs_len (hR.lv l hl).1,hR.lv l hl⟩⟩
theorem down7 (N:Nat) {D:List (List Int)} (hD:GD D) {k:Int} (hN:1000≤N) {cs:List Cl} {L:Lv} (hR:Rr N D k cs L) {id:Int} (hid:1≤id∧id≤8) (hno:¬In (L.getD 0 []) id) (z:Hr):∃a:Nat,a<(L.getD 0 []).length∧
    loopN N (fun(v:Int×Int×Hr×Hr)=>cnd (decide ((0:Int)<v.2.1)) (cnd (decide ((0:Int)≤v.2.1)&&decide (v.2.1<(↑(List.length v.2.2.1.2.2):Int))) (cnd (decide ((0:Int)≤v.1)&&decide (v.1<(↑(List.length (List.getD v.2.2.1.2.2 (Int.toNat v.2.1) [])):Int))) (obind (W_k N (v.2.2.1.2.1,id,Prod.fst (List.getD (List.getD v.2.2.1.2.2 (Int.toNat v.2.1) []) (Int.toNat v.1) ([],(0:Int))))) fun b=>cnd (decide ((0:Int)≤wr .i64 (v.2.1-(1:Int)))&&decide (wr .i64 (v.2.1-(1:Int))<(↑(List.length v.2.2.1.2.2):Int))) (obind (W_d N (List.getD v.2.2.1.2.2 (Int.toNat (wr .i64 (v.2.1-(1:Int)))) [],b)) fun b=>some (Sum.inl (b,wr .i64 (v.2.1-(1:Int)),v.2.2))) none) none) none) (some (Sum.inr (v.1,v.2.2)))) ((0:Int),(L.length:Int)-1,(k,D,L),z)=some ((a:Int),(k,D,L),z):=by
  have hb:=Hw.b (.inr ⟨cs,hR⟩:Hw N D k L)
  have hat:∀n,n<L.length→(L.getD n []).length≤8∧(Cs D (L.getD n [])∧1≤(L.getD n []).length):=fun n hn=>by
    have hmem:L.getD n []∈L:=by
      rw[List.getD_eq_getElem?_getD,List.getElem?_eq_getElem hn];exact List.getElem_mem _
    exact hb.2 _ hmem
  have hlp:1≤L.length:=by obtain⟨R,e⟩:=hR.hd;rw[e];simp
  have hbl:=hb.1
  have main:∀F:(Int×Int×Hr×Hr)→Option ((Int×Int×Hr×Hr)⊕(Int×Hr×Hr)),(∀(j:Nat) v,(∃(a:Nat) (n:Nat),v=((a:Int),(n:Int),(k,D,L),z)∧n+j+1=L.length∧a<(L.getD n []).length)→(∃y,F v=some (.inl y)∧∃(a:Nat) (n:Nat),y=((a:Int),(n:Int),(k,D,L),z)∧n+(j+1)+1=L.length∧a<(L.getD n []).length)∨∃r,F v=some (.inr r)∧∃a:Nat,a<(L.getD 0 []).length∧r=((a:Int),(k,D,L),z))→
      ∃a:Nat,a<(L.getD 0 []).length∧loopN N F ((0:Int),(L.length:Int)-1,(k,D,L),z)=some ((a:Int),(k,D,L),z):=fun F hs=>by
    obtain⟨r,e1,a,ha,hr⟩:=loopG (f:=F) _ L.length (fun r=>∃a:Nat,a<(L.getD 0 []).length∧r=((a:Int),(k,D,L),z)) (fun j v ⟨a,n,_,q,_⟩=>by omega) hs N 0 ((0:Int),(L.length:Int)-1,(k,D,L),z) ⟨0,L.length-1,by simp;omega,by omega,by have:=hat (L.length-1) (by omega);omega⟩ (by omega)
    exact⟨a,ha,by rw[←hr];exact e1⟩
  refine main _ ?_
  rintro j v ⟨a,n,rfl,hn,g4⟩
  try simp only
  by_cases c:(0:Int)<n
  case neg=>
    right
    rw[dF c,cnd_f]
    have:n=0:=by omega
    subst this
    exact⟨_,rfl,a,g4,rfl⟩
  left
  obtain⟨a1,a2,a3⟩:=hat n (by omega)
  obtain⟨d1,d2,d3⟩:=hat (n-1) (by omega)
  have hmC:=getD_memC g4
  obtain⟨hv,_⟩:=a2.v _ hmC
  have hve:=hv.e
  obtain⟨near,en2,wn⟩:=Near7_spec N hD hid hv.s (by omega) hN
  have hdn:=hR.down (n-1) (by omega)
  rw[show n-1+1=n by omega] at hdn
  have hni:∀x∈((L.getD n []).getD a cD).1,x≠id:=fun x hx e=>hno (hR.low n (by omega) ⟨_,hmC,e▸hx⟩)
  have hmem:near∈((L.getD n []).getD a cD).1:=by
    have hp:=hv.p
    have hff:((L.getD n []).getD a cD).1.filter (fun x=>decide (x≠id))=((L.getD n []).getD a cD).1:=List.filter_eq_self.2 fun x hx=>by rw[decide_eq_true_eq];exact hni x hx
    rw[hff] at wn
    exact Who_in wn hp
  obtain⟨p,hp,hx⟩:=In_at (hdn _ hmC near hmem)
  have en2':W_k N (D,id,((L.getD n []).getD a (([]:List Int),(0:Int))).1)=some near:=en2
  refine⟨((p:Int),((n-1:Nat):Int),(k,D,L),z),?_,p,n-1,rfl,by omega,hp⟩
  rw[dT c,cnd_t,dT (show (0:Int)≤n by omega),dT (show (n:Int)<(L.length:Int) by omega),Bool.and_self,cnd_t,dT (show (0:Int)≤(a:Int) by omega),Int.toNat_natCast,dT (show (a:Int)<((L.getD n []).length:Int) by omega),Bool.and_self,cnd_t,Int.toNat_natCast,wr_m (z:=(n:Int)-1) (by omega) (by omega),en2',obind_s,dT (show (0:Int)≤(n:Int)-1 by omega),dT (show (n:Int)-1<(L.length:Int) by omega),Bool.and_self,cnd_t,show ((n:Int)-1).toNat=n-1 by omega,Home_at N d2 (by omega) hp hx hN,obind_s,show ((n-1:Nat):Int)=(n:Int)-1 by omega]
theorem Join7 (N:Nat) {D:List (List Int)} (hD:GD D) (h0:Z0 D) {k:Int} (hk:1≤k∧k≤3) (hN:1000≤N) {L:Lv} (h:Hw N D k L) (id:Int):∃L',W_V N ((k,D,L),id)=some (k,D,L')∧Hw N D k L':=by
  obtain⟨b1,b2⟩:=h.b
  unfold W_V V_V
  try simp only
  rw[rMay_eq N hD h0 hN,obind_s,Bool.not_true,cnd_f,obind_s]
  try simp only
  by_cases q1:id<1
  · rw[dT q1,cnd_t,obind_s,cnd_t];exact⟨_,rfl,h⟩
  rw[dF q1,cnd_f,obind_s]
  try simp only
  by_cases q2:8<id
  · rw[dT q2,cnd_t];exact⟨_,rfl,h⟩
  rw[dF q2,cnd_f]
  have fin:∀(cs:List Cl) (a:Nat),Cs D cs→¬In cs id→(1≤cs.length→a<cs.length)→∃L',(obind (W_af N (D,cs,(a:Int),id,k)) fun b=>obind (W_w N ((k,D,L),b)) fun b=>some b)=some (k,D,L')∧Hw N D k L':=fun cs a hC hno ha=>by
    obtain⟨x,e,hx,hx1⟩:=JoinClus7 N hD hk hN hC (by omega) hno ha
    obtain⟨L',hR⟩:=Rr_ex N hD hk hN _ x (Nat.le_refl _) hx1 hx
    exact⟨L',by rw[e,obind_s,above7 N hN hR L,obind_s],.inr ⟨x,hR⟩⟩
  rcases h with rfl | ⟨cs,hR⟩
  · rw[dF (show ¬(0:Int)<(([]:Lv).length:Int) by simp),cnd_f]
    obtain⟨M,rfl⟩:∃M,N=M+1:=⟨N-1,by omega⟩
    exact fin [] 0 ⟨(fun c hc=>by cases hc),List.Pairwise.nil⟩ (fun⟨c,hc,_⟩=>by cases hc) (fun q=>by simp at q)
  · obtain⟨R,e⟩:=hR.hd
    have hg:L.getD 0 []=cs:=by rw[e];rfl
    have hlp:(0:Int)<(L.length:Int):=by rw[e,List.length_cons];omega
    rw[dT hlp,cnd_t,dT (show (0:Int)≤0 by omega),Bool.and_self,cnd_t]
    by_cases q3:In cs id
    · obtain⟨p,hp,hx⟩:=In_at q3
      have:=Home_at N hR.c (by have:=Cs_len hR.c;omega) hp hx hN
      rw[hg,this,obind_s,dT (show (0:Int)≤p by omega),cnd_t]
      exact⟨_,rfl,.inr ⟨cs,hR⟩⟩
    · have:=Home_no N hR.c (by have:=Cs_len hR.c;omega) (fun j hj hx=>q3 (In_of hj hx)) hN
      obtain⟨a,ha,ed⟩:=down7 N hD hN hR (id:=id) (by omega) (by rw[hg];exact q3) ((0:Int),[],[])
      rw[hg] at ha
      rw[hg,this,obind_s,dF (show ¬(0:Int)≤-1 by omega),cnd_f,wr_m (z:=(L.length:Int)-1) (by omega) (by omega)]
      rw[ed,obind_s]
      try simp only
      rw[dT hlp,cnd_t,Bool.and_self,cnd_t,obind_s]
      try simp only
      rw[hg]
      exact fin cs a hR.c q3 (fun _=>ha)
theorem LeaveClus7 (N:Nat) {D:List (List Int)} (hD:GD D) {cs:List Cl} (h:Cs D cs) {id k:Int} (hk:1≤k∧k≤3) (hN:1000≤N):∃x,W_Y N (D,cs,id,k)=some x∧Cs D x:=by
  have hl:=Cs_len h
  by_cases hh:∃p,p<cs.length∧id∈(cs.getD p cD).1
  case neg=>
    have hno:∀j,j<cs.length→id∉(cs.getD j cD).1:=fun j hj q=>hh ⟨j,hj,q⟩
    refine⟨cs,?_,h⟩
    unfold W_Y V_Y
    try simp only
    rw[Home_no N h (by omega) hno hN,obind_s,cnd_T (show cs.length*32≤140737488355328 by omega),dT (show (-1:Int)<0 by omega),cnd_t]
  obtain⟨p,hp,hidp⟩:=hh
  obtain⟨hpv,hpw⟩:=h.v _ (getD_memC hp)
  have hpe:=hpv.e
  have hwo:=without7_eq N (cs.getD p cD).1 id (by omega) hN
  have hho:=Home_at N h (by omega) hp hidp hN
  have hcD:cs.getD p (([]:List Int),(0:Int))=cs.getD p cD:=rfl
  obtain⟨r,hr⟩:∃r,les (cs.getD p cD).1 id=r:=⟨_,rfl⟩
  have hrm:∀x∈r,x∈(cs.getD p cD).1:=fun x hx=>(les_mem.1 (hr▸hx)).1
  have hru:Up r:=hr▸les_up hpv.u
  have hrl:r.length≤(cs.getD p cD).1.length:=hr▸les_le
  rw[hr] at hwo
  have hrS:S8 r:=fun x hx=>hpv.s x (hrm x hx)
  by_cases c0:r.length=0
  · refine⟨repl [] p p 0 cs,?_,Cs_repl h ⟨(fun c hc=>by cases hc),List.Pairwise.nil⟩ p p (fun _ _ _ _ c hc=>by cases hc)⟩
    unfold W_Y V_Y
    try simp only
    rw[hho,obind_s,cnd_T (show cs.length*32≤140737488355328 by omega),dF (show ¬(p:Int)<0 by omega),cnd_f,dT (show (0:Int)≤(p:Int) by omega),dT (show (p:Int)<cs.length by omega),Bool.and_self,cnd_t,Int.toNat_natCast,hcD,hwo,obind_s,dT (show (r.length:Int)=0 by omega),cnd_t]
    rw[wr_m (z:=(p:Int)+1) (by omega) (by omega)]
    simp only[cut_lo,cut_hi,cut_lo2,cut_hi2,g_none,g_some,z_add,s_zero,d_zero]
    rw[show p+1+(cs.length-(p+1))=cs.length by omega,List.take_length]
    rw[cnd_T (by omega),cnd_T (by omega),cnd_T (by omega),cnd_T (by omega),cnd_T (by rw[List.length_drop];omega),repl_same _ hp,←List.append_assoc,List.take_left' (by rw[List.length_append,List.length_take];omega),List.append_nil]
  have hr0:¬(r.length:Int)=0:=by omega
  have hr1:1≤r.length:=by omega
  obtain⟨m,eo,how⟩:=Of7_spec N hD hrS (by omega) hN
  have hVr:Vd r:=⟨hrS,hru,by omega,by omega⟩
  have hvr:=Who_in how (by omega)
  obtain⟨t1,t2,t3,t4,t5,t6,t7⟩:=put_td cs (r,m) hp
  have hCo:Cs D (putL cs [(r,m)] p):=by
    rw[t7]
    refine Cs_repl h ⟨fun c hc=>by rw[List.mem_singleton.1 hc];exact⟨hVr,how⟩,List.pairwise_singleton _ _⟩ p p fun j hj h1 _ c hc x hx hx2=>?_
    rw[List.mem_singleton.1 hc] at hx
    exact h1 (h.one hj hp hx2 (hrm x hx))
  by_cases c1:k≤r.length∨cs.length=1
  · refine⟨_,?_,hCo⟩
    unfold W_Y V_Y
    try simp only
    rw[hho,obind_s,cnd_T (show cs.length*32≤140737488355328 by omega),dF (show ¬(p:Int)<0 by omega),cnd_f,dT (show (0:Int)≤(p:Int) by omega),dT (show (p:Int)<cs.length by omega),Bool.and_self,cnd_t,Int.toNat_natCast,hcD,hwo,obind_s,dF hr0,cnd_f,eo,obind_s,cnd_t,t4]
    by_cases ck:k≤(r.length:Int)
    · rw[dT ck,cnd_t]
    · have hcs1:(cs.length:Int)=1:=by rcases c1 with q | q;exact absurd q ck;rw[q];rfl
      rw[dF ck,cnd_f,dT hcs1,cnd_t]
  have hcl2:2≤cs.length:=by have:=fun q=>c1 (.inr q);omega
  have hLS:=leaders_S8 h p
  have hLl:=leaders_len p hl
  obtain⟨near',en,hnw2⟩:=Near7_spec N hD (hrS m hvr) hLS (by omega) hN
  have hot:∀j,j<cs.length→j≠p→(cs.getD j cD).2∈(cs.getD j cD).1∧(cs.getD j cD).2≠m:=fun j hj q=>by
    obtain⟨w1,w2⟩:=h.v _ (getD_memC hj)
    have h1:=Who_in w2 w1.p
    exact⟨h1,fun e=>q (h.one hj hp h1 (hrm _ (e▸hvr)))⟩
  obtain⟨o,hol,hop,hon⟩:∃o,o<cs.length∧o≠p∧(cs.getD o cD).2=near':=by
    have hne:∃y,y∈((repl [] p p 0 cs).map (fun c=>c.2)).filter fun x=>decide (x≠m):=by
      obtain⟨j,hj,q⟩:∃j,j<cs.length∧j≠p:=by
        by_cases q:p=0
        · exact⟨1,by omega,by omega⟩
        · exact⟨0,by omega,fun e=>q e.symm⟩
      refine⟨(cs.getD j cD).2,List.mem_filter.2 ⟨List.mem_map.2 ⟨_,(repl_mem [] p p _ cs 0).2 (.inr ⟨j,hj,by omega,by omega,rfl⟩),rfl⟩,?_⟩⟩
      rw[decide_eq_true_eq];exact(hot j hj q).2
    rcases hnw2 with⟨e,_⟩ | e
    · obtain⟨y,hy⟩:=hne;rw[e] at hy;cases hy
    · obtain⟨c,hc,e2⟩:=List.mem_map.1 (List.mem_filter.1 e.1).1
      rcases (repl_mem [] p p c cs 0).1 hc with⟨_,q⟩ | ⟨j,hj,q,_,e3⟩
      · cases q
      · exact⟨j,hj,by omega,by rw[e3];exact e2⟩
  obtain⟨hov,how2⟩:=h.v _ (getD_memC hol)
  have hoe:=hov.e
  have hMn:(r++(cs.getD o cD).1).Nodup:=by
    rw[List.nodup_append]
    refine⟨Up_nodup hru,Up_nodup hov.u,fun x hx y hy e=>?_⟩
    subst e
    exact hop (h.one hol hp hy (hrm x hx))
  have hMS:S8 (ins r (cs.getD o cD).1):=fun x hx=>by
    rcases ins_mem.1 hx with q | q
    · exact hrS x q
    · exact hov.s x q
  have hMl:=Up_len8 _ 1 (by omega) (ins_up hMn) hMS
  have hMl2:(ins r (cs.getD o cD).1).length=r.length+(cs.getD o cD).1.length:=ins_len
  have hM:Vd (ins r (cs.getD o cD).1):=⟨hMS,ins_up hMn,by omega,by omega⟩
  obtain⟨vc,eo2,hcw⟩:=Of7_spec N hD hMS (by omega) hN
  obtain⟨c,hcE⟩:∃c:Cl,(ins r (cs.getD o cD).1,vc)=c:=⟨_,rfl⟩
  rw[hcE] at eo2
  have hc1:c.1=ins r (cs.getD o cD).1:=by rw[←hcE]
  obtain⟨E,hE0,hE1,hE2,hE3,hE4,hE5⟩:=repl_two c hp hol hop
  have hCE:Cs D E:=by
    rw[←hE0]
    refine Cs_repl h ⟨fun d hd=>by rw[List.mem_singleton.1 hd,←hcE];exact⟨hM,hcw⟩,List.pairwise_singleton _ _⟩ p o fun j hj h1 h2 d hd y hy hy2=>?_
    rw[List.mem_singleton.1 hd,hc1] at hy
    rcases ins_mem.1 hy with q | q
    · exact h1 (h.one hj hp hy2 (hrm y q))
    · exact h2 (h.one hj hol hy2 q)
  obtain⟨x,hfin,hxC,_⟩:=fit7 N hD hk hN hCE hE2
  refine⟨x,?_,hxC⟩
  have hlead:(repl [] p p 0 (putL cs [(r,m)] p)).map (fun c=>c.2)=(repl [] p p 0 cs).map (fun c=>c.2):=by
    rw[repl_same _ hp,repl_same _ (by omega),t2,t3]
  have hHo:W_d N (putL cs [(r,m)] p,near')=some (o:Int):=by
    refine Home_at N hCo (by omega) (by omega) ?_ hN
    rw[t5 o hop,←hon]
    exact Who_in how2 hov.p
  have hri:=Rising_is N (l:=r++(cs.getD o cD).1) (by rw[List.length_append];omega) hN hM.u hM.s (fun x=>by rw[ins_mem,List.mem_append])
  have hoD:(putL cs [(r,m)] p).getD o (([]:List Int),(0:Int))=cs.getD o cD:=t5 o hop
  have hpD:(putL cs [(r,m)] p).getD p (([]:List Int),(0:Int))=(r,m):=t1
  have hput:putL (putL cs [(r,m)] p) [c] p=putL cs [c] p:=t6 c
  have hcl:=(put_td cs c hp).2.2.2.1
  have hpos:cnd (decide ((o:Int)<(p:Int))) (some (wr .i64 ((p:Int)-1))) (some (p:Int))=some ((pos p o:Nat):Int):=by
    unfold pos
    by_cases q:o<p
    · rw[dT (show (o:Int)<p by omega),cnd_t,if_pos q,wr_m (by omega) (by omega),show (p:Int)-1=((p-1:Nat):Int) by omega]
    · rw[dF (show ¬(o:Int)<p by omega),cnd_f,if_neg q]
  unfold W_Y V_Y
  try simp only
  rw[hho,obind_s,cnd_T (show cs.length*32≤140737488355328 by omega),dF (show ¬(p:Int)<0 by omega),cnd_f,dT (show (0:Int)≤(p:Int) by omega),dT (show (p:Int)<cs.length by omega),Bool.and_self,cnd_t,Int.toNat_natCast,hcD,hwo,obind_s,dF hr0,cnd_f,eo,obind_s,cnd_t,t4,dF (show ¬k≤(r.length:Int) from fun q=>c1 (.inl q)),cnd_f,dF (show ¬(cs.length:Int)=1 from fun q=>c1 (.inr (by exact_mod_cast q))),cnd_f]
  obtain⟨out,hout⟩:∃out,putL cs [(r,m)] p=out:=⟨_,rfl⟩
  rw[hout] at t4 hlead hHo hoD hpD hput ⊢
  refine loop_post (σ:=Int×List Cl×List Int) (ρ:=List Int×List Cl) (β:=List Cl) (fun q=>q=some x) (fun v=>∃i:Nat,v=((i:Int),out,(repl [] p p 0 (out.take i)).map (fun c=>c.2))∧i≤out.length) (fun v=>out.length-v.1.toNat) (fun q=>q=((repl [] p p 0 cs).map (fun c=>c.2),out)) ⟨0,by simp[repl],by omega⟩ (by simp;omega) ?_ ?_
  · rintro q rfl
    try simp only
    rw[t4,dT (show (p:Int)<cs.length by omega),Bool.and_self,cnd_t,hpD]
    try simp only
    rw[en,obind_s,hHo,obind_s,cnd_T (show r.length*8≤140737488355328 by omega),dT (show (0:Int)≤(o:Int) by omega),dT (show (o:Int)<cs.length by omega),Bool.and_self,cnd_t,Int.toNat_natCast,hoD,cnd_T (show (r.length+(Prod.fst (cs.getD o cD)).length)*8≤140737488355328 by omega),hri,obind_s,eo2,obind_s,cnd_t,hput]
    rw[wr_m (z:=(o:Int)+1) (by omega) (by omega)]
    simp only[cut_lo,cut_hi,cut_lo2,cut_hi2,g_none,g_some,z_add,s_zero,d_zero,Int.toNat_natCast]
    rw[hcl,show o+1+(cs.length-(o+1))=(putL cs [c] p).length by omega,List.take_length,hE1]
    rw[cnd_T (by omega),cnd_T (by omega),cnd_T (by rw[List.length_take];omega),cnd_T (by omega),cnd_T (by omega),cnd_T (by rw[List.length_take,List.length_drop];omega),obind_s,hpos,obind_s]
    rw[dT (show (0:Int)≤((pos p o:Nat):Int) by omega),dT (show ((pos p o:Nat):Int)<E.length by omega),Bool.and_self,cnd_t,Int.toNat_natCast,wr_m (z:=3*k) (by omega) (by omega),wr_m (z:=3*k-1) (by omega) (by omega)]
    exact hfin
  · rintro v ⟨i,rfl,hi⟩
    try simp only
    by_cases c2:(i:Int)<out.length
    case neg=>
      right
      rw[dF c2,cnd_f,List.take_of_length_le (by omega),hlead]
      exact⟨_,rfl,rfl⟩
    left
    have hts:=take_snocC (l:=out) (k:=i) (by omega)
    have hsn:=repl_snoc [] p p (out.take i) 0 (out.getD i cD)
    rw[←hts,List.length_take,show 0+min i out.length=i by omega] at hsn
    have hrl':=repl_len [] p p (out.take i) 0
    have hrl2:((repl [] p p 0 (out.take i)).map (fun c:Cl=>c.2)).length≤16:=by
      rw[List.length_map]
      rw[List.length_take] at hrl'
      split at hrl'<;>split at hrl'<;>(try simp only[List.length_nil] at hrl')<;>omega
    refine⟨(((i+1:Nat):Int),out,(repl [] p p 0 (out.take (i+1))).map (fun c=>c.2)),?_,⟨i+1,rfl,by omega⟩,by simp only;omega⟩
    rw[dT c2,cnd_t,wr_m (z:=(i:Int)+1) (by omega) (by omega),hsn,show ((i+1:Nat):Int)=i+1 by omega]
    by_cases c3:i=p
    · rw[if_pos c3,List.append_nil,dF (show ¬(i:Int)≠p by omega),cnd_f]
    · rw[if_neg c3,if_neg c3,dT (show (i:Int)≠p by omega),cnd_t,dT (show (0:Int)≤(i:Int) by omega),Bool.and_self,cnd_t,cnd_T (by omega),Int.toNat_natCast,List.map_append]
      rfl
theorem Leave7 (N:Nat) {D:List (List Int)} (hD:GD D) (h0:Z0 D) {k:Int} (hk:1≤k∧k≤3) (hN:1000≤N) {L:Lv} (h:Hw N D k L) (id:Int):∃L',W_aV N ((k,D,L),id)=some (k,D,L')∧Hw N D k L':=by
  unfold W_aV V_aV
  try simp only
  rw[rMay_eq N hD h0 hN,obind_s,Bool.not_true,cnd_f,obind_s]
  try simp only
  rcases h with rfl | ⟨cs,hR⟩
  · rw[dT (show ((([]:Lv).length:Nat):Int)=0 from rfl),cnd_t]
    exact⟨_,rfl,.inl rfl⟩
  · obtain⟨R,e⟩:=hR.hd
    have hg:L.getD 0 []=cs:=by rw[e];rfl
    have hlp:(0:Int)<(L.length:Int):=by rw[e,List.length_cons];omega
    rw[dF (show ¬(L.length:Int)=0 by omega),cnd_f,dT hlp,dT (show (0:Int)≤0 by omega),Bool.and_self,cnd_t,hg]
    by_cases q3:In cs id
    · obtain⟨p,hp,hx⟩:=In_at q3
      rw[Home_at N hR.c (by have:=Cs_len hR.c;omega) hp hx hN,obind_s,dF (show ¬(p:Int)<0 by omega),cnd_f,cnd_t]
      obtain⟨x,ex,hx⟩:=LeaveClus7 N hD hR.c (id:=id) hk hN
      rw[ex,obind_s]
      by_cases c:x.length=0
      · have:x=[]:=List.eq_nil_of_length_eq_zero c
        subst this
        rw[above_nil N hN,obind_s]
        exact⟨_,rfl,.inl rfl⟩
      · obtain⟨L',hR'⟩:=Rr_ex N hD hk hN _ x (Nat.le_refl _) (by omega) hx
        rw[above7 N hN hR' L,obind_s]
        exact⟨_,rfl,.inr ⟨x,hR'⟩⟩
    · rw[Home_no N hR.c (by have:=Cs_len hR.c;omega) (fun j hj hx=>q3 (In_of hj hx)) hN,obind_s,dT (show (-1:Int)<0 by omega),cnd_t]
      exact⟨_,rfl,.inr ⟨cs,hR⟩⟩

def U8 (l:List Int):Prop:=∀n∈l,0≤n∧n≤255
theorem U8_get {a:List Int} (ha:U8 a) (j:Nat) (hj:j<a.length):0≤a.getD j 0∧a.getD j 0≤255:=by
  rw[List.getD_eq_getElem?_getD,List.getElem?_eq_getElem hj]
  exact ha _ (List.getElem_mem hj)
def dv (k:Int):Int:=List.getD [(1:Int),(2:Int),(3:Int),(5:Int),(9:Int),(9:Int),(20:Int),(1000:Int),(0:Int)] (Int.toNat k) (0:Int)
theorem dv_rng (k:Int):0≤dv k∧dv k≤1000:=by
  unfold dv
  generalize k.toNat=j
  match j with
  | 0 | 1 | 2 | 3 | 4 | 5 | 6 | 7 | 8=>decide
  | j+9=>simp[List.getD_eq_getElem?_getD]
theorem lt8 {P:Nat→Prop} (h0:P 0) (h1:P 1) (h2:P 2) (h3:P 3) (h4:P 4) (h5:P 5) (h6:P 6) (h7:P 7):∀i,i<8→P i
  | 0,_=>h0 | 1,_=>h1 | 2,_=>h2 | 3,_=>h3 | 4,_=>h4 | 5,_=>h5 | 6,_=>h6 | 7,_=>h7
  | n+8,h=>by omega
theorem Num_spec (N:Nat) (m:Int) (l:List Int) (n:Int) (hU:U8 l) (hl:l.length≤1000) (h0:0≤n) (h1:n≤l.length) (hm:1≤m) (hm2:m≤255):∃v n',W_a N (m,l,n)=some (v,l,n')∧0≤v∧v<m∧0≤n'∧n'≤l.length:=by
  unfold W_a V_a
  try simp only
  by_cases hn:(l.length:Int)≤n
  · rw[dT hn,cnd_t];exact⟨_,_,rfl,by omega,by omega,h0,h1⟩
  have w:wr .i64 (wr .i64 (n+1)-1)=n:=by rw[wr_m (z:=n+1) (by omega) (by omega),wr_m (z:=n+1-1) (by omega) (by omega)];omega
  have g:=U8_get hU n.toNat (by omega)
  rw[w,wr_m (z:=n+1) (by omega) (by omega)]
  clear w
  rw[dF hn,cnd_f,dF (show ¬m<1 by omega),cnd_f,dT h0,dT (show n<l.length by omega),Bool.and_self,cnd_t,dF (show ¬m=0 by omega),Bool.not_false,cnd_t,wr_m (by omega) (by omega)]
  exact⟨_,_,rfl,Int.tmod_nonneg _ g.1,Int.tmod_lt_of_pos _ (by omega),by omega,by omega⟩
theorem Dist_spec0 (N:Nat) (l:List Int) (n:Int) (hU:U8 l) (hl:l.length≤1000) (h0:0≤n) (h1:n≤l.length):∃D n',W_P N (l,n)=some (D,l,n')∧GD D∧Z0 D∧0≤n'∧n'≤l.length:=by
  unfold W_P V_P
  try simp only
  obtain⟨v0,n0,e0,p0,q0,r0,s0⟩:=Num_spec N 9 l n hU hl h0 h1 (by omega) (by omega)
  rw[e0,obind_s,dT p0,cnd_t,dT (show v0<((9:Nat):Int) from q0),cnd_t]
  obtain⟨v1,n1,e1,p1,q1,r1,s1⟩:=Num_spec N 9 l n0 hU hl r0 s0 (by omega) (by omega)
  rw[e1,obind_s,dT p1,cnd_t,dT (show v1<((9:Nat):Int) from q1),cnd_t]
  obtain⟨v2,n2,e2,p2,q2,r2,s2⟩:=Num_spec N 9 l n1 hU hl r1 s1 (by omega) (by omega)
  rw[e2,obind_s,dT p2,cnd_t,dT (show v2<((9:Nat):Int) from q2),cnd_t]
  obtain⟨v3,n3,e3,p3,q3,r3,s3⟩:=Num_spec N 9 l n2 hU hl r2 s2 (by omega) (by omega)
  rw[e3,obind_s,dT p3,cnd_t,dT (show v3<((9:Nat):Int) from q3),cnd_t]
  obtain⟨v4,n4,e4,p4,q4,r4,s4⟩:=Num_spec N 9 l n3 hU hl r3 s3 (by omega) (by omega)
  rw[e4,obind_s,dT p4,cnd_t,dT (show v4<((9:Nat):Int) from q4),cnd_t]
  obtain⟨v5,n5,e5,p5,q5,r5,s5⟩:=Num_spec N 9 l n4 hU hl r4 s4 (by omega) (by omega)
  rw[e5,obind_s,dT p5,cnd_t,dT (show v5<((9:Nat):Int) from q5),cnd_t]
  obtain⟨v6,n6,e6,p6,q6,r6,s6⟩:=Num_spec N 9 l n5 hU hl r5 s5 (by omega) (by omega)
  rw[e6,obind_s,dT p6,cnd_t,dT (show v6<((9:Nat):Int) from q6),cnd_t]
  obtain⟨v7,n7,e7,p7,q7,r7,s7⟩:=Num_spec N 9 l n6 hU hl r6 s6 (by omega) (by omega)
  rw[e7,obind_s,dT p7,cnd_t,dT (show v7<((9:Nat):Int) from q7),cnd_t]
  obtain⟨v8,n8,e8,p8,q8,r8,s8⟩:=Num_spec N 9 l n7 hU hl r7 s7 (by omega) (by omega)
  rw[e8,obind_s,dT p8,cnd_t,dT (show v8<((9:Nat):Int) from q8),cnd_t]
  obtain⟨v9,n9,e9,p9,q9,r9,s9⟩:=Num_spec N 9 l n8 hU hl r8 s8 (by omega) (by omega)
  rw[e9,obind_s,dT p9,cnd_t,dT (show v9<((9:Nat):Int) from q9),cnd_t]
  obtain⟨v10,n10,e10,p10,q10,r10,s10⟩:=Num_spec N 9 l n9 hU hl r9 s9 (by omega) (by omega)
  rw[e10,obind_s,dT p10,cnd_t,dT (show v10<((9:Nat):Int) from q10),cnd_t]
  obtain⟨v11,n11,e11,p11,q11,r11,s11⟩:=Num_spec N 9 l n10 hU hl r10 s10 (by omega) (by omega)
  rw[e11,obind_s,dT p11,cnd_t,dT (show v11<((9:Nat):Int) from q11),cnd_t]
  obtain⟨v12,n12,e12,p12,q12,r12,s12⟩:=Num_spec N 9 l n11 hU hl r11 s11 (by omega) (by omega)
  rw[e12,obind_s,dT p12,cnd_t,dT (show v12<((9:Nat):Int) from q12),cnd_t]
  obtain⟨v13,n13,e13,p13,q13,r13,s13⟩:=Num_spec N 9 l n12 hU hl r12 s12 (by omega) (by omega)
  rw[e13,obind_s,dT p13,cnd_t,dT (show v13<((9:Nat):Int) from q13),cnd_t]
  obtain⟨v14,n14,e14,p14,q14,r14,s14⟩:=Num_spec N 9 l n13 hU hl r13 s13 (by omega) (by omega)
  rw[e14,obind_s,dT p14,cnd_t,dT (show v14<((9:Nat):Int) from q14),cnd_t]
  obtain⟨v15,n15,e15,p15,q15,r15,s15⟩:=Num_spec N 9 l n14 hU hl r14 s14 (by omega) (by omega)
  rw[e15,obind_s,dT p15,cnd_t,dT (show v15<((9:Nat):Int) from q15),cnd_t]
  obtain⟨v16,n16,e16,p16,q16,r16,s16⟩:=Num_spec N 9 l n15 hU hl r15 s15 (by omega) (by omega)
  rw[e16,obind_s,dT p16,cnd_t,dT (show v16<((9:Nat):Int) from q16),cnd_t]
  obtain⟨v17,n17,e17,p17,q17,r17,s17⟩:=Num_spec N 9 l n16 hU hl r16 s16 (by omega) (by omega)
  rw[e17,obind_s,dT p17,cnd_t,dT (show v17<((9:Nat):Int) from q17),cnd_t]
  obtain⟨v18,n18,e18,p18,q18,r18,s18⟩:=Num_spec N 9 l n17 hU hl r17 s17 (by omega) (by omega)
  rw[e18,obind_s,dT p18,cnd_t,dT (show v18<((9:Nat):Int) from q18),cnd_t]
  obtain⟨v19,n19,e19,p19,q19,r19,s19⟩:=Num_spec N 9 l n18 hU hl r18 s18 (by omega) (by omega)
  rw[e19,obind_s,dT p19,cnd_t,dT (show v19<((9:Nat):Int) from q19),cnd_t]
  obtain⟨v20,n20,e20,p20,q20,r20,s20⟩:=Num_spec N 9 l n19 hU hl r19 s19 (by omega) (by omega)
  rw[e20,obind_s,dT p20,cnd_t,dT (show v20<((9:Nat):Int) from q20),cnd_t]
  obtain⟨v21,n21,e21,p21,q21,r21,s21⟩:=Num_spec N 9 l n20 hU hl r20 s20 (by omega) (by omega)
  rw[e21,obind_s,dT p21,cnd_t,dT (show v21<((9:Nat):Int) from q21),cnd_t]
  obtain⟨v22,n22,e22,p22,q22,r22,s22⟩:=Num_spec N 9 l n21 hU hl r21 s21 (by omega) (by omega)
  rw[e22,obind_s,dT p22,cnd_t,dT (show v22<((9:Nat):Int) from q22),cnd_t]
  obtain⟨v23,n23,e23,p23,q23,r23,s23⟩:=Num_spec N 9 l n22 hU hl r22 s22 (by omega) (by omega)
  rw[e23,obind_s,dT p23,cnd_t,dT (show v23<((9:Nat):Int) from q23),cnd_t]
  obtain⟨v24,n24,e24,p24,q24,r24,s24⟩:=Num_spec N 9 l n23 hU hl r23 s23 (by omega) (by omega)
  rw[e24,obind_s,dT p24,cnd_t,dT (show v24<((9:Nat):Int) from q24),cnd_t]
  obtain⟨v25,n25,e25,p25,q25,r25,s25⟩:=Num_spec N 9 l n24 hU hl r24 s24 (by omega) (by omega)
  rw[e25,obind_s,dT p25,cnd_t,dT (show v25<((9:Nat):Int) from q25),cnd_t]
  obtain⟨v26,n26,e26,p26,q26,r26,s26⟩:=Num_spec N 9 l n25 hU hl r25 s25 (by omega) (by omega)
  rw[e26,obind_s,dT p26,cnd_t,dT (show v26<((9:Nat):Int) from q26),cnd_t]
  obtain⟨v27,n27,e27,p27,q27,r27,s27⟩:=Num_spec N 9 l n26 hU hl r26 s26 (by omega) (by omega)
  rw[e27,obind_s,dT p27,cnd_t,dT (show v27<((9:Nat):Int) from q27),cnd_t]
  refine⟨[[(0:Int),dv v0,dv v1,dv v3,dv v6,dv v10,dv v15,dv v21],[dv v0,(0:Int),dv v2,dv v4,dv v7,dv v11,dv v16,dv v22],[dv v1,dv v2,(0:Int),dv v5,dv v8,dv v12,dv v17,dv v23],[dv v3,dv v4,dv v5,(0:Int),dv v9,dv v13,dv v18,dv v24],[dv v6,dv v7,dv v8,dv v9,(0:Int),dv v14,dv v19,dv v25],[dv v10,dv v11,dv v12,dv v13,dv v14,(0:Int),dv v20,dv v26],[dv v15,dv v16,dv v17,dv v18,dv v19,dv v20,(0:Int),dv v27],[dv v21,dv v22,dv v23,dv v24,dv v25,dv v26,dv v27,(0:Int)]],n27,rfl,?_,lt8 rfl rfl rfl rfl rfl rfl rfl rfl,r27,s27⟩
  have d0:=dv_rng v0
  have d1:=dv_rng v1
  have d2:=dv_rng v2
  have d3:=dv_rng v3
  have d4:=dv_rng v4
  have d5:=dv_rng v5
  have d6:=dv_rng v6
  have d7:=dv_rng v7
  have d8:=dv_rng v8
  have d9:=dv_rng v9
  have d10:=dv_rng v10
  have d11:=dv_rng v11
  have d12:=dv_rng v12
  have d13:=dv_rng v13
  have d14:=dv_rng v14
  have d15:=dv_rng v15
  have d16:=dv_rng v16
  have d17:=dv_rng v17
  have d18:=dv_rng v18
  have d19:=dv_rng v19
  have d20:=dv_rng v20
  have d21:=dv_rng v21
  have d22:=dv_rng v22
  have d23:=dv_rng v23
  have d24:=dv_rng v24
  have d25:=dv_rng v25
  have d26:=dv_rng v26
  have d27:=dv_rng v27
  generalize dv v0=w0 at *
  generalize dv v1=w1 at *
  generalize dv v2=w2 at *
  generalize dv v3=w3 at *
  generalize dv v4=w4 at *
  generalize dv v5=w5 at *
  generalize dv v6=w6 at *
  generalize dv v7=w7 at *
  generalize dv v8=w8 at *
  generalize dv v9=w9 at *
  generalize dv v10=w10 at *
  generalize dv v11=w11 at *
  generalize dv v12=w12 at *
  generalize dv v13=w13 at *
  generalize dv v14=w14 at *
  generalize dv v15=w15 at *
  generalize dv v16=w16 at *
  generalize dv v17=w17 at *
  generalize dv v18=w18 at *
  generalize dv v19=w19 at *
  generalize dv v20=w20 at *
  generalize dv v21=w21 at *
  generalize dv v22=w22 at *
  generalize dv v23=w23 at *
  generalize dv v24=w24 at *
  generalize dv v25=w25 at *
  generalize dv v26=w26 at *
  generalize dv v27=w27 at *
  refine⟨rfl,lt8 rfl rfl rfl rfl rfl rfl rfl rfl,?_,fun i j hi hj=>lt8 (P:=fun i=>∀j,j<8→gd [[(0:Int),w0,w1,w3,w6,w10,w15,w21],[w0,(0:Int),w2,w4,w7,w11,w16,w22],[w1,w2,(0:Int),w5,w8,w12,w17,w23],[w3,w4,w5,(0:Int),w9,w13,w18,w24],[w6,w7,w8,w9,(0:Int),w14,w19,w25],[w10,w11,w12,w13,w14,(0:Int),w20,w26],[w15,w16,w17,w18,w19,w20,(0:Int),w27],[w21,w22,w23,w24,w25,w26,w27,(0:Int)]] i j=gd [[(0:Int),w0,w1,w3,w6,w10,w15,w21],[w0,(0:Int),w2,w4,w7,w11,w16,w22],[w1,w2,(0:Int),w5,w8,w12,w17,w23],[w3,w4,w5,(0:Int),w9,w13,w18,w24],[w6,w7,w8,w9,(0:Int),w14,w19,w25],[w10,w11,w12,w13,w14,(0:Int),w20,w26],[w15,w16,w17,w18,w19,w20,(0:Int),w27],[w21,w22,w23,w24,w25,w26,w27,(0:Int)]] j i) (lt8 rfl rfl rfl rfl rfl rfl rfl rfl) (lt8 rfl rfl rfl rfl rfl rfl rfl rfl) (lt8 rfl rfl rfl rfl rfl rfl rfl rfl) (lt8 rfl rfl rfl rfl rfl rfl rfl rfl) (lt8 rfl rfl rfl rfl rfl rfl rfl rfl) (lt8 rfl rfl rfl rfl rfl rfl rfl rfl) (lt8 rfl rfl rfl rfl rfl rfl rfl rfl) (lt8 rfl rfl rfl rfl rfl rfl rfl rfl) i hi j hj⟩
  have z:(0:Int)≤0∧(0:Int)≤1000:=⟨by omega,by omega⟩
  refine fun i j hi hj=>lt8 (P:=fun i=>∀j,j<8→0≤gd [[(0:Int),w0,w1,w3,w6,w10,w15,w21],[w0,(0:Int),w2,w4,w7,w11,w16,w22],[w1,w2,(0:Int),w5,w8,w12,w17,w23],[w3,w4,w5,(0:Int),w9,w13,w18,w24],[w6,w7,w8,w9,(0:Int),w14,w19,w25],[w10,w11,w12,w13,w14,(0:Int),w20,w26],[w15,w16,w17,w18,w19,w20,(0:Int),w27],[w21,w22,w23,w24,w25,w26,w27,(0:Int)]] i j∧gd [[(0:Int),w0,w1,w3,w6,w10,w15,w21],[w0,(0:Int),w2,w4,w7,w11,w16,w22],[w1,w2,(0:Int),w5,w8,w12,w17,w23],[w3,w4,w5,(0:Int),w9,w13,w18,w24],[w6,w7,w8,w9,(0:Int),w14,w19,w25],[w10,w11,w12,w13,w14,(0:Int),w20,w26],[w15,w16,w17,w18,w19,w20,(0:Int),w27],[w21,w22,w23,w24,w25,w26,w27,(0:Int)]] i j≤1000) ?_ ?_ ?_ ?_ ?_ ?_ ?_ ?_ i hi j hj
  · exact lt8 z d0 d1 d3 d6 d10 d15 d21
  · exact lt8 d0 z d2 d4 d7 d11 d16 d22
  · exact lt8 d1 d2 z d5 d8 d12 d17 d23
  · exact lt8 d3 d4 d5 z d9 d13 d18 d24
  · exact lt8 d6 d7 d8 d9 z d14 d19 d25
  · exact lt8 d10 d11 d12 d13 d14 z d20 d26
  · exact lt8 d15 d16 d17 d18 d19 d20 z d27
  · exact lt8 d21 d22 d23 d24 d25 d26 d27 z

theorem wr_s {z:Int} (h:0≤z) (h2:z≤140737488355328):wr .i64 z=z:=wr_i64 (by omega) (by omega)
theorem loop_G {σ ρ β:Type} {f:σ→Option (σ⊕ρ)} {g:ρ→Option β} {x:σ} {N:Nat} (Q:Option β→Prop) (I:Nat→σ→Prop) (B:Nat) (J:ρ→Prop) (hx:I 0 x) (hm:B<N) (hk:∀r,J r→Q (g r)) (hb:∀k x,I k x→k≤B)
    (hs:∀k x,I k x→(∃y,f x=some (.inl y)∧I (k+1) y)∨∃r,f x=some (.inr r)∧J r):Q (obind (loopN N f x) g):=by
  obtain⟨r,h1,h2⟩:=loopG I B J hb hs N 0 x hx (by omega)
  rw[h1];exact hk r h2
theorem tm (x k:Int) (h:0≤x):Int.tmod x k=x % k:=Int.tmod_eq_emod_of_nonneg h
abbrev Kd:=Int×Int×Int
abbrev kD:Kd:=((0:Int),(0:Int),(0:Int))
abbrev Ms:=Int×Int×Int×Int×Int×Int×List Int×Int×Int×List UInt8
abbrev TT:=Int×Int×Int×Int×Int×Int×List Int×Int×Int×Int×Int×Int×List Kd
theorem drop_consK {l:List Kd} {i:Nat} (h:i<l.length):l.drop i=l.getD i kD::l.drop (i+1):=by
  rw[List.drop_eq_getElem_cons h,List.getD_eq_getElem?_getD,List.getElem?_eq_getElem h];rfl
theorem getD_memK {l:List Kd} {i:Nat} (h:i<l.length):l.getD i kD∈l:=by
  rw[List.getD_eq_getElem?_getD,List.getElem?_eq_getElem h];exact List.getElem_mem h
def Kw (n:Int):List Kd→Prop
  | []=>True
  | w::r=>n≤w.1∧w.1≤8∧Kw (w.1+1) r
theorem Kw.mono:∀{l:List Kd} {n n':Int},Kw n l→n'≤n→Kw n' l
  | [],_,_,_,_=>trivial
  | w::r,n,n',h,h1=>⟨by have:=h.1;omega,h.2.1,h.2.2⟩
theorem Kw.len:∀{l:List Kd} {n:Int},Kw n l→n≤9→(l.length:Int)≤9-n
  | [],_,_,_=>by simp;omega
  | w::r,n,h,h1=>by
    have:=h.2.2.len (by have:=h.2.1;omega)
    have:=h.1
    simp only[List.length_cons];omega
theorem Kw.mem:∀{l:List Kd} {n:Int},Kw n l→∀w∈l,n≤w.1∧w.1≤8
  | [],_,_,_,h=>by simp at h
  | x::r,n,h,w,hw=>by
    rcases List.mem_cons.1 hw with rfl | hw
    · exact⟨h.1,h.2.1⟩
    · have:=h.2.2.mem w hw;have:=h.1;omega
theorem Kw.filter (p:Kd→Bool):∀{l:List Kd} {n:Int},Kw n l→Kw n (l.filter p)
  | [],_,_=>trivial
  | w::r,n,h=>by
    rw[List.filter_cons]
    split
    · exact⟨h.1,h.2.1,Kw.filter p h.2.2⟩
    · exact(Kw.filter p h.2.2).mono (by have:=h.1;omega)
def findK:List Kd→Int→Bool×Kd
  | [],_=>(false,kD)
  | w::r,s=>if w.1=s then(true,w) else findK r s
def putK (k:Kd):List Kd→List Kd
  | []=>[k]
  | w::r=>if w.1=k.1 then k::r else if k.1<w.1 then k::w::r else w::putK k r
theorem Kw.put:∀{l:List Kd} {n:Int} {k:Kd},Kw n l→n≤k.1→k.1≤8→Kw n (putK k l)
  | [],_,_,_,h1,h2=>⟨h1,h2,trivial⟩
  | w::r,n,k,h,h1,h2=>by
    simp only[putK]
    by_cases c:w.1=k.1
    · rw[if_pos c];exact⟨h1,h2,by rw[←c];exact h.2.2⟩
    · rw[if_neg c]
      by_cases c2:k.1<w.1
      · rw[if_pos c2];exact⟨h1,h2,by omega,h.2.1,h.2.2⟩
      · rw[if_neg c2];exact⟨h.1,h.2.1,h.2.2.put (by omega) h2⟩
theorem putK_mem (k:Kd):∀(l:List Kd) (w:Kd),w∈putK k l→w=k∨w∈l
  | [],w,h=>by simp[putK] at h;exact .inl h
  | y::r,w,h=>by
    simp only[putK] at h
    split at h
    · rcases List.mem_cons.1 h with h | h
      · exact .inl h
      · exact .inr (by simp[h])
    · split at h
      · rcases List.mem_cons.1 h with h | h
        · exact .inl h
        · exact .inr h
      · rcases List.mem_cons.1 h with h | h
        · exact .inr (by simp[h])
        · rcases putK_mem k r w h with h | h
          · exact .inl h
          · exact .inr (by simp[h])
def oldK (l:List Kd) (id inc:Int):Bool:=(findK l id).1&&decide (inc<(findK l id).2.2.1)
theorem getD_mem_2 {l:List Int} {j:Nat} (h:j<l.length):l.getD j 0∈l:=by
  rw[List.getD_eq_getElem?_getD,List.getElem?_eq_getElem h];exact List.getElem_mem h
theorem mem_getD {l:List Int} {x:Int} (h:x∈l):∃j,j<l.length∧l.getD j 0=x:=by
  obtain⟨j,hj,e⟩:=List.getElem_of_mem h
  exact⟨j,hj,by rw[List.getD_eq_getElem?_getD,List.getElem?_eq_getElem hj];exact e⟩
def VP (x:List Int):Prop:=1≤x.length∧x.length≤10∧x.getD 0 0=1∧∀j,j<x.length→1≤x.getD j 0∧x.getD j 0≤8∧x.getD j 0∉x.take j
open Classical in
theorem all_loop {N len:Nat} {β:Type} {f:Int→Option (Int⊕(PUnit⊕β))} (bad:Nat→Prop) (r:β) (hN:len<N)
    (hf:∀v:Int,0≤v→v<len→f v=if bad v.toNat then some (.inr (.inr r)) else some (.inl (v+1))) (he:∀v:Int,0≤v→¬v<len→f v=some (.inr (.inl ()))):
    loopN N f (Int.ofNat 0)=some (if ∃j,j<len∧bad j then .inr r else .inl ()):=by
  obtain ⟨q, h1, h2⟩ := loopN_run (N := N) (f := f) (x := Int.ofNat 0) (fun v => 0 ≤ v ∧ v ≤ len ∧ ∀ j : Nat, (j : Int) < v → ¬ bad j) (fun v => len - v.toNat)
    (fun q=>q=if ∃j,j<len∧bad j then .inr r else .inl ()) (fun v ⟨g1,g2,g3⟩=>by
      by_cases h:v<len
      · rw[hf v g1 h]
        by_cases hb:bad v.toNat
        · right
          rw[if_pos hb]
          exact⟨_,rfl,by rw[if_pos ⟨v.toNat,by omega,hb⟩]⟩
        · left
          rw[if_neg hb]
          refine⟨_,rfl,⟨by omega,by omega,fun j hj=>?_⟩,by omega⟩
          by_cases hjv:(j:Int)<v
          · exact g3 j hjv
          · have:j=v.toNat:=by omega
            subst this;exact hb
      · right
        rw[he v g1 h]
        exact⟨_,rfl,by rw[if_neg];rintro⟨j,hj,hb⟩;exact g3 j (by omega) hb⟩) ⟨by simp,by simp,fun j hj=>by simp at hj;omega⟩ (by simp;omega)
  rw[h1,h2]
open Classical in
theorem rHas_eq (N:Nat) (l:List Int) (x:Int) (hN:l.length<N) (hl:l.length≤140737488355327):W_c N (l,x)=some (decide (x∈l)):=by
  unfold W_c V_c
  try simp only
  rw[all_loop (len:=l.length) (fun j=>l.getD j 0=x) true hN (fun v h1 h2=>by
    rw[dT h2,cnd_t,dT h1,Bool.and_self,cnd_t]
    by_cases h:l.getD v.toNat 0=x
    · rw[dT h,cnd_t,if_pos h]
    · rw[dF h,cnd_f,if_neg h,wr_s (by omega) (by omega)]) (fun v _ h=>by rw[dF h,cnd_f]),obind_s]
  by_cases h:x∈l
  · rw[if_pos (mem_getD h),selim_r,dT h]
  · rw[if_neg (fun⟨j,hj,e⟩=>h (e▸getD_mem_2 hj)),selim_l,dF h]
open Classical in
theorem rMay_eq_2 (N:Nat) (x:List Int) (hN:12≤N):W_J N x=some (decide (VP x)):=by
  unfold W_J V_J
  by_cases h1:(x.length:Int)<1
  · rw[dT h1,cnd_t,obind_s,cnd_t,dF (fun h=>by have:=h.1;omega)]
  rw[dF h1,cnd_f,obind_s]
  by_cases h2:(10:Int)<x.length
  · rw[dT h2,cnd_t,dF (fun h=>by have:=h.2.1;omega)]
  rw[dF h2,cnd_f,dT (show (0:Int)≤0 by omega),dT (show (0:Int)<x.length by omega),Bool.and_self,cnd_t]
  by_cases h3:x.getD 0 0=1
  case neg=>rw[dT h3,cnd_t,dF (fun h=>h3 h.2.2.1)]
  rw[dF (by simpa using h3),cnd_f]
  rw[all_loop (len:=x.length) (fun j=>¬(1≤x.getD j 0∧x.getD j 0≤8∧x.getD j 0∉x.take j)) false (by omega) (fun v g1 g2=>by
    rw[dT g2,dT g1,cnd_t,Bool.and_self,cnd_t,dT (show v≤x.length by omega),cnd_t,Bool.and_self,cnd_t,cnd_t,List.drop_zero]
    by_cases b1:x.getD v.toNat 0<1
    · rw[dT b1,cnd_t,if_pos (fun h=>by omega)]
    rw[dF b1,cnd_f]
    by_cases b2:8<x.getD v.toNat 0
    · rw[dT b2,cnd_t,if_pos (fun h=>by omega)]
    rw[dF b2,cnd_f,rHas_eq N _ _ (by rw[List.length_take];omega) (by rw[List.length_take];omega),obind_s]
    by_cases b3:x.getD v.toNat 0∈x.take v.toNat
    · rw[dT b3,cnd_t,if_pos (fun h=>h.2.2 b3)]
    rw[dF b3,cnd_f,if_neg (fun h=>h ⟨by omega,by omega,b3⟩),wr_s (by omega) (by omega)]) (fun v _ h=>by rw[dF h,cnd_f]),obind_s]
  by_cases hv:VP x
  · rw[if_neg (fun⟨j,hj,hb⟩=>hb (hv.2.2.2 j hj)),selim_l,dT hv]
  · rw[if_pos,selim_r,dF hv]
    refine Classical.byContradiction fun hn=>hv ⟨by omega,by omega,h3,fun j hj=>Classical.byContradiction fun hb=>hn ⟨j,hj,hb⟩⟩
open Classical in
theorem rAdd_eq (N:Nat) (p:List Int) (id:Int) (hN:12≤N) (hl:p.length≤1000):W_K N (p,id)=some (if VP (p++[id]) then(p++[id],true) else([],false)):=by
  unfold W_K V_K
  try simp only
  rw[dT (by omega),cnd_t,dT (by simp;omega),cnd_t,rMay_eq_2 N _ hN,obind_s]
  by_cases h:VP (p++[id])
  · rw[dT h,if_pos h,Bool.not_true,cnd_f]
  · rw[dF h,if_neg h,Bool.not_false,cnd_t]
def ownF (m:Ms):Ms:=
  if m.1=2 then(m.1,m.2.1,m.2.2.1,m.2.2.2.1,m.2.2.2.2.1,m.2.2.2.2.2.1,m.2.2.2.2.2.2.1,m.2.2.2.2.2.2.2.1,0,[])
  else if m.1=5 then(m.1,m.2.1,m.2.2.1,m.2.2.2.1,m.2.2.2.2.1,m.2.2.2.2.2.1,m.2.2.2.2.2.2.1,0,m.2.2.2.2.2.2.2.2.1,[])
  else if m.1=7 then(m.1,m.2.1,m.2.2.1,m.2.2.2.1,0,0,[],m.2.2.2.2.2.2.2.1,0,m.2.2.2.2.2.2.2.2.2)
  else if m.1=8∨m.1=9 then(m.1,m.2.1,m.2.2.1,m.2.2.2.1,0,0,[],m.2.2.2.2.2.2.2.1,m.2.2.2.2.2.2.2.2.1,[])
  else(m.1,m.2.1,m.2.2.1,m.2.2.2.1,0,0,[],0,0,[])
def Fits (m:Ms):Prop:=
  if m.1=2∨m.1=5 then(0≤m.2.2.2.2.1∧m.2.2.2.2.1≤1073741824)∧(0≤m.2.2.2.2.2.1∧m.2.2.2.2.2.1≤1073741824)∧VP m.2.2.2.2.2.2.1∧(0≤m.2.2.2.2.2.2.2.1∧m.2.2.2.2.2.2.2.1≤1000000)∧(0≤m.2.2.2.2.2.2.2.2.1∧m.2.2.2.2.2.2.2.2.1≤1000000)
  else if m.1=7 then(1≤m.2.2.2.2.2.2.2.1∧m.2.2.2.2.2.2.2.1≤1000000)∧(m.2.2.2.2.2.2.2.2.2.length:Int)≤12
  else if m.1=8∨m.1=9 then(1≤m.2.2.2.2.2.2.2.1∧m.2.2.2.2.2.2.2.1≤m.2.2.2.2.2.2.2.2.1)∧m.2.2.2.2.2.2.2.2.1≤1000000
  else True
def MayP (m:Ms):Prop:=(1≤m.1∧m.1≤9)∧(1≤m.2.1∧m.2.1≤8)∧(1≤m.2.2.1∧m.2.2.1≤8)∧m.2.1≠m.2.2.1∧(1≤m.2.2.2.1∧m.2.2.2.1≤1073741824)∧m=ownF m∧Fits m
theorem filter1 (p:Kd→Bool) (x:Kd):[x].filter (fun k=>!p k)=if p x=true then [] else [x]:=by
  rw[List.filter_cons]
  cases p x<;>rfl
theorem take_snocK {l:List Kd} {k:Nat} (h:k<l.length):l.take (k+1)=l.take k++[l.getD k kD]:=by
  rw[List.take_succ_eq_append_getElem h,List.getD_eq_getElem?_getD,List.getElem?_eq_getElem h];rfl
def freshM:TT→Bool
  | (id,_,now,par,_,_,_,_,born,_,_,_,_)=>if id=1 then true else if par≠0 then decide (now-born≤20) else false
def letgo:TT→Int→TT
  | (id,inc,now,_,_,grd,_,ep,born,_,unt,_,kids),s=>(id,inc,now,0,0,grd,[],ep,born,0,unt,s,kids)
def vainM:TT→TT
  | (id,inc,now,par,pinc,grd,path,ep,born,_,unt,stp,kids)=>(id,inc,now,par,pinc,grd,path,ep,born,0,unt,stp+1,kids)
def sayM:TT→Int→Int→Ms
  | (id,inc,_),k,to=>(k,id,to,inc,0,0,[],0,0,[])
def fullM:TT→Int→Int→Int→Ms
  | (id,inc,now,_,_,_,path,ep,born,_),k,to,lo=>(k,id,to,inc,ep,now-born,path,lo,0,[])
def prK (now:Int) (l:List Kd):List Kd:=l.filter (fun k=>!decide (k.2.2<now-20))
def tick1:TT→TT
  | (id,inc,now,par,pinc,grd,path,ep,born,ask,unt,stp,kids)=>
    if id=1∧(now+1) % 2=0 then(id,inc,now+1,par,pinc,grd,path,ep+1,now+1,ask,unt,stp,prK (now+1) kids)
    else(id,inc,now+1,par,pinc,grd,path,ep,born,ask,unt,stp,prK (now+1) kids)
def tick2 (t:TT):TT:=if t.2.2.2.1≠0∧freshM t=false then letgo t 0 else t
def seekM:TT→TT×List Ms
  | (id,inc,now,par,pinc,grd,path,ep,born,ask,unt,stp,kids)=>
    if ask≠0 then
      if unt≤now then((id,inc,now,par,pinc,grd,path,ep,born,if stp+1=0∧grd≠0∧grd≠id then grd else 1,now+3,stp+1,kids),[(1,id,if stp+1=0∧grd≠0∧grd≠id then grd else 1,inc,0,0,[],0,0,[])])
      else((id,inc,now,par,pinc,grd,path,ep,born,ask,unt,stp,kids),[])
    else((id,inc,now,par,pinc,grd,path,ep,born,if stp=0∧grd≠0∧grd≠id then grd else 1,now+3,stp,kids),[(1,id,if stp=0∧grd≠0∧grd≠id then grd else 1,inc,0,0,[],0,0,[])])
def tick3 (t:TT):TT×List Ms:=if t.2.2.2.1=0∧t.1≠1 then seekM t else(t,[])
def beatM (t:TT):List Ms:=(if t.2.2.2.1≠0 then [sayM t 4 t.2.2.2.1] else [])++(if freshM t=true then t.2.2.2.2.2.2.2.2.2.2.2.2.map fun k=>fullM t 5 k.1 0 else [])
def tickM (t:TT):List Ms×TT:=
  let a:=tick3 (tick2 (tick1 t))
  (if (t.2.2.1+1) % 2=0 then a.2++beatM a.1 else a.2,a.1)
def Tb (B:Int):TT→Prop
  | (id,inc,now,par,pinc,grd,path,ep,born,ask,unt,stp,kids)=>(1≤id∧id≤8)∧(0≤now∧now≤B)∧(-1073741824≤born∧born≤B)∧(0≤stp∧stp≤B)∧(unt≤B+3∧0≤unt)∧(0≤ep∧ep≤B+1073741824)∧path.length≤10∧Kw 1 kids∧(0≤ask∧ask≤8)∧(0≤grd∧grd≤8)
theorem Tb.kl {B:Int} {t:TT} (h:Tb B t):t.2.2.2.2.2.2.2.2.2.2.2.2.length≤8:=by
  obtain⟨id,inc,now,par,pinc,grd,path,ep,born,ask,unt,stp,kids⟩:=t
  obtain⟨h1,h2,h3,h4,h5,h6,h7,h8,h9,h10⟩:=h
  have:=h8.len (by omega)
  simp only;omega
theorem Tb.mono {B B':Int} {t:TT} (h:Tb B t) (hB:B≤B'):Tb B' t:=by
  obtain⟨id,inc,now,par,pinc,grd,path,ep,born,ask,unt,stp,kids⟩:=t
  obtain⟨h1,h2,h3,h4,h5,h6,h7,h8,h9,h10⟩:=h
  exact⟨h1,by omega,by omega,by omega,by omega,by omega,h7,h8,h9,h10⟩
theorem tick1_def (id inc now par pinc grd:Int) (path:List Int) (ep born ask unt stp:Int) (kids:List Kd):tick1 (id,inc,now,par,pinc,grd,path,ep,born,ask,unt,stp,kids)=if id=1∧(now+1) % 2=0 then(id,inc,now+1,par,pinc,grd,path,ep+1,now+1,ask,unt,stp,prK (now+1) kids)
    else(id,inc,now+1,par,pinc,grd,path,ep,born,ask,unt,stp,prK (now+1) kids):=rfl
theorem Tb.t1 {B:Int} {t:TT} (h:Tb B t):Tb (B+1) (tick1 t):=by
  obtain⟨id,inc,now,par,pinc,grd,path,ep,born,ask,unt,stp,kids⟩:=t
  obtain⟨h1,h2,h3,h4,h5,h6,h7,h8,h9,h10⟩:=h
  rw[tick1_def]
  split
  · exact⟨h1,by omega,by omega,by omega,by omega,by omega,h7,h8.filter _,h9,h10⟩
  · exact⟨h1,by omega,by omega,by omega,by omega,by omega,h7,h8.filter _,h9,h10⟩
theorem Tb.off {B:Int} {t:TT} (h:Tb B t) {s:Int} (hs:0≤s∧s≤B):Tb B (letgo t s):=by
  obtain⟨id,inc,now,par,pinc,grd,path,ep,born,ask,unt,stp,kids⟩:=t
  obtain⟨h1,h2,h3,h4,h5,h6,h7,h8,h9,h10⟩:=h
  exact⟨h1,h2,h3,hs,h5,h6,by simp,h8,by omega,h10⟩
theorem Tb.b0 {B:Int} {t:TT} (h:Tb B t):0≤B:=by
  obtain⟨id,inc,now,par,pinc,grd,path,ep,born,ask,unt,stp,kids⟩:=t
  obtain⟨h1,h2,h3,h4,h5,h6,h7,h8,h9,h10⟩:=h
  omega
theorem Tb.t2 {B:Int} {t:TT} (h:Tb B t):Tb B (tick2 t):=by
  unfold tick2
  split
  · exact h.off ⟨by omega,h.b0⟩
  · exact h
theorem Tb.vain {B:Int} {t:TT} (h:Tb B t):Tb (B+1) (vainM t):=by
  obtain⟨id,inc,now,par,pinc,grd,path,ep,born,ask,unt,stp,kids⟩:=t
  obtain⟨h1,h2,h3,h4,h5,h6,h7,h8,h9,h10⟩:=h
  exact⟨h1,by omega,by omega,by omega,by omega,by omega,h7,h8,by omega,h10⟩
theorem Tb.seek {B:Int} {t:TT} (h:Tb B t):Tb (B+1) (seekM t).1∧(seekM t).2.length≤1:=by
  obtain⟨id,inc,now,par,pinc,grd,path,ep,born,ask,unt,stp,kids⟩:=t
  obtain⟨h1,h2,h3,h4,h5,h6,h7,h8,h9,h10⟩:=h
  unfold seekM
  try simp only
  split
  · split
    · exact⟨⟨h1,by omega,by omega,by omega,by omega,by omega,h7,h8,by split<;>omega,h10⟩,by simp⟩
    · exact⟨⟨h1,by omega,by omega,by omega,by omega,by omega,h7,h8,h9,h10⟩,by simp⟩
  · exact⟨⟨h1,by omega,by omega,by omega,by omega,by omega,h7,h8,by split<;>omega,h10⟩,by simp⟩
theorem Tb.t3 {B:Int} {t:TT} (h:Tb B t):Tb (B+1) (tick3 t).1∧(tick3 t).2.length≤1:=by
  unfold tick3
  split
  · exact h.seek
  · exact⟨h.mono (by omega),by simp⟩
def grandM (p:List Int):Int:=if (p.length:Int)<2 then 0 else p.getD (p.length-2) 0
def grdM (p:List Int):Int:=if grandM p=0 then 1 else grandM p
def isUp (t:TT) (m:Ms):Prop:=t.2.2.2.1≠0∧m.2.1=t.2.2.2.1
def isAsk (t:TT) (m:Ms):Prop:=t.2.2.2.2.2.2.2.2.2.1≠0∧m.2.1=t.2.2.2.2.2.2.2.2.2.1
instance (t:TT) (m:Ms):Decidable (isUp t m):=by unfold isUp;infer_instance
instance (t:TT) (m:Ms):Decidable (isAsk t m):=by unfold isAsk;infer_instance
def withK:TT→List Kd→TT
  | (id,inc,now,par,pinc,grd,path,ep,born,ask,unt,stp,_),kids=>(id,inc,now,par,pinc,grd,path,ep,born,ask,unt,stp,kids)
def hearM (l:List Kd) (k:Kd):List Kd:=if oldK l k.1 k.2.1=true then l else putK k l
def mostM (t:TT):Int:=if t.1=1 then 8 else 3
def attachM (t:TT) (m:Ms) (lo:Int):List Ms×TT:=
  if freshM t=false∨m.2.1∈t.2.2.2.2.2.2.1∨((findK t.2.2.2.2.2.2.2.2.2.2.2.2 m.2.1).1=false∧mostM t≤(t.2.2.2.2.2.2.2.2.2.2.2.2.length:Int)) then([sayM t 3 m.2.1],t)
  else([fullM t 2 m.2.1 lo],withK t (hearM t.2.2.2.2.2.2.2.2.2.2.2.2 (m.2.1,m.2.2.2.1,t.2.2.1)))
open Classical in
def acceptM (t:TT) (m:Ms):List Ms×TT:=
  if isUp t m then([],t) else if isAsk t m∧t.2.2.2.1=0 then
    if VP (m.2.2.2.2.2.2.1++[t.1])∧m.2.2.2.2.2.1≤20 then
      ([],(t.1,t.2.1,t.2.2.1,m.2.1,m.2.2.2.1,grdM m.2.2.2.2.2.2.1,m.2.2.2.2.2.2.1++[t.1],m.2.2.2.2.1,t.2.2.1-m.2.2.2.2.2.1,0,t.2.2.2.2.2.2.2.2.2.2.1,0,t.2.2.2.2.2.2.2.2.2.2.2.2))
    else([sayM t 6 m.2.1],vainM t)
  else([sayM t 6 m.2.1],t)
def refuseM (t:TT) (m:Ms):TT:=if isUp t m then letgo t 0 else if isAsk t m then vainM t else t
def beatUpM (t:TT) (m:Ms):List Ms×TT:=
  if (findK t.2.2.2.2.2.2.2.2.2.2.2.2 m.2.1).1=false then([sayM t 3 m.2.1],t) else([],withK t (hearM t.2.2.2.2.2.2.2.2.2.2.2.2 (m.2.1,m.2.2.2.1,t.2.2.1)))
open Classical in
def beatDnM (t:TT) (m:Ms):List Ms×TT:=
  if isUp t m then
    if VP (m.2.2.2.2.2.2.1++[t.1]) then
      ([],(t.1,t.2.1,t.2.2.1,t.2.2.2.1,t.2.2.2.2.1,grdM m.2.2.2.2.2.2.1,m.2.2.2.2.2.2.1++[t.1],if t.2.2.2.2.2.2.2.2.1<t.2.2.1-m.2.2.2.2.2.1 then m.2.2.2.2.1 else t.2.2.2.2.2.2.2.1,if t.2.2.2.2.2.2.2.2.1<t.2.2.1-m.2.2.2.2.2.1 then t.2.2.1-m.2.2.2.2.2.1 else t.2.2.2.2.2.2.2.2.1,t.2.2.2.2.2.2.2.2.2))
    else([sayM t 6 m.2.1],letgo t 1)
  else([sayM t 6 m.2.1],t)
def dispM (t:TT) (m:Ms) (lo:Int):List Ms×TT:=
  if m.1=1 then attachM t m lo else if m.1=2 then acceptM t m else if m.1=3 then([],refuseM t m) else if m.1=4 then beatUpM t m else if m.1=5 then beatDnM t m
  else if m.1=6 then([],withK t (t.2.2.2.2.2.2.2.2.2.2.2.2.filter fun k=>!decide (k.1=m.2.1))) else([],t)
def comesT (t:TT) (m:Ms) (lo:Int):List Ms×TT:=
  if oldK t.2.2.2.2.2.2.2.2.2.2.2.2 m.2.1 m.2.2.2.1=true then([],t) else
  if isUp t m then(if m.2.2.2.1<t.2.2.2.2.1 then([],t) else dispM (if t.2.2.2.2.1<m.2.2.2.1 then letgo t 0 else t) m lo) else dispM t m lo
structure Mb (m:Ms):Prop where
  fr:1≤m.2.1∧m.2.1≤8
  age:0≤m.2.2.2.2.2.1∧m.2.2.2.2.2.1≤1073741824
  ep:0≤m.2.2.2.2.1∧m.2.2.2.2.1≤1073741824
  pl:m.2.2.2.2.2.2.1.length≤1000
theorem Tb.pl {B:Int} {t:TT} (h:Tb B t):t.2.2.2.2.2.2.1.length≤10:=by
  obtain⟨id,inc,now,par,pinc,grd,path,ep,born,ask,unt,stp,kids⟩:=t
  obtain⟨h1,h2,h3,h4,h5,h6,h7,h8,h9,h10⟩:=h
  exact h7
theorem Tb.wk {B:Int} {t:TT} (h:Tb B t) {l:List Kd} (hl:Kw 1 l):Tb B (withK t l):=by
  obtain⟨id,inc,now,par,pinc,grd,path,ep,born,ask,unt,stp,kids⟩:=t
  obtain⟨h1,h2,h3,h4,h5,h6,h7,h8,h9,h10⟩:=h
  exact⟨h1,h2,h3,h4,h5,h6,h7,hl,h9,h10⟩
theorem Tb.kw {B:Int} {t:TT} (h:Tb B t):Kw 1 t.2.2.2.2.2.2.2.2.2.2.2.2:=by
  obtain⟨id,inc,now,par,pinc,grd,path,ep,born,ask,unt,stp,kids⟩:=t
  obtain⟨h1,h2,h3,h4,h5,h6,h7,h8,h9,h10⟩:=h
  exact h8
theorem Kw.hear {l:List Kd} (h:Kw 1 l) {k:Kd} (h1:1≤k.1) (h2:k.1≤8):Kw 1 (hearM l k):=by
  unfold hearM
  split
  · exact h
  · exact h.put h1 h2
theorem withK_eq (t:TT) (l:List Kd):(t.1,t.2.1,t.2.2.1,t.2.2.2.1,t.2.2.2.2.1,t.2.2.2.2.2.1,t.2.2.2.2.2.2.1,t.2.2.2.2.2.2.2.1,t.2.2.2.2.2.2.2.2.1,t.2.2.2.2.2.2.2.2.2.1,t.2.2.2.2.2.2.2.2.2.2.1,t.2.2.2.2.2.2.2.2.2.2.2.1,l)=withK t l:=by
  obtain⟨id,inc,now,par,pinc,grd,path,ep,born,ask,unt,stp,kids⟩:=t
  rfl
theorem VP_rng {p:List Int} (h:VP p):∀x∈p,1≤x∧x≤8:=by
  intro x hx
  obtain⟨j,hj,rfl⟩:=mem_getD hx
  exact⟨(h.2.2.2 j hj).1,(h.2.2.2 j hj).2.1⟩
theorem grdM_rng {p:List Int} (h:∀x∈p,1≤x∧x≤8):0≤grdM p∧grdM p≤8:=by
  have hg:0≤grandM p∧grandM p≤8:=by
    unfold grandM
    split
    · omega
    · have:=h _ (getD_mem_2 (l:=p) (j:=p.length-2) (by omega));omega
  unfold grdM
  split<;>omega
theorem Tb.disp {B:Int} {t:TT} (h:Tb B t) (m:Ms) (hm:Mb m) (lo:Int) (h1B:1≤B):Tb (B+1) (dispM t m lo).2:=by
  have hmo:=h.mono (B':=B+1) (by omega)
  have hk:Tb (B+1) (withK t (hearM t.2.2.2.2.2.2.2.2.2.2.2.2 (m.2.1,m.2.2.2.1,t.2.2.1))):=hmo.wk (h.kw.hear (k:=(m.2.1,m.2.2.2.1,t.2.2.1)) hm.fr.1 hm.fr.2)
  unfold dispM
  split
  · unfold attachM
    split
    · exact hmo
    · exact hk
  split
  · unfold acceptM
    split
    · exact hmo
    split
    · split
      · rename_i q
        have hr:=VP_rng q.1
        have hg:=grdM_rng (p:=m.2.2.2.2.2.2.1) (fun x hx=>hr x (List.mem_append_left _ hx))
        have hl:=q.1.2.1
        have ha:=hm.age;have he:=hm.ep
        obtain⟨id,inc,now,par,pinc,grd,path,ep,born,ask,unt,stp,kids⟩:=t
        obtain⟨h1,h2,h3,h4,h5,h6,h7,h8,h9,h10⟩:=h
        exact⟨h1,by (try simp only);omega,by (try simp only);omega,by (try simp only);omega,by (try simp only);omega,by (try simp only);omega,hl,h8,by (try simp only);omega,hg⟩
      · exact h.vain
    · exact hmo
  split
  · unfold refuseM
    try simp only
    split
    · exact hmo.off ⟨by omega,by omega⟩
    · split
      · exact h.vain
      · exact hmo
  split
  · unfold beatUpM
    split
    · exact hmo
    · exact hk
  split
  · unfold beatDnM
    split
    · split
      · rename_i q
        have hr:=VP_rng q
        have hg:=grdM_rng (p:=m.2.2.2.2.2.2.1) (fun x hx=>hr x (List.mem_append_left _ hx))
        have hl:=q.2.1
        have ha:=hm.age;have he:=hm.ep
        obtain⟨id,inc,now,par,pinc,grd,path,ep,born,ask,unt,stp,kids⟩:=t
        obtain⟨h1,h2,h3,h4,h5,h6,h7,h8,h9,h10⟩:=h
        refine⟨h1,by (try simp only);omega,?_,by (try simp only);omega,by (try simp only);omega,?_,hl,h8,h9,hg⟩
        · simp only;split<;>omega
        · simp only;split<;>omega
      · exact hmo.off ⟨by omega,by omega⟩
    · exact hmo
  split
  · exact hmo.wk (h.kw.filter _)
  · exact hmo
theorem Mb.of {m:Ms} (h:MayP m):Mb m:=by
  have e:=h.2.2.2.2.2.1
  have hf:=h.2.2.2.2.2.2
  unfold Fits at hf
  by_cases c:m.1=2∨m.1=5
  · rw[if_pos c] at hf
    have:=hf.2.2.1.2.1
    exact⟨h.2.1,hf.2.1,hf.1,by omega⟩
  · have hp:m.2.2.2.2.2.2.1=[]∧m.2.2.2.2.1=0∧m.2.2.2.2.2.1=0:=by
      rw[e]
      obtain⟨k,f,t,i,e,a,p,lo,hi,s⟩:=m
      unfold ownF
      simp only at c ⊢
      split
      · rename_i q;exact absurd (.inl q) c
      · split
        · rename_i q;exact absurd (.inr q) c
        · split
          · exact⟨rfl,rfl,rfl⟩
          · split<;>exact⟨rfl,rfl,rfl⟩
    exact⟨h.2.1,by omega,by omega,by rw[hp.1];simp⟩
theorem dTi {p:Prop} {i:Decidable p} (h:p):@decide p i=true:=decide_eq_true h
theorem rFind_eq (N:Nat) (hN:2000≤N) (l:List Kd) (s:Int) (hl:l.length≤1000):W_n N (l,s)=some (findK l s):=by
  unfold W_n V_n
  try simp only
  refine loop_G (N:=N) (fun o=>o=some (findK l s)) (fun k (v:Int×Kd)=>v=((k:Int),kD)∧k≤l.length∧findK (l.drop k) s=findK l s) l.length (fun r:Kd⊕(Bool×Kd)=>(r=.inl kD∧findK l s=(false,kD))∨r=.inr (findK l s)) ⟨rfl,by omega,rfl⟩ (by omega) ?_ (fun k v h=>h.2.1) ?_
  · rintro r (⟨rfl,h⟩ | rfl)
    · rw[selim_l,h]
    · rw[selim_r]
  · rintro k v ⟨rfl,hk,hg⟩
    try simp only
    by_cases c:(k:Int)<l.length
    case neg=>
      right
      rw[dF c,cnd_f]
      rw[List.drop_eq_nil_of_le (by omega)] at hg
      exact⟨_,rfl,.inl ⟨rfl,hg.symm⟩⟩
    rw[drop_consK (by omega)] at hg
    simp only[findK] at hg
    rw[dT c,cnd_t,dT (show (0:Int)≤(k:Int) by omega),Bool.and_self,cnd_t,Int.toNat_natCast]
    by_cases c2:(l.getD k kD).1=s
    · right
      rw[if_pos c2] at hg
      rw[dT c2,cnd_t,cnd_t]
      exact⟨_,rfl,.inr (by rw[←hg])⟩
    · left
      rw[if_neg c2] at hg
      rw[dF c2,cnd_f,wr_m (by omega) (by omega)]
      exact⟨_,rfl,by rw[show ((k+1:Nat):Int)=k+1 by omega],by omega,hg⟩
theorem rOld_eq (N:Nat) (hN:2000≤N) (l:List Kd) (s inc:Int) (hl:l.length≤1000):W_W N (l,s,inc)=some (oldK l s inc):=by
  unfold W_W V_W oldK
  try simp only
  rw[rFind_eq N hN l s hl,obind_s]
  cases (findK l s).1<;>rfl
theorem rDrop_eq (N:Nat) (hN:2000≤N) (l:List Kd) (id:Int) (hl:l.length≤1000):W_T N (l,id)=some (l.filter (fun k=>!decide (k.1=id))):=by
  unfold W_T V_T
  try simp only
  refine loop_G (N:=N) (fun o=>o=some (l.filter (fun k=>!decide (k.1=id)))) (fun k (v:Int×List Kd)=>v=((k:Int),(l.take k).filter (fun k=>!decide (k.1=id)))∧k≤l.length) l.length (fun r:List Kd=>r=l.filter (fun k=>!decide (k.1=id))) ⟨rfl,by omega⟩ (by omega) ?_ (fun k v h=>h.2) ?_
  · rintro r rfl;rfl
  · rintro k v ⟨rfl,hk⟩
    try simp only
    by_cases c:(k:Int)<l.length
    case neg=>
      right
      rw[dF c,cnd_f,List.take_of_length_le (by omega)]
      exact⟨_,rfl,rfl⟩
    left
    have hlen:((l.take k).filter (fun k=>!decide (k.1=id))).length≤k:=Nat.le_trans (List.length_filter_le _ _) (by simp;omega)
    have hs:(l.take (k+1)).filter (fun k=>!decide (k.1=id))=(l.take k).filter (fun k=>!decide (k.1=id))++[l.getD k kD].filter (fun k=>!decide (k.1=id)):=by
      rw[take_snocK (by omega),List.filter_append]
    rw[dT c,cnd_t,dT (show (0:Int)≤(k:Int) by omega),Bool.and_self,cnd_t,Int.toNat_natCast,wr_m (z:=(k:Int)+1) (by omega) (by omega)]
    refine⟨(((k+1:Nat):Int),(l.take (k+1)).filter (fun k=>!decide (k.1=id))),?_,rfl,by omega⟩
    rw[hs,show ((k+1:Nat):Int)=k+1 by omega]
    generalize hq:(l.take k).filter (fun k=>!decide (k.1=id))=q at *
    by_cases c2:(l.getD k kD).1=id
    · rw[dF (fun h=>h c2),cnd_f,filter1,if_pos (dT c2),List.append_nil]
    · rw[dT c2,cnd_t,cnd_t,dT (by simp only[List.length_singleton];omega),cnd_t,filter1,if_neg (by rw[dF c2];simp)]
theorem rPrune_eq (N:Nat) (hN:2000≤N) (l:List Kd) (now:Int) (hl:l.length≤1000) (h1:-1000000000≤now) (h2:now≤1000000000) (hh:∀k∈l,-1000000000≤k.2.2∧k.2.2≤1000000000):W_ao N (l,now)=some (l.filter (fun k=>!decide (k.2.2<now-20))):=by
  unfold W_ao V_ao
  try simp only
  refine loop_G (N:=N) (fun o=>o=some (l.filter (fun k=>!decide (k.2.2<now-20)))) (fun k (v:Int×List Kd)=>v=((k:Int),(l.take k).filter (fun k=>!decide (k.2.2<now-20)))∧k≤l.length) l.length (fun r:List Kd=>r=l.filter (fun k=>!decide (k.2.2<now-20))) ⟨rfl,by omega⟩ (by omega) ?_ (fun k v h=>h.2) ?_
  · rintro r rfl;rfl
  · rintro k v ⟨rfl,hk⟩
    try simp only
    by_cases c:(k:Int)<l.length
    case neg=>
      right
      rw[dF c,cnd_f,List.take_of_length_le (by omega)]
      exact⟨_,rfl,rfl⟩
    left
    have hlen:((l.take k).filter (fun k=>!decide (k.2.2<now-20))).length≤k:=Nat.le_trans (List.length_filter_le _ _) (by simp;omega)
    have hs:(l.take (k+1)).filter (fun k=>!decide (k.2.2<now-20))=(l.take k).filter (fun k=>!decide (k.2.2<now-20))++[l.getD k kD].filter (fun k=>!decide (k.2.2<now-20)):=by
      rw[take_snocK (by omega),List.filter_append]
    have hb:=hh _ (getD_memK (l:=l) (i:=k) (by omega))
    rw[dT c,cnd_t,dT (show (0:Int)≤(k:Int) by omega),Bool.and_self,cnd_t,Int.toNat_natCast,wr_m (z:=(k:Int)+1) (by omega) (by omega)]
    refine⟨(((k+1:Nat):Int),(l.take (k+1)).filter (fun k=>!decide (k.2.2<now-20))),?_,rfl,by omega⟩
    rw[hs,show ((k+1:Nat):Int)=k+1 by omega]
    generalize hq:(l.take k).filter (fun k=>!decide (k.2.2<now-20))=q at *
    have w:wr .i64 (now-(l.getD k kD).2.2)=now-(l.getD k kD).2.2:=wr_m (by omega) (by omega)
    show cnd (decide (wr .i64 (now-(l.getD k kD).2.2)≤20)) _ _=_
    rw[w]
    by_cases c2:(l.getD k kD).2.2<now-20
    · rw[dF (by omega),cnd_f,filter1,if_pos (dT c2),List.append_nil]
    · rw[dT (by omega),cnd_t,cnd_t,dT (by simp only[List.length_singleton];omega),cnd_t,filter1,if_neg (by rw[dF c2];simp)]
def insR (k:Kd):List Kd→List Kd
  | []=>[k]
  | w::r=>if k.1<w.1 then k::w::r else w::insR k r
theorem filter_above {n:Int}:∀{l:List Kd},Kw n l→∀id:Int,id<n→l.filter (fun k=>!decide (k.1=id))=l
  | [],_,_,_=>rfl
  | w::r,h,id,hi=>by
    have:=h.1
    rw[List.filter_cons,if_pos (by rw[dF (by omega)];rfl),filter_above (h.2.2) id (by omega)]
theorem insR_put (k:Kd):∀{l:List Kd} {n:Int},Kw n l→insR k (l.filter (fun w=>!decide (w.1=k.1)))=putK k l
  | [],_,_=>rfl
  | w::r,n,h=>by
    rw[List.filter_cons]
    simp only[putK]
    by_cases c:w.1=k.1
    · rw[if_neg (by rw[dT c];simp),if_pos c,filter_above h.2.2 k.1 (by omega)]
      cases r with
      | nil=>rfl
      | cons y r=>
        have:=h.2.2.1
        simp only[insR]
        rw[if_pos (by omega)]
    · rw[if_pos (by rw[dF c];rfl),if_neg c]
      simp only[insR]
      by_cases c2:k.1<w.1
      · rw[if_pos c2,if_pos c2,filter_above h.2.2 k.1 (by omega)]
      · rw[if_neg c2,if_neg c2,insR_put k h.2.2]
theorem rHear_eq (N:Nat) (hN:2000≤N) (l:List Kd) (n:Int) (k:Kd) (hw:Kw n l) (hl:l.length≤1000):W_aj N (l,k)=some (if oldK l k.1 k.2.1=true then(l,false) else(putK k l,true)):=by
  unfold W_aj V_aj
  try simp only
  rw[rOld_eq N hN l k.1 k.2.1 hl,obind_s]
  cases oldK l k.1 k.2.1 with
  | true=>rw[cnd_t,if_pos rfl]
  | false=>
    rw[cnd_f,if_neg (by simp),rDrop_eq N hN l k.1 hl,obind_s,←insR_put k hw]
    have hfl:(l.filter (fun w=>!decide (w.1=k.1))).length≤1000:=Nat.le_trans (List.length_filter_le _ _) hl
    generalize l.filter (fun w=>!decide (w.1=k.1))=q at *
    refine loop_G (N:=N) (fun o=>o=some (insR k q,true)) (fun i (v:Int×Kd×List Kd)=>v=((i:Int),k,q)∧i≤q.length∧q.take i++insR k (q.drop i)=insR k q) q.length (fun r:(Kd×List Kd)⊕(List Kd×Bool)=>(r=.inl (k,q)∧q++[k]=insR k q)∨r=.inr (insR k q,true)) ⟨rfl,by omega,rfl⟩ (by omega) ?_ (fun k v h=>h.2.1) ?_
    · rintro r (⟨rfl,h⟩ | rfl)
      · rw[selim_l]
        try simp only
        rw[dT (by simp only[List.length_singleton];omega),cnd_t,h]
      · rw[selim_r]
    · rintro i v ⟨rfl,hk,hg⟩
      try simp only
      by_cases c:(i:Int)<q.length
      case neg=>
        right
        rw[dF c,cnd_f]
        rw[List.drop_eq_nil_of_le (by omega),List.take_of_length_le (by omega)] at hg
        exact⟨_,rfl,.inl ⟨rfl,hg⟩⟩
      have hg0:=hg
      rw[drop_consK (by omega)] at hg
      simp only[insR] at hg
      rw[dT c,cnd_t,dT (show (0:Int)≤(i:Int) by omega),Bool.and_self,cnd_t,Int.toNat_natCast]
      by_cases c2:k.1<(q.getD i kD).1
      · right
        rw[if_pos c2,←drop_consK (by omega)] at hg
        rw[dT c2,cnd_t]
        simp only[cutT,Option.getD_none,Option.getD_some,Int.toNat_natCast,Int.toNat_zero,Nat.zero_add,Nat.sub_zero,List.drop_zero]
        rw[show i+(q.length-i)=q.length by omega,List.take_length]
        have e1:(q.take i).length≤1000:=by simp;omega
        have e2:(q.drop i).length≤1000:=by simp;omega
        repeat first | rw[cnd_t] | rw[dT (by first | omega | (simp only[List.length_singleton];omega) | (simp only[List.length_append,List.length_singleton];omega))]
        exact⟨_,rfl,.inr (by rw[←hg,List.append_assoc];rfl)⟩
      · left
        rw[if_neg c2] at hg
        rw[dF c2,cnd_f,wr_m (by omega) (by omega)]
        refine⟨_,rfl,by rw[show ((i+1:Nat):Int)=i+1 by omega],by omega,?_⟩
        rw[take_snocK (by omega),List.append_assoc]
        exact hg
theorem ob_eq {α β:Type} {o:Option α} {g:α→Option β} {r:Option β} (v:α) (h:o=some v) (hg:g v=r):obind o g=r:=by rw[h];exact hg
theorem rFresh_eq (N:Nat) {B:Int} (t:TT) (h:Tb B t) (hB:B≤1000000000):W_C N t=some (freshM t):=by
  obtain⟨id,inc,now,par,pinc,grd,path,ep,born,ask,unt,stp,kids⟩:=t
  obtain⟨h1,h2,h3,h4,h5,h6,h7,h8,h9,h10⟩:=h
  unfold W_C V_C freshM
  try simp only
  rw[wr_m (by omega) (by omega)]
  by_cases c:id=1
  · rw[dT c,cnd_t,if_pos c]
  · rw[dF c,cnd_f,if_neg c]
    by_cases c2:par≠0
    · rw[dT c2,cnd_t,if_pos c2]
    · rw[dF c2,cnd_f,if_neg c2]
theorem rOff_eq (N:Nat) (t:TT) (s:Int):W_R N (t,s)=some (letgo t s):=rfl
theorem rSays_eq (N:Nat) (t:TT) (k to:Int):W_b N (t,k,to)=some (sayM t k to):=rfl
theorem rFull_eq (N:Nat) {B:Int} (t:TT) (h:Tb B t) (hB:B≤1000000000) (k to:Int):W_E N (t,k,to)=some (fullM t k to 0):=by
  obtain⟨id,inc,now,par,pinc,grd,path,ep,born,ask,unt,stp,kids⟩:=t
  obtain⟨h1,h2,h3,h4,h5,h6,h7,h8,h9,h10⟩:=h
  unfold W_E V_E
  rw[rSays_eq,obind_s]
  try simp only
  rw[wr_m (by omega) (by omega),cnd_T (by omega)]
  rfl
theorem rPruneK_eq (N:Nat) (hN:2000≤N) (l:List Kd) (now:Int) (hl:l.length≤1000) (h1:-1000000000≤now) (h2:now≤1000000000) (hh:∀k∈l,-1000000000≤k.2.2∧k.2.2≤1000000000):W_ao N (l,now)=some (prK now l):=rPrune_eq N hN l now hl h1 h2 hh
theorem tick3_root {t:TT} (h:t.1=1):tick3 (tick2 (tick1 t))=(tick1 t,[]):=by
  have e1:(tick1 t).1=1:=by
    obtain⟨id,inc,now,par,pinc,grd,path,ep,born,ask,unt,stp,kids⟩:=t
    rw[tick1_def];split<;>exact h
  have e2:freshM (tick1 t)=true:=by
    generalize tick1 t=u at *
    obtain⟨id,inc,now,par,pinc,grd,path,ep,born,ask,unt,stp,kids⟩:=u
    unfold freshM
    exact if_pos e1
  unfold tick2
  rw[if_neg (by rw[e2];simp)]
  unfold tick3
  rw[if_neg (fun q=>q.2 e1)]
theorem rSeek_eq (N:Nat) {B:Int} (u z:TT) (h:Tb B u) (hB:B≤1000000000):(obind (cnd (decide (u.2.2.2.2.2.2.2.2.2.1≠(0:Int))) (cnd (decide (u.2.2.2.2.2.2.2.2.2.2.1≤u.2.2.1)) (some ((u.1,u.2.1,u.2.2.1,u.2.2.2.1,u.2.2.2.2.1,u.2.2.2.2.2.1,u.2.2.2.2.2.2.1,u.2.2.2.2.2.2.2.1,u.2.2.2.2.2.2.2.2.1,(0:Int),u.2.2.2.2.2.2.2.2.2.2.1,wr .i64 (u.2.2.2.2.2.2.2.2.2.2.2.1+(1:Int)),u.2.2.2.2.2.2.2.2.2.2.2.2),z)) (some (u,z))) (some (u,z))) fun(b:TT×TT)=>cnd (decide (b.1.2.2.2.2.2.2.2.2.2.1=(0:Int))) (obind (obind (cnd (decide (b.1.2.2.2.2.2.2.2.2.2.2.2.1=(0:Int))) (some (decide (b.1.2.2.2.2.2.1≠(0:Int)),(b.1.1,b.1.2.1,b.1.2.2.1,b.1.2.2.2.1,b.1.2.2.2.2.1,b.1.2.2.2.2.2.1,b.1.2.2.2.2.2.2.1,b.1.2.2.2.2.2.2.2.1,b.1.2.2.2.2.2.2.2.2.1,(1:Int),wr .i64 (b.1.2.2.1+(3:Int)),b.1.2.2.2.2.2.2.2.2.2.2.2),b.2)) (some (false,(b.1.1,b.1.2.1,b.1.2.2.1,b.1.2.2.2.1,b.1.2.2.2.2.1,b.1.2.2.2.2.2.1,b.1.2.2.2.2.2.2.1,b.1.2.2.2.2.2.2.2.1,b.1.2.2.2.2.2.2.2.2.1,(1:Int),wr .i64 (b.1.2.2.1+(3:Int)),b.1.2.2.2.2.2.2.2.2.2.2.2),b.2))) fun(b:Bool×TT×TT)=>cnd b.1 (cnd (decide (b.2.1.2.2.2.2.2.1≠b.2.1.1)) (some ((b.2.1.1,b.2.1.2.1,b.2.1.2.2.1,b.2.1.2.2.2.1,b.2.1.2.2.2.2.1,b.2.1.2.2.2.2.2.1,b.2.1.2.2.2.2.2.2.1,b.2.1.2.2.2.2.2.2.2.1,b.2.1.2.2.2.2.2.2.2.2.1,b.2.1.2.2.2.2.2.1,b.2.1.2.2.2.2.2.2.2.2.2.2),b.2.2)) (some b.2)) (some b.2)) fun(b:TT×TT)=>obind (W_b N (b.1,(1:Int),b.1.2.2.2.2.2.2.2.2.2.1)) fun(b_1:Ms)=>some (b.1,b.2,[b_1])) (some (b.1,b.2,[])))=some ((seekM u).1,z,(seekM u).2):=by
  obtain⟨id,inc,now,par,pinc,grd,path,ep,born,ask,unt,stp,kids⟩:=u
  obtain⟨h1,h2,h3,h4,h5,h6,h7,h8,h9,h10⟩:=h
  have w3:wr .i64 (now+3)=now+3:=wr_m (by omega) (by omega)
  have w1:wr .i64 (stp+1)=stp+1:=wr_m (by omega) (by omega)
  unfold seekM
  try simp only
  rw[w1]
  by_cases c1:ask≠0
  · rw[dT c1,cnd_t,if_pos c1]
    by_cases c2:unt≤now
    · rw[dT c2,cnd_t,if_pos c2,obind_s]
      try simp only
      rw[dTi (p:=True) trivial,cnd_t,dF (show ¬stp+1=0 by omega),cnd_f,obind_s]
      try simp only
      rw[cnd_f,obind_s]
      try simp only
      rw[rSays_eq,obind_s,w3,if_neg (fun q=>by omega)]
      rfl
    · rw[dF c2,cnd_f,if_neg c2,obind_s]
      try simp only
      rw[dF (show ¬ask=0 from c1),cnd_f]
  · rw[dF c1,cnd_f,if_neg c1,obind_s]
    try simp only
    rw[dT (show ask=0 by omega),cnd_t]
    by_cases d1:stp=0
    · rw[dT d1,cnd_t,obind_s]
      try simp only
      by_cases d2:grd≠0
      · rw[dT d2,cnd_t]
        by_cases d3:grd≠id
        · rw[dT d3,cnd_t,obind_s]
          try simp only
          rw[rSays_eq,obind_s,w3,if_pos ⟨d1,d2,d3⟩]
          rfl
        · rw[dF d3,cnd_f,obind_s]
          try simp only
          rw[rSays_eq,obind_s,w3,if_neg (fun q=>d3 q.2.2)]
          rfl
      · rw[dF d2,cnd_f,obind_s]
        try simp only
        rw[rSays_eq,obind_s,w3,if_neg (fun q=>d2 q.2.1)]
        rfl
    · rw[dF d1,cnd_f,obind_s]
      try simp only
      rw[cnd_f,obind_s]
      try simp only
      rw[rSays_eq,obind_s,w3,if_neg (fun q=>d1 q.1)]
      rfl
abbrev z0:TT:=((0:Int),(0:Int),(0:Int),(0:Int),(0:Int),(0:Int),([]:List Int),(0:Int),(0:Int),(0:Int),(0:Int),(0:Int),([]:List Kd))
theorem rTick_eq (N:Nat) (hN:2000≤N) {B:Int} (t:TT) (h:Tb B t) (hB:B≤1000000) (hk:∀k∈t.2.2.2.2.2.2.2.2.2.2.2.2,-1000000000≤k.2.2∧k.2.2≤1000000000):W_am N t=some (tickM t):=by
  have h1:=h.t1
  have h2:=h1.t2
  obtain⟨h3,h3l⟩:=h2.t3
  have fr:=rFresh_eq N _ h1 (by omega)
  have fr3:=rFresh_eq N _ h3 (by omega)
  have fu3:=rFull_eq N _ h3 (by omega)
  have hkl3:=h3.kl
  have sk:=fun z=>rSeek_eq N (tick2 (tick1 t)) z h2 (by omega)
  have hkl:=h.kl
  have hb:0≤t.2.2.1∧t.2.2.1≤B∧0≤t.2.2.2.2.2.2.2.1∧t.2.2.2.2.2.2.2.1≤B+1073741824:=by
    obtain⟨id,inc,now,par,pinc,grd,path,ep,born,ask,unt,stp,kids⟩:=t
    obtain⟨h1,h2,h3,h4,h5,h6,h7,h8,h9,h10⟩:=h
    exact⟨h2.1,h2.2,h6.1,h6.2⟩
  unfold W_am V_am
  try simp only
  rw[wr_m (z:=t.2.2.1+1) (by omega) (by omega),rPruneK_eq N hN _ _ (by omega) (by omega) (by omega) hk,obind_s,wr_m (z:=t.2.2.2.2.2.2.2.1+1) (by omega) (by omega),tm _ _ (by omega)]
  refine ob_eq ((tick3 (tick2 (tick1 t))).1,z0,(tick3 (tick2 (tick1 t))).2) ?_ ?_
  · clear fr3 fu3 hkl3 h3l h3
    by_cases c1:t.1=1
    · rw[tick3_root c1,dT c1,cnd_t]
      clear sk fr hk hkl
      obtain⟨id,inc,now,par,pinc,grd,path,ep,born,ask,unt,stp,kids⟩:=t
      simp only at c1 ⊢
      rw[tick1_def]
      by_cases c2:(now+1) % 2=0
      · rw[dT c2,cnd_t,if_pos ⟨c1,c2⟩]
      · rw[dF c2,cnd_f,if_neg (fun q=>c2 q.2)]
    · rw[dF c1,cnd_f]
      have ht1:tick1 t=(t.1,t.2.1,t.2.2.1+1,t.2.2.2.1,t.2.2.2.2.1,t.2.2.2.2.2.1,t.2.2.2.2.2.2.1,t.2.2.2.2.2.2.2.1,t.2.2.2.2.2.2.2.2.1,t.2.2.2.2.2.2.2.2.2.1,t.2.2.2.2.2.2.2.2.2.2.1,t.2.2.2.2.2.2.2.2.2.2.2.1,prK (t.2.2.1+1) t.2.2.2.2.2.2.2.2.2.2.2.2):=by
        obtain⟨id,inc,now,par,pinc,grd,path,ep,born,ask,unt,stp,kids⟩:=t
        rw[tick1_def,if_neg (fun q=>c1 q.1)]
      have hid:(tick2 (tick1 t)).1≠1:=by
        unfold tick2
        rw[ht1]
        split<;>exact c1
      rw[←ht1]
      refine ob_eq (tick2 (tick1 t),z0) ?_ ?_
      · have hp:(tick1 t).2.2.2.1=t.2.2.2.1:=by rw[ht1]
        unfold tick2
        by_cases c2:t.2.2.2.1≠0
        · rw[dT c2,cnd_t,fr,obind_s]
          cases hf:freshM (tick1 t) with
          | true=>rw[Bool.not_true,cnd_f,if_neg (by simp)]
          | false=>rw[Bool.not_false,cnd_t,rOff_eq,obind_s,if_pos ⟨by rw[hp];exact c2,rfl⟩]
        · rw[dF c2,cnd_f,if_neg (fun q=>c2 (by rw[←hp];exact q.1))]
      · unfold tick3
        generalize tick2 (tick1 t)=u at *
        try simp only
        by_cases c3:u.2.2.2.1=0
        · rw[dT c3,cnd_t,if_pos ⟨c3,hid⟩]
          exact sk z0
        · rw[dF c3,cnd_f,if_neg (fun q=>c3 q.1)]
  · unfold tickM
    generalize tick3 (tick2 (tick1 t))=a at *
    try simp only
    by_cases c:(t.2.2.1+1) % 2=0
    case neg=>rw[dF c,Bool.not_false,cnd_t,if_neg c]
    rw[dT c,Bool.not_true,cnd_f,if_pos c]
    refine ob_eq (a.1,z0,a.2++(if a.1.2.2.2.1≠0 then [sayM a.1 4 a.1.2.2.2.1] else [])) ?_ ?_
    · by_cases c2:a.1.2.2.2.1≠0
      · rw[dT c2,cnd_t,rSays_eq,obind_s,cnd_T (by simp only[List.length_singleton];omega),if_pos c2]
      · rw[dF c2,cnd_f,if_neg c2,List.append_nil]
    · unfold beatM
      rw[←List.append_assoc]
      have ho:(a.2++(if a.1.2.2.2.1≠0 then [sayM a.1 4 a.1.2.2.2.1] else [])).length≤2:=by
        rw[List.length_append]
        split
        · simp;omega
        · simp;omega
      generalize a.2++(if a.1.2.2.2.1≠0 then [sayM a.1 4 a.1.2.2.2.1] else [])=o at *
      generalize a.1=u at *
      obtain⟨K,hK⟩:∃K,u.2.2.2.2.2.2.2.2.2.2.2.2=K:=⟨_,rfl⟩
      try simp only
      rw[hK] at hkl3 ⊢
      refine loop_G (N:=N) (x:=(0,u,z0,o)) (fun q=>q=some (o++(if freshM u=true then K.map fun k=>fullM u 5 k.1 0 else []),u)) (fun k (v:Int×TT×TT×List Ms)=>v=(↑k,u,z0,o++(K.take k).map fun k=>fullM u 5 k.1 0)∧k≤K.length∧(k=0∨freshM u=true)) K.length (fun r:List Ms×TT×TT=>r=(o++(if freshM u=true then K.map fun k=>fullM u 5 k.1 0 else []),u,z0)) ⟨by simp,by omega,.inl rfl⟩ (by omega) (fun r h=>by rw[h]) (fun k v h=>h.2.1) ?_
      rintro k v ⟨rfl,hk2,hf2⟩
      try simp only
      rw[hK]
      by_cases c:(k:Int)<K.length
      case neg=>
        right
        rw[dF c,cnd_f]
        refine⟨_,rfl,?_⟩
        rw[List.take_of_length_le (by omega)]
        split
        · rfl
        · rename_i q
          have:k=0:=hf2.elim (fun e=>e) (fun e=>absurd e q)
          have:K=[]:=List.eq_nil_of_length_eq_zero (by omega)
          rw[this];rfl
      rw[dT c,cnd_t,fr3,obind_s]
      cases hF:freshM u with
      | false=>
        right
        rw[cnd_f]
        have:k=0:=hf2.elim (fun e=>e) (fun e=>by rw[hF] at e;cases e)
        subst this
        exact⟨_,rfl,by simp⟩
      | true=>
        left
        rw[cnd_t,dT (show (0:Int)≤(k:Int) by omega),Bool.and_self,cnd_t,Int.toNat_natCast]
        show ∃y,obind (W_E N (u,5,(K.getD k kD).1)) _=_∧_
        rw[fu3,obind_s]
        refine⟨_,cnd_T (by simp only[List.length_append,List.length_map,List.length_take,List.length_singleton];omega),?_,by omega,.inr rfl⟩
        rw[wr_m (by omega) (by omega),List.append_assoc,take_snocK (by omega),List.map_append]
        rfl
theorem rGrand_eq (N:Nat) (p:List Int) (h:p.length≤1000):W_aQ N p=some (grandM p):=by
  unfold W_aQ V_aQ grandM
  by_cases c:(p.length:Int)<2
  · rw[dT c,cnd_t,if_pos c]
  · have w:wr .i64 ((p.length:Int)-2)=((p.length-2:Nat):Int):=by rw[wr_m (by omega) (by omega)];omega
    rw[dF c,cnd_f,if_neg c,w,dT (by omega),dT (by omega),Bool.and_self,cnd_t,Int.toNat_natCast]
theorem rgrd_eq (N:Nat) (p:List Int) (h:p.length≤1000):W_N N p=some (grdM p):=by
  unfold W_N V_N grdM
  rw[rGrand_eq N p h,obind_s]
  by_cases c:grandM p=0
  · rw[dT c,cnd_t,if_pos c]
  · rw[dF c,cnd_f,if_neg c]
def leaveM (t:TT):List Ms:=(if t.2.2.2.1≠0 then [sayM t 6 t.2.2.2.1] else [])++t.2.2.2.2.2.2.2.2.2.2.2.2.map fun k=>sayM t 3 k.1
theorem rLeave_eq (N:Nat) (hN:2000≤N) {B:Int} (t:TT) (h:Tb B t):W_aJ N t=some (leaveM t):=by
  have hk:=h.kl
  unfold W_aJ V_aJ leaveM
  refine ob_eq (t,(if t.2.2.2.1≠0 then [sayM t 6 t.2.2.2.1] else [])) ?_ ?_
  · by_cases c2:t.2.2.2.1≠0
    · rw[dT c2,cnd_t,rSays_eq,obind_s,if_pos c2]
    · rw[dF c2,cnd_f,if_neg c2]
  have ho:(if t.2.2.2.1≠0 then [sayM t 6 t.2.2.2.1] else []).length≤1:=by split<;>simp
  generalize (if t.2.2.2.1≠0 then [sayM t 6 t.2.2.2.1] else [])=o at *
  obtain⟨K,hK⟩:∃K,t.2.2.2.2.2.2.2.2.2.2.2.2=K:=⟨_,rfl⟩
  try simp only
  refine loop_G (N:=N) (x:=(0,t,o)) (fun q=>q=some (o++t.2.2.2.2.2.2.2.2.2.2.2.2.map fun k=>sayM t 3 k.1)) (fun k (v:Int×TT×List Ms)=>v=(↑k,t,o++(K.take k).map fun k=>sayM t 3 k.1)∧k≤K.length) K.length (fun r:List Ms=>r=o++K.map fun k=>sayM t 3 k.1) ⟨by simp,by omega⟩ (by rw[hK] at hk;omega) (fun r h=>by rw[h,hK]) (fun k v h=>h.2) ?_
  rintro k v ⟨rfl,hk2⟩
  try simp only
  rw[hK] at hk ⊢
  by_cases c:(k:Int)<K.length
  case neg=>
    right
    rw[dF c,cnd_f]
    exact⟨_,rfl,by rw[List.take_of_length_le (by omega)]⟩
  left
  rw[dT c,cnd_t,dT (show (0:Int)≤(k:Int) by omega),Bool.and_self,cnd_t,Int.toNat_natCast]
  show ∃y,obind (W_b N (t,3,(K.getD k kD).1)) _=_∧_
  rw[rSays_eq,obind_s]
  refine⟨_,cnd_T (by simp only[List.length_append,List.length_map,List.length_take,List.length_singleton];omega),?_,by omega⟩
  rw[wr_m (by omega) (by omega),List.append_assoc,take_snocK (by omega),List.map_append]
  rfl
theorem rAccepted_eq (N:Nat) (hN:2000≤N) {B:Int} (t:TT) (h:Tb B t) (hB:B≤1000000) (m:Ms) (hm:Mb m):W_ay N (t,m)=some ((acceptM t m).2,(acceptM t m).1):=by
  have hb:0≤t.2.2.1∧t.2.2.1≤B∧0≤t.2.2.2.2.2.2.2.2.2.2.2.1∧t.2.2.2.2.2.2.2.2.2.2.2.1≤B:=by
    obtain⟨id,inc,now,par,pinc,grd,path,ep,born,ask,unt,stp,kids⟩:=t
    obtain⟨h1,h2,h3,h4,h5,h6,h7,h8,h9,h10⟩:=h
    exact⟨h2.1,h2.2,h4.1,h4.2⟩
  have hage:=hm.age
  unfold W_ay V_ay acceptM
  try simp only
  by_cases u:isUp t m
  · rw[dT u.1,cnd_t,dT u.2,cnd_t,obind_s,selim_r,if_pos u]
  rw[if_neg u]
  refine ob_eq (.inl (t,m,z0)) ?_ ?_
  · by_cases c:t.2.2.2.1≠0
    · rw[dT c,cnd_t,dF (fun q=>u ⟨c,q⟩),cnd_f]
    · rw[dF c,cnd_f]
  try simp only
  rw[selim_l]
  by_cases a:isAsk t m∧t.2.2.2.1=0
  · rw[if_pos a]
    refine ob_eq (.inl (t,m,z0)) ?_ ?_
    · rw[dF (show ¬t.2.2.2.2.2.2.2.2.2.1=0 from a.1.1),cnd_f,obind_s]
      try simp only
      rw[dF (fun q:t.2.2.2.2.2.2.2.2.2.1≠m.2.1=>q a.1.2.symm),cnd_f,dF (fun q:t.2.2.2.1≠0=>q a.2),cnd_f]
    · try simp only
      rw[selim_l,rAdd_eq N _ _ (by omega) hm.pl,obind_s,wr_m (z:=t.2.2.2.2.2.2.2.2.2.2.2.1+1) (by omega) (by omega),wr_m (z:=t.2.2.1-m.2.2.2.2.2.1) (by omega) (by omega)]
      by_cases v:VP (m.2.2.2.2.2.2.1++[t.1])
      · rw[if_pos v]
        try simp only
        rw[Bool.not_true,cnd_f]
        by_cases c3:20<m.2.2.2.2.2.1
        · rw[dT c3,cnd_t,rSays_eq,obind_s,if_neg (fun q=>by have:=q.2;omega)]
          obtain⟨id,inc,now,par,pinc,grd,path,ep,born,ask,unt,stp,kids⟩:=t
          rfl
        · rw[dF c3,cnd_f,rgrd_eq N _ hm.pl,obind_s,if_pos ⟨v,by omega⟩]
      · rw[if_neg v]
        try simp only
        rw[Bool.not_false,cnd_t,rSays_eq,obind_s,if_neg (fun q=>v q.1)]
        obtain⟨id,inc,now,par,pinc,grd,path,ep,born,ask,unt,stp,kids⟩:=t
        rfl
  · rw[if_neg a]
    refine ob_eq (.inr (t,[sayM t 6 m.2.1])) ?_ ?_
    · by_cases c1:t.2.2.2.2.2.2.2.2.2.1=0
      · rw[dT c1,cnd_t,obind_s]
        try simp only
        rw[cnd_t,rSays_eq,obind_s]
      · rw[dF c1,cnd_f,obind_s]
        try simp only
        by_cases c2:t.2.2.2.2.2.2.2.2.2.1≠m.2.1
        · rw[dT c2,cnd_t,rSays_eq,obind_s]
        · have c3:t.2.2.2.1≠0:=fun q=>a ⟨⟨c1,by omega⟩,q⟩
          rw[dF c2,cnd_f,dT c3,cnd_t,rSays_eq,obind_s]
    · try simp only
      rw[selim_r]
theorem rHearK_eq (N:Nat) (hN:2000≤N) {B:Int} (t:TT) (h:Tb B t) (a b c:Int):∃q,W_aj N (t.2.2.2.2.2.2.2.2.2.2.2.2,a,b,c)=some (hearM t.2.2.2.2.2.2.2.2.2.2.2.2 (a,b,c),q):=by
  have hk:=h.kl
  have e:=rHear_eq N hN t.2.2.2.2.2.2.2.2.2.2.2.2 1 (a,b,c) h.kw (by omega)
  unfold hearM
  cases ho:oldK t.2.2.2.2.2.2.2.2.2.2.2.2 a b with
  | true=>rw[if_pos (by exact ho)] at e;rw[if_pos rfl];exact⟨_,e⟩
  | false=>rw[if_neg (by show ¬oldK _ a b=true;rw[ho];simp)] at e;rw[if_neg (by simp)];exact⟨_,e⟩
theorem rComes_eq (N:Nat) (hN:2000≤N) {B:Int} (t:TT) (h:Tb B t) (hB:B≤1000000) (m:Ms) (hm:Mb m) (lo:Int):W_aI N (t,m,lo)=some ((comesT t m lo).2,(comesT t m lo).1):=by
  have hk:=h.kl
  have ho:=rOld_eq N hN t.2.2.2.2.2.2.2.2.2.2.2.2 m.2.1 m.2.2.2.1 (by omega)
  have hfrm:=hm.fr
  unfold W_aI V_aI
  try simp only
  by_cases early:oldK t.2.2.2.2.2.2.2.2.2.2.2.2 m.2.1 m.2.2.2.1=true∨(isUp t m∧m.2.2.2.1<t.2.2.2.2.1)
  · have hc:comesT t m lo=([],t):=by
      unfold comesT
      rcases early with e | e
      · rw[if_pos e]
      · split
        · rfl
        · rw[if_pos e.1,if_pos e.2]
    rw[hc]
    refine ob_eq (.inr (t,[])) ?_ ?_
    · rw[ho,obind_s]
      cases hO:oldK t.2.2.2.2.2.2.2.2.2.2.2.2 m.2.1 m.2.2.2.1 with
      | true=>rw[cnd_t]
      | false=>
        rcases early with e | e
        · rw[hO] at e;cases e
        · rw[cnd_f,dT e.1.2,cnd_t,dT e.2,cnd_t]
    · try simp only
      rw[selim_r]
  have hO:oldK t.2.2.2.2.2.2.2.2.2.2.2.2 m.2.1 m.2.2.2.1=false:=by
    cases hO:oldK t.2.2.2.2.2.2.2.2.2.2.2.2 m.2.1 m.2.2.2.1 with
    | true=>exact absurd (.inl hO) early
    | false=>rfl
  refine ob_eq (.inl (t,m,z0)) ?_ ?_
  · rw[ho,obind_s,hO,cnd_f]
    by_cases u:m.2.1=t.2.2.2.1
    · rw[dT u,cnd_t,dF (fun q=>early (.inr ⟨⟨by omega,u⟩,q⟩)),cnd_f]
    · rw[dF u,cnd_f]
  have hc:comesT t m lo=dispM (if isUp t m∧t.2.2.2.2.1<m.2.2.2.1 then letgo t 0 else t) m lo:=by
    unfold comesT
    rw[if_neg (by rw[hO];simp)]
    by_cases u:isUp t m
    · rw[if_pos u,if_neg (fun q=>early (.inr ⟨u,q⟩))]
      by_cases c:t.2.2.2.2.1<m.2.2.2.1
      · rw[if_pos c,if_pos ⟨u,c⟩]
      · rw[if_neg c,if_neg (fun q=>c q.2)]
    · rw[if_neg u,if_neg (fun q=>u q.1)]
  rw[hc]
  try simp only
  rw[selim_l]
  refine ob_eq ((if isUp t m∧t.2.2.2.2.1<m.2.2.2.1 then letgo t 0 else t),m,z0) ?_ ?_
  · by_cases u:m.2.1=t.2.2.2.1
    · rw[dT u,cnd_t]
      by_cases c:t.2.2.2.2.1<m.2.2.2.1
      · rw[dT c,cnd_t,rOff_eq,obind_s,if_pos ⟨⟨by omega,u⟩,c⟩]
      · rw[dF c,cnd_f,if_neg (fun q=>c q.2)]
    · rw[dF u,cnd_f,if_neg (fun q=>u q.1.2)]
  have hT:Tb B (if isUp t m∧t.2.2.2.2.1<m.2.2.2.1 then letgo t 0 else t):=by
    split
    · exact h.off ⟨by omega,h.b0⟩
    · exact h
  clear hc hO early ho hk h
  generalize (if isUp t m∧t.2.2.2.2.1<m.2.2.2.1 then letgo t 0 else t)=t at *
  have h:=hT
  clear hT
  have hk:=h.kl
  have hpl:=h.pl
  have hb:0≤t.2.2.1∧t.2.2.1≤B∧0≤t.2.2.2.2.2.2.2.2.2.2.2.1∧t.2.2.2.2.2.2.2.2.2.2.2.1≤B:=by
    obtain⟨id,inc,now,par,pinc,grd,path,ep,born,ask,unt,stp,kids⟩:=t
    obtain⟨h1,h2,h3,h4,h5,h6,h7,h8,h9,h10⟩:=h
    exact⟨h2.1,h2.2,h4.1,h4.2⟩
  have hage:=hm.age
  have hfind:=rFind_eq N hN t.2.2.2.2.2.2.2.2.2.2.2.2 m.2.1 (by omega)
  obtain⟨hq,hhear⟩:=rHearK_eq N hN t h m.2.1 m.2.2.2.1 t.2.2.1
  have hkw:=h.kw.hear (k:=(m.2.1,m.2.2.2.1,t.2.2.1)) hm.fr.1 hm.fr.2
  try simp only
  refine ob_eq (decide (isUp t m),t,m,z0) ?_ ?_
  · by_cases c:t.2.2.2.1≠0
    · rw[dT c,cnd_t]
      refine congrArg some (congrArg (fun b=>(b,t,m,z0)) (decide_eq_decide.2 ⟨fun q=>⟨c,q⟩,fun q=>q.2⟩))
    · rw[dF c,cnd_f,decide_eq_false (fun q:isUp t m=>c q.1)]
  try simp only
  unfold dispM
  by_cases c1:m.1=1
  · rw[dT c1,cnd_t,if_pos c1,hfind,obind_s]
    unfold attachM
    have hfr:=rFresh_eq N t h (by omega)
    have hhas:=rHas_eq N t.2.2.2.2.2.2.1 m.2.1 (by omega) (by omega)
    refine ob_eq (mostM t,t,m,z0) ?_ ?_
    · unfold mostM
      by_cases c:t.1=1
      · rw[dT c,cnd_t,if_pos c]
      · rw[dF c,cnd_f,if_neg c]
    try simp only
    by_cases q:freshM t=false∨m.2.1∈t.2.2.2.2.2.2.1∨((findK t.2.2.2.2.2.2.2.2.2.2.2.2 m.2.1).1=false∧mostM t≤(t.2.2.2.2.2.2.2.2.2.2.2.2.length:Int))
    · rw[if_pos q]
      refine ob_eq (.inr (t,[sayM t 3 m.2.1])) ?_ (by (try simp only);rw[selim_r])
      rw[hfr,obind_s]
      cases hF:freshM t with
      | false=>
        rw[Bool.not_false,cnd_t,obind_s]
        try simp only
        rw[cnd_t,rSays_eq,obind_s]
      | true=>
        rw[Bool.not_true,cnd_f,hhas,obind_s,obind_s]
        try simp only
        by_cases c2:m.2.1∈t.2.2.2.2.2.2.1
        · rw[dT c2,cnd_t,rSays_eq,obind_s]
        · obtain⟨q1,q2⟩:=q.elim (fun e=>by rw[hF] at e;cases e) (fun e=>e.elim (fun e=>absurd e c2) id)
          rw[dF c2,cnd_f,q1,Bool.not_false,cnd_t,dT q2,cnd_t,rSays_eq,obind_s]
    · rw[if_neg q]
      have hF:freshM t=true:=by
        cases hF:freshM t with
        | false=>exact absurd (.inl hF) q
        | true=>rfl
      have c2:¬m.2.1∈t.2.2.2.2.2.2.1:=fun e=>q (.inr (.inl e))
      refine ob_eq (.inl (t,m,z0)) ?_ ?_
      · rw[hfr,obind_s,hF,Bool.not_true,cnd_f,hhas,obind_s,obind_s]
        try simp only
        rw[dF c2,cnd_f]
        cases hf:(findK t.2.2.2.2.2.2.2.2.2.2.2.2 m.2.1).1 with
        | true=>rw[Bool.not_true,cnd_f]
        | false=>rw[Bool.not_false,cnd_t,dF (fun e=>q (.inr (.inr ⟨hf,e⟩))),cnd_f]
      · try simp only
        rw[selim_l,hhear,obind_s]
        try simp only
        rw[withK_eq,rFull_eq N _ (h.wk hkw) (by omega),obind_s]
        obtain⟨id,inc,now,par,pinc,grd,path,ep,born,ask,unt,stp,kids⟩:=t
        rfl
  rw[dF c1,cnd_f,if_neg c1]
  by_cases c2:m.1=2
  · rw[dT c2,cnd_t,if_pos c2,rAccepted_eq N hN t h hB m hm,obind_s]
  rw[dF c2,cnd_f,if_neg c2]
  by_cases c3:m.1=3
  · rw[dT c3,cnd_t,if_pos c3]
    refine ob_eq ((if isAsk t m then vainM t else t),z0) ?_ ?_
    · by_cases d:t.2.2.2.2.2.2.2.2.2.1≠0
      · rw[dT d,cnd_t]
        by_cases d2:t.2.2.2.2.2.2.2.2.2.1=m.2.1
        · rw[dT d2,cnd_t,if_pos ⟨d,d2.symm⟩,wr_m (z:=t.2.2.2.2.2.2.2.2.2.2.2.1+1) (by omega) (by omega)]
          obtain⟨id,inc,now,par,pinc,grd,path,ep,born,ask,unt,stp,kids⟩:=t
          rfl
        · rw[dF d2,cnd_f,if_neg (fun q=>d2 q.2.symm)]
      · rw[dF d,cnd_f,if_neg (fun q=>d q.1)]
    · unfold refuseM
      try simp only
      by_cases u:isUp t m
      · rw[decide_eq_true u,cnd_t,rOff_eq,obind_s,if_pos u]
        split
        · obtain⟨id,inc,now,par,pinc,grd,path,ep,born,ask,unt,stp,kids⟩:=t
          rfl
        · rfl
      · rw[decide_eq_false u,cnd_f,if_neg u]
  rw[dF c3,cnd_f,if_neg c3]
  by_cases c4:m.1=4
  · rw[dT c4,cnd_t,if_pos c4,hfind,obind_s]
    unfold beatUpM
    cases hf:(findK t.2.2.2.2.2.2.2.2.2.2.2.2 m.2.1).1 with
    | false=>rw[Bool.not_false,cnd_t,rSays_eq,obind_s,if_pos rfl]
    | true=>
      rw[Bool.not_true,cnd_f,hhear,obind_s,if_neg (by simp)]
      try simp only
      rw[withK_eq]
  rw[dF c4,cnd_f,if_neg c4]
  by_cases c5:m.1=5
  · rw[dT c5,cnd_t,if_pos c5]
    unfold beatDnM
    by_cases u:isUp t m
    · rw[decide_eq_true u,Bool.not_true,cnd_f,if_pos u,rAdd_eq N _ _ (by omega) hm.pl,obind_s,wr_m (z:=t.2.2.1-m.2.2.2.2.2.1) (by omega) (by omega)]
      by_cases v:VP (m.2.2.2.2.2.2.1++[t.1])
      · rw[if_pos v,if_pos v]
        try simp only
        rw[Bool.not_true,cnd_f,rgrd_eq N _ hm.pl,obind_s]
        by_cases c:t.2.2.2.2.2.2.2.2.1<t.2.2.1-m.2.2.2.2.2.1
        · rw[dT c,cnd_t,if_pos c,if_pos c]
        · rw[dF c,cnd_f,if_neg c,if_neg c]
      · rw[if_neg v,if_neg v]
        try simp only
        rw[Bool.not_false,cnd_t,rOff_eq,obind_s,rSays_eq,obind_s]
    · rw[decide_eq_false u,Bool.not_false,cnd_t,if_neg u,rSays_eq,obind_s]
  rw[dF c5,cnd_f,if_neg c5]
  by_cases c6:m.1=6
  · rw[dT c6,cnd_t,if_pos c6,rDrop_eq N hN _ _ (by omega),obind_s,withK_eq]
  · rw[dF c6,cnd_f,if_neg c6]

abbrev It:=Int×List UInt8
abbrev iD:It:=((0:Int),([]:List UInt8))
abbrev Ev:=Int×Int×Int×List UInt8×Int
abbrev Sp:=Int×Int
abbrev Fd:=Int×Int×List It×List It×List Ev×Int×Int
abbrev z7:Fd:=(0,0,[],[],[],0,0)
def addR (l:List It) (e:It):List It:=if 6≤l.length then(l++[e]).drop 1 else l++[e]
theorem addR_len (l:List It) (e:It) (hl:l.length≤6):(addR l e).length=min (l.length+1) 6:=by
  unfold addR
  split<;>simp<;>omega
theorem drop_consI {l:List It} {i:Nat} (h:i<l.length):l.drop i=l.getD i iD::l.drop (i+1):=by
  rw[List.drop_eq_getElem_cons h,List.getD_eq_getElem?_getD,List.getElem?_eq_getElem h];rfl
def getF:List It→Int→List UInt8×Bool
  | [],_=>([],false)
  | w::r,s=>if w.1=s then(w.2,true) else getF r s
def Wk (n K:Int):List It→Prop
  | []=>True
  | w::r=>n≤w.1∧(w.1≤K∧w.2.length≤12)∧Wk (w.1+1) K r
theorem Wk.mono:∀{l:List It} {n n' K K':Int},Wk n K l→n'≤n→K≤K'→Wk n' K' l
  | [],_,_,_,_,_,_,_=>trivial
  | w::r,n,n',K,K',h,h1,h2=>⟨by have:=h.1;omega,by have:=h.2.1;omega,h.2.2.mono (Int.le_refl _) h2⟩
theorem Wk.len:∀{l:List It} {n K:Int},Wk n K l→n≤K+1→(l.length:Int)≤K+1-n
  | [],_,_,_,_=>by simp;omega
  | w::r,n,K,h,h1=>by
    have:=h.2.2.len (by have:=h.2.1;omega)
    have:=h.1
    simp only[List.length_cons];omega
theorem Wk.mem:∀{l:List It} {n K:Int},Wk n K l→∀w∈l,n≤w.1∧w.1≤K
  | [],_,_,_,_,h=>by simp at h
  | x::r,n,K,h,w,hw=>by
    rcases List.mem_cons.1 hw with rfl | hw
    · exact⟨h.1,h.2.1.1⟩
    · have:=h.2.2.mem w hw;have:=h.1;omega
theorem Wk.last:∀{l:List It} {n K:Int},Wk n K l→∀_:0<l.length,(l.getD (l.length-1) iD).1≤K:=by
  intro l n K h hl
  have:l.getD (l.length-1) iD∈l:=by
    rw[List.getD_eq_getElem?_getD,List.getElem?_eq_getElem (by omega)];exact List.getElem_mem (by omega)
  exact(h.mem _ this).2
theorem Wk.snoc:∀{l:List It} {n K K':Int} {e:It},Wk n K l→n≤e.1→K<e.1→e.1≤K'→e.2.length≤12→Wk n K' (l++[e])
  | [],_,_,_,_,_,h1,_,h3,h4=>⟨h1,⟨h3,h4⟩,trivial⟩
  | w::r,n,K,K',e,h,h1,h2,h3,h4=>by
    have:=h.2.1
    exact⟨h.1,by omega,h.2.2.snoc (by omega) h2 h3 h4⟩
theorem Wk.drop1:∀{l:List It} {n K:Int},Wk n K l→Wk n K (l.drop 1)
  | [],_,_,_=>trivial
  | w::r,n,K,h=>h.2.2.mono (by have:=h.1;omega) (Int.le_refl _)
theorem Wk.ring {l:List It} {n:Int} {e:It} {K:Int} (h:Wk 1 (n-1) l) (h1:1≤n) (he:e.1=n) (hK:n≤K) (ht:e.2.length≤12):Wk 1 K (addR l e):=by
  have:=h.snoc (e:=e) (K':=K) (by omega) (by omega) (by omega) ht
  unfold addR
  split
  · exact this.drop1
  · exact this
def insW (x:It):List It→List It
  | []=>[x]
  | w::r=>if x.1<w.1 then x::w::r else w::insW x r
theorem insW_len (x:It):∀l,(insW x l).length=l.length+1
  | []=>rfl
  | w::r=>by
    simp only[insW]
    split
    · rfl
    · simp only[List.length_cons,insW_len x r]
theorem Wk.ins:∀{l:List It} {n K:Int} {x:It},Wk n K l→n≤x.1→x.1≤K→(getF l x.1).2=false→x.2.length≤12→Wk n K (insW x l)
  | [],n,K,x,_,h1,h2,_,h4=>⟨h1,⟨h2,h4⟩,trivial⟩
  | w::r,n,K,x,h,h1,h2,h3,h4=>by
    simp only[getF] at h3
    by_cases c:w.1=x.1
    · rw[if_pos c] at h3;cases h3
    rw[if_neg c] at h3
    simp only[insW]
    split
    · exact⟨h1,⟨h2,h4⟩,by omega,h.2.1,h.2.2⟩
    · exact⟨h.1,h.2.1,h.2.2.ins (by omega) h2 h3 h4⟩
def putM (l:List It) (n:Int) (x:It):List It×Bool:=
  if x.1<n∨8≤x.1-n∨(getF l x.1).2=true then(l,false) else(insW x l,true)
def goM:List It→Int→List It→List Ev→List It×Int×List It×List It×List Ev
  | [],n,R,L=>([],n,R,[],L)
  | w::r,n,R,L=>if w.1=n then(w::(goM r (n+1) (addR R w) (L++[(1,w.1,w.1,w.2,0)])).1,(goM r (n+1) (addR R w) (L++[(1,w.1,w.1,w.2,0)])).2) else([],n,R,w::r,L)
def goesM (f:Fd):List It×Fd:=
  let q:=goM f.2.2.2.1 f.1 f.2.2.1 f.2.2.2.2.1
  (q.1,q.2.1,f.2.1,q.2.2.1,q.2.2.2.1,q.2.2.2.2,if q.1=[] then f.2.2.2.2.2 else(0,0))
def skR (hi why:Int):Nat→Int→List It→List It→List Ev→List Sp→List Sp×Int×List It×List It×List Ev
  | 0,n,R,W,L,o=>(o,n,R,W,L)
  | j+1,n,R,W,L,o=>
    if n≤hi then
      match W with
      | []=>skR hi why j (hi+1) R [] (L++[(2,n,hi,[],why)]) (o++[(n,hi)])
      | w::r=>
        if w.1≤hi then
          if n<w.1 then
            let q:=goM (w::r) w.1 R (L++[(2,n,w.1-1,[],why)])
            skR hi why j q.2.1 q.2.2.1 q.2.2.2.1 q.2.2.2.2 (o++[(n,w.1-1)])
          else
            let q:=goM (w::r) n R L
            skR hi why j q.2.1 q.2.2.1 q.2.2.2.1 q.2.2.2.2 o
        else skR hi why j (hi+1) R (w::r) (L++[(2,n,hi,[],why)]) (o++[(n,hi)])
    else(o,n,R,W,L)
def skipsM (f:Fd) (hi why:Int):List Sp×Fd:=
  if f.1<1∨1000000<hi then([],f) else
    let q:=skR hi why (f.2.2.2.1.length+2) f.1 f.2.2.1 f.2.2.2.1 f.2.2.2.2.1 []
    (q.1,q.2.1,f.2.1,q.2.2.1,q.2.2.2.1,q.2.2.2.2,if f.1≤hi then(0,0) else f.2.2.2.2.2)
def knowsM (f:Fd) (t:Int):Fd:=if 0<f.1∧t≤1000000 then(f.1,max f.2.1 t,f.2.2) else f
def beginM (f:Fd) (n:Int):Fd:=if 0<f.1 then knowsM f (n-1) else if 1≤n∧n≤1000000 then(n,f.2) else f
def wantsM (f:Fd):Bool×Int×Int:=
  let hi:=match f.2.2.2.1 with
    | []=>f.2.1
    | w::_=>w.1-1
  if f.1=0∨hi<f.1 then(false,0,0) else(true,f.1,hi)
def notesM (f:Fd) (lo hi:Int):Fd:=
  if f.1=0∨lo<1∨hi<lo∨1000000<hi then f else
    let g:=knowsM f hi
    if f.1<lo∨hi<f.1 then g else(goesM (skipsM g hi 1).2).2
def comesM (f:Fd) (x:It):Fd:=
  if f.1=0∨x.1<1∨1000000<x.1∨(12:Int)<x.2.length then f else
    let g:=knowsM f x.1
    (goesM (g.1,g.2.1,g.2.2.1,(putM g.2.2.2.1 g.1 x).1,g.2.2.2.2)).2
def nowM (a:Int×Int) (now:Int):Bool:=if a.1=0 then true else decide (a.2≤now)
def triedM (a:Int×Int) (now:Int):Int×Int:=(a.1+1,now+2*2 ^ (min a.1.toNat 3))
def tickM_2 (f:Fd) (now:Int):Bool×Fd×Int×Int:=
  let s:=wantsM f
  if s.1=false∨nowM f.2.2.2.2.2 now=false then(false,f,0,0) else
    if 3≤f.2.2.2.2.2.1 then(false,(goesM (skipsM f s.2.2 2).2).2,0,0) else
      (true,(f.1,f.2.1,f.2.2.1,f.2.2.2.1,f.2.2.2.2.1,triedM f.2.2.2.2.2 now),s.2.1,s.2.2)
def Ch:Int→List Ev→Int→Prop
  | n,[],m=>n=m
  | n,e::r,m=>e.2.1=n∧(e.2.1≤e.2.2.1∧(e.1=1∧e.2.1=e.2.2.1∨e.1=2)∧e.2.2.2.1.length≤12)∧Ch (e.2.2.1+1) r m
theorem Ch.len:∀{L:List Ev} {n m:Int},Ch n L m→(L.length:Int)≤m-n
  | [],_,_,h=>by have h':_=_:=h;simp;omega
  | e::r,n,m,h=>by
    have:=h.2.2.len;have:=h.1;have:=h.2.1
    simp only[List.length_cons];omega
theorem Ch.snoc:∀{L:List Ev} {n m:Int} {e:Ev},Ch n L m→e.2.1=m→m≤e.2.2.1→((e.1=1∧e.2.1=e.2.2.1∨e.1=2)∧e.2.2.2.1.length≤12)→Ch n (L++[e]) (e.2.2.1+1)
  | [],_,_,e,h,h1,h2,h3=>by have h':_=_:=h;exact⟨by omega,⟨by omega,h3⟩,rfl⟩
  | x::r,n,m,e,h,h1,h2,h3=>⟨h.1,h.2.1,h.2.2.snoc h1 h2 h3⟩
structure Fp (K c n:Int) (R W:List It) (L:List Ev):Prop where
  nx:1≤n∧n≤K+1
  rk:Wk 1 (n-1) R
  rl:R.length≤6
  wk:Wk n (min K (n+7)) W
  ch:Ch c L n
  c0:1≤c
theorem Fp.tell {K c n:Int} {R r:List It} {w:It} {L:List Ev} (h:Fp K c n R (w::r) L) (hw:w.1=n):Fp K c (n+1) (addR R w) r (L++[(1,w.1,w.1,w.2,0)]):=by
  obtain⟨⟨a,b⟩,rk,rl,wk,ch,c0⟩:=h
  have hk:=wk.2.1
  refine⟨⟨by omega,by omega⟩,rk.ring a hw (by omega) hk.2,by rw[addR_len _ _ rl];omega,wk.2.2.mono (by omega) (by omega),?_,c0⟩
  have:=ch.snoc (e:=(1,w.1,w.1,w.2,0)) hw (by simp only;omega) ⟨.inl ⟨rfl,rfl⟩,hk.2⟩
  simp only at this
  rw[hw] at this ⊢
  exact this
theorem Fp.skip {K c n:Int} {R W:List It} {L:List Ev} (h:Fp K c n R W L) {m why:Int} (hm:n≤m) (hk:m≤K) (hw:Wk (m+1) (min K (n+7)) W):Fp K c (m+1) R W (L++[(2,n,m,[],why)]):=by
  obtain⟨⟨a,b⟩,rk,rl,wk,ch,c0⟩:=h
  exact⟨⟨by omega,by omega⟩,rk.mono (Int.le_refl _) (by omega),rl,hw.mono (Int.le_refl _) (by omega),ch.snoc rfl hm ⟨.inr rfl,by simp⟩,c0⟩
theorem goM_ok {K c:Int}:∀(W:List It) (n:Int) (R:List It) (L:List Ev),Fp K c n R W L→Fp K c (goM W n R L).2.1 (goM W n R L).2.2.1 (goM W n R L).2.2.2.1 (goM W n R L).2.2.2.2∧
    Wk ((goM W n R L).2.1+1) (min K ((goM W n R L).2.1+7)) (goM W n R L).2.2.2.1∧n+(goM W n R L).1.length=(goM W n R L).2.1∧(goM W n R L).1++(goM W n R L).2.2.2.1=W∧(goM W n R L).2.2.2.2=L++(goM W n R L).1.map fun w=>(1,w.1,w.1,w.2,0)
  | [],n,R,L,h=>⟨h,trivial,by simp[goM],rfl,by simp[goM]⟩
  | w::r,n,R,L,h=>by
    unfold goM
    by_cases c1:w.1=n
    · rw[if_pos c1]
      obtain⟨h1,h2,h3,h4,h5⟩:=goM_ok r (n+1) _ _ (h.tell c1)
      refine⟨h1,h2,by simp only[List.length_cons];omega,by simp only[List.cons_append,h4],?_⟩
      simp only[h5,List.map_cons,List.append_assoc,List.cons_append,List.nil_append]
    · rw[if_neg c1]
      have:=h.wk.1
      refine⟨h,⟨by simp only;omega,h.wk.2⟩,by simp,rfl,by simp⟩
theorem goM_head {w:It} {r R:List It} {n:Int} {L:List Ev} (h:w.1=n):(goM (w::r) n R L).1≠[]∧(goM (w::r) n R L).2.2.2.1.length≤r.length:=by
  have hl:∀(W:List It) (n:Int) (R:List It) (L:List Ev),(goM W n R L).2.2.2.1.length≤W.length:=by
    intro W
    induction W with
    | nil=>intro n R L;simp[goM]
    | cons w r ih=>
      intro n R L
      unfold goM
      split
      · have:=ih (n+1) (addR R w) (L++[(1,w.1,w.1,w.2,0)]);simp only[List.length_cons];omega
      · simp
  unfold goM
  rw[if_pos h]
  exact⟨by simp,hl _ _ _ _⟩
theorem skR_ok {K c hi why:Int} (hK:hi≤K):∀(j:Nat) (n:Int) (R W:List It) (L:List Ev) (o:List Sp),Fp K c n R W L→(n≤hi→W.length+1≤j)→
    Fp K c (skR hi why j n R W L o).2.1 (skR hi why j n R W L o).2.2.1 (skR hi why j n R W L o).2.2.2.1 (skR hi why j n R W L o).2.2.2.2∧hi<(skR hi why j n R W L o).2.1∧n≤(skR hi why j n R W L o).2.1
  | 0,n,R,W,L,o,h,hj=>by
    have:¬n≤hi:=fun q=>by have:=hj q;omega
    exact⟨h,by simp only[skR];omega,by simp only[skR];omega⟩
  | j+1,n,R,W,L,o,h,hj=>by
    unfold skR
    by_cases c0:n≤hi
    case neg=>rw[if_neg c0];exact⟨h,by simp only;omega,by simp only;omega⟩
    rw[if_pos c0]
    have hj:=hj c0
    cases W with
    | nil=>
      try simp only
      obtain⟨a1,a2,a3⟩:=skR_ok hK j (hi+1) R [] (L++[(2,n,hi,[],why)]) (o++[(n,hi)]) (h.skip c0 hK trivial) (fun q=>by omega)
      exact⟨a1,a2,by omega⟩
    | cons w r=>
      simp only[List.length_cons] at hj
      try simp only
      have hw:=h.wk
      by_cases c1:w.1≤hi
      · rw[if_pos c1]
        by_cases c2:n<w.1
        · rw[if_pos c2]
          have hs:Fp K c w.1 R (w::r) (L++[(2,n,w.1-1,[],why)]):=by
            have:=h.skip (m:=w.1-1) (why:=why) (by omega) (by omega) ⟨by omega,hw.2⟩
            rwa [show w.1-1+1=w.1 by omega] at this
          obtain⟨g1,g2,g3,g4,_⟩:=goM_ok _ _ _ _ hs
          obtain⟨g5,g6⟩:=goM_head (r:=r) (R:=R) (L:=L++[(2,n,w.1-1,[],why)]) (rfl:w.1=w.1)
          obtain⟨a1,a2,a3⟩:=skR_ok hK j _ _ _ _ (o++[(n,w.1-1)]) g1 (fun q=>by omega)
          exact⟨a1,a2,by omega⟩
        · rw[if_neg c2]
          have e:w.1=n:=by have:=hw.1;omega
          obtain⟨g1,g2,g3,g4,_⟩:=goM_ok _ _ _ _ h
          obtain⟨g5,g6⟩:=goM_head (r:=r) (R:=R) (L:=L) e
          obtain⟨a1,a2,a3⟩:=skR_ok hK j _ _ _ _ o g1 (fun q=>by omega)
          exact⟨a1,a2,by omega⟩
      · rw[if_neg c1]
        obtain⟨a1,a2,a3⟩:=skR_ok hK j (hi+1) R (w::r) (L++[(2,n,hi,[],why)]) (o++[(n,hi)]) (h.skip c0 hK ⟨by omega,hw.2⟩) (fun q=>by omega)
        exact⟨a1,a2,by omega⟩
theorem rTell (N:Nat) (a:List Ev) (n:Int) (t:List UInt8) (hl:a.length≤100000000):W_Q N (a,n,t)=some (a++[(1,n,n,t,0)]):=by
  unfold W_Q V_Q
  try simp only
  rw[cnd_T (by omega),cnd_T (by simp only[List.length_cons,List.length_nil];omega)]
theorem rSkip_eq (N:Nat) (a:List Ev) (lo hi why:Int) (hl:a.length≤100000000):W_al N (a,lo,hi,why)=some (a++[(2,lo,hi,[],why)]):=by
  unfold W_al V_al
  try simp only
  rw[cnd_T (by omega),cnd_T (by omega)]
theorem cut1 (l:List It) (h:1≤l.length):List.drop ((0:Nat)+(cutT (0:Nat) l.length l.length (some (1:Int)) none).2.1) (List.take ((0:Nat)+(cutT (0:Nat) l.length l.length (some (1:Int)) none).2.1+((cutT (0:Nat) l.length l.length (some (1:Int)) none).2.2-(cutT (0:Nat) l.length l.length (some (1:Int)) none).2.1)) l)=l.drop 1:=by
  simp only[cutT,Option.getD_some,Option.getD_none]
  have e:(1:Int).toNat=1:=rfl
  rw[e,show 0+1+(l.length-1)=l.length by omega,List.take_length]
theorem rAdd_eq_2 (N:Nat) (l:List It) (e:It) (hl:l.length≤6) (hs:∀h:0<l.length,(l.getD (l.length-1) iD).1<e.1):W_G N (l,e.1,e.2)=some (addR l e):=by
  unfold W_G V_G
  simp only[Option.getD_some]
  rw[cnd_T (by omega)]
  have tail:cnd (decide ((List.length l+List.length [(e.1,e.2)])*(24:Nat)≤(140737488355328:Nat)))
          (cnd (decide ((6:Int)<(↑(List.length (l++[(e.1,e.2)])):Int)))
            (cnd (decide ((1:Int)≤(↑(List.length (l++[(e.1,e.2)])):Int))) (some (List.drop ((0:Nat)+(cutT (0:Nat) (l++[(e.1,e.2)]).length (l++[(e.1,e.2)]).length (some (1:Int)) none).2.1) (List.take ((0:Nat)+(cutT (0:Nat) (l++[(e.1,e.2)]).length (l++[(e.1,e.2)]).length (some (1:Int)) none).2.1+((cutT (0:Nat) (l++[(e.1,e.2)]).length (l++[(e.1,e.2)]).length (some (1:Int)) none).2.2-(cutT (0:Nat) (l++[(e.1,e.2)]).length (l++[(e.1,e.2)]).length (some (1:Int)) none).2.1)) (l++[(e.1,e.2)])))) none)
            (some (l++[(e.1,e.2)])))
          none=some (addR l e):=by
    rw[dT (by simp only[List.length_singleton];omega),cnd_t]
    unfold addR
    by_cases h6:6≤l.length
    · rw[dT (by simp only[List.length_append,List.length_singleton];omega),cnd_t,if_pos h6,dT (by simp only[List.length_append,List.length_singleton];omega),cnd_t,cut1 _ (by simp)]
    · rw[dF (by simp only[List.length_append,List.length_singleton];omega),cnd_f,if_neg h6]
  by_cases h0:(0:Int)<l.length
  · have w1:wr .i64 ((l.length:Int)-1)=((l.length-1:Nat):Int):=by rw[wr_m (by omega) (by omega)];omega
    have h1:=hs (by omega)
    rw[dT h0,cnd_t,w1,dT (by omega),dT (by omega),Bool.and_self,cnd_t,Int.toNat_natCast,dF (by show ¬e.1≤(l.getD (l.length-1) iD).1;omega),cnd_f]
    exact tail
  · rw[dF h0,cnd_f]
    exact tail
theorem TakeWin_nil (N:Nat) (n:Int):W_Z N ([],n)=some ([],false,0,[]):=by
  unfold W_Z V_Z
  simp only[List.length_nil]
  rw[dT (by omega),cnd_t]
theorem TakeWin_no (N:Nat) (w:It) (r:List It) (n:Int) (h:w.1≠n):W_Z N (w::r,n)=some (w::r,false,0,[]):=by
  unfold W_Z V_Z
  simp only[List.length_cons]
  rw[dF (by omega),cnd_f,dT (by omega),dT (by omega),Bool.and_self,cnd_t]
  have e:(List.getD (w::r) 0 ((0:Int),([]:List UInt8)))=w:=rfl
  rw[e,dT h,cnd_t]
theorem TakeWin_yes (N:Nat) (w:It) (r:List It) (hr:r.length≤1000):W_Z N (w::r,w.1)=some (r,true,w.1,w.2):=by
  unfold W_Z V_Z
  simp only[List.length_cons]
  have e:(List.getD (w::r) 0 ((0:Int),([]:List UInt8)))=w:=rfl
  have e2:List.drop 1 (List.take (r.length+1) (w::r))=r:=by simp
  rw[dF (by omega),cnd_f,dT (by omega),dT (by omega),Bool.and_self,cnd_t,e,dF (fun q=>q rfl),cnd_f,dT (by omega),dT (by omega),Bool.and_self,cnd_t,cnd_T (by rw[e2];omega),cnd_t,e2]
theorem Fp.lens {K c n:Int} {R W:List It} {L:List Ev} (h:Fp K c n R W L) (hK:K≤10000000):W.length≤8∧L.length≤10000001∧∀_:0<R.length,(R.getD (R.length-1) iD).1<n:=by
  have a:=h.wk.len (by have:=h.nx;omega)
  have b:=h.ch.len
  have d:=h.c0
  have e:=h.nx
  refine⟨by omega,by omega,fun q=>?_⟩
  have:=h.rk.last q
  omega
theorem goM_eq (w:It) (r R:List It) (L:List Ev):goM (w::r) w.1 R L=(w::(goM r (w.1+1) (addR R w) (L++[(1,w.1,w.1,w.2,0)])).1,(goM r (w.1+1) (addR R w) (L++[(1,w.1,w.1,w.2,0)])).2):=by
  conv=>lhs;unfold goM
  rw[if_pos rfl]
theorem goM_ne {w:It} {n:Int} (h:w.1≠n) (r R:List It) (L:List Ev):goM (w::r) n R L=([],n,R,w::r,L):=by
  conv=>lhs;unfold goM
  rw[if_neg h]
theorem rGoes_eq (N:Nat) (hN:2000≤N) {K c:Int} {f:Fd} (h:Fp K c f.1 f.2.2.1 f.2.2.2.1 f.2.2.2.2.1) (hK:K≤10000000):W_e N f=some (goesM f):=by
  obtain⟨nx,tp,R,Wn,Lg,a,b⟩:=f
  unfold W_e V_e goesM
  simp only at h ⊢
  have hwl:=(h.lens hK).1
  refine loop_G (N:=N) (x:=((nx,tp,R,Wn,Lg,a,b),z7,[])) (fun q=>q=some ((goM Wn nx R Lg).1,(goM Wn nx R Lg).2.1,tp,(goM Wn nx R Lg).2.2.1,(goM Wn nx R Lg).2.2.2.1,(goM Wn nx R Lg).2.2.2.2,if (goM Wn nx R Lg).1=[] then(a,b) else(0,0)))
    (fun k (v:Fd×Fd×List It)=>v.2.1=z7∧Fp K c v.1.1 v.1.2.2.1 v.1.2.2.2.1 v.1.2.2.2.2.1∧v.1.2.1=tp∧v.1.2.2.2.1.length+k=Wn.length∧v.2.2.length=k∧(v.2.2++(goM v.1.2.2.2.1 v.1.1 v.1.2.2.1 v.1.2.2.2.2.1).1,(goM v.1.2.2.2.1 v.1.1 v.1.2.2.1 v.1.2.2.2.2.1).2)=goM Wn nx R Lg∧v.1.2.2.2.2.2=if v.2.2=[] then(a,b) else(0,0)) Wn.length
    (fun r:List It×Fd=>r=((goM Wn nx R Lg).1,(goM Wn nx R Lg).2.1,tp,(goM Wn nx R Lg).2.2.1,(goM Wn nx R Lg).2.2.2.1,(goM Wn nx R Lg).2.2.2.2,if (goM Wn nx R Lg).1=[] then(a,b) else(0,0))) ⟨rfl,h,rfl,by simp,rfl,by simp,by simp⟩ (by omega) ?_ (fun k v h=>by have:=h.2.2.2.1;omega) ?_
  · rintro r rfl;rfl
  · rintro k ⟨⟨n',t',R',W',L',a',b'⟩,z,o⟩ ⟨rfl,hf,rfl,hwk,hol,hq,hab⟩
    simp only at hf hwk hol hq hab ⊢
    obtain⟨l1,l2,l3⟩:=hf.lens hK
    have hnx:=hf.nx
    cases W' with
    | nil=>
      right
      rw[TakeWin_nil,obind_s]
      simp only[Bool.not_false,cnd_t]
      refine⟨_,rfl,?_⟩
      simp only[goM,List.append_nil] at hq
      rw[←hq,hab]
    | cons w r=>
      simp only[List.length_cons] at hwk l1
      by_cases cw:w.1=n'
      · left
        obtain rfl:n'=w.1:=cw.symm
        rw[TakeWin_yes N w r (by omega),obind_s]
        simp only[Bool.not_true,cnd_f]
        rw[rTell N L' w.1 w.2 (by omega),obind_s,rAdd_eq_2 N R' (w.1,w.2) hf.rl l3,obind_s]
        have hs:=hf.tell rfl
        rw[goM_eq] at hq
        refine⟨_,cnd_T (by simp only[List.length_cons,List.length_nil];omega),rfl,?_,rfl,by simp only;omega,by simp[hol],?_,by simp⟩
        · simp only
          rw[wr_m (by omega) (by omega)]
          exact hs
        · simp only
          rw[wr_m (by omega) (by omega),←hq]
          simp only[List.append_assoc,List.cons_append,List.nil_append]
      · right
        rw[TakeWin_no N w r n' cw,obind_s]
        simp only[Bool.not_false,cnd_t]
        rw[goM_ne cw] at hq
        refine⟨_,rfl,?_⟩
        simp only[List.append_nil] at hq
        rw[←hq,hab]
theorem First_cons (N:Nat) (w:It) (r:List It):W_B N (w::r)=some w.1:=by
  unfold W_B V_B
  simp only[List.length_cons]
  rw[dF (by omega),cnd_f,dT (by omega),dT (by omega),Bool.and_self,cnd_t]
  rfl
theorem skR_stop {hi why n:Int} {R W:List It} {L:List Ev} {o:List Sp} (h:¬n≤hi):∀j,skR hi why j n R W L o=(o,n,R,W,L)
  | 0=>rfl
  | j+1=>by unfold skR;rw[if_neg h]
theorem rSkips_eq (N:Nat) (hN:2000≤N) {K c:Int} {f:Fd} (h:1≤f.1→Fp K c f.1 f.2.2.1 f.2.2.2.1 f.2.2.2.2.1) (hK:K≤10000000) (hi why:Int) (hh:hi≤1000000→hi≤K):W_L N (f,hi,why)=some (skipsM f hi why):=by
  obtain⟨nx,tp,R,Wn,Lg,a,b⟩:=f
  unfold W_L V_L skipsM
  simp only at h ⊢
  by_cases c1:nx<1
  · rw[dT c1,cnd_t,if_pos (.inl c1)]
  rw[dF c1,cnd_f]
  by_cases c2:1000000<hi
  · rw[dT c2,cnd_t,if_pos (.inr c2)]
  rw[dF c2,cnd_f,if_neg (by omega)]
  have h:=h (by omega)
  have hh:=hh (by omega)
  have hwl:=(h.lens hK).1
  have hn0:=h.nx
  obtain⟨T,hT⟩:∃T,skR hi why (Wn.length+2) nx R Wn Lg []=T:=⟨_,rfl⟩
  rw[hT]
  refine loop_G (N:=N) (x:=((nx,tp,R,Wn,Lg,a,b),z7,[])) (fun q=>q=some (T.1,T.2.1,tp,T.2.2.1,T.2.2.2.1,T.2.2.2.2,if nx≤hi then(0,0) else(a,b)))
    (fun k (v:Fd×Fd×List Sp)=>v.2.1=z7∧Fp K c v.1.1 v.1.2.2.1 v.1.2.2.2.1 v.1.2.2.2.2.1∧v.1.2.1=tp∧v.2.2.length≤k∧v.1.2.2.2.2.2=(if k=0 then(a,b) else(0,0))∧(k=0→v.1.1=nx)∧(0<k→nx≤hi)∧
      ∃j,j+k=Wn.length+2∧(v.1.1≤hi→v.1.2.2.2.1.length+1≤j)∧skR hi why j v.1.1 v.1.2.2.1 v.1.2.2.2.1 v.1.2.2.2.2.1 v.2.2=T) (Wn.length+2)
    (fun r:List Sp×Fd×Fd=>r.1=T.1∧r.2.1=(T.2.1,tp,T.2.2.1,T.2.2.2.1,T.2.2.2.2,if nx≤hi then(0,0) else(a,b))) ⟨rfl,h,rfl,by simp,by simp,fun _=>rfl,fun q=>by omega,Wn.length+2,rfl,fun _=>by simp,hT⟩ (by omega) ?_ (fun k v h=>by obtain⟨j,h1,_⟩:=h.2.2.2.2.2.2.2;omega) ?_
  · rintro⟨o,f,z⟩ ⟨rfl,rfl⟩;rfl
  · rintro k ⟨⟨n',t',R',W',L',a',b'⟩,z,o⟩ ⟨rfl,hf,rfl,hol,hab,hk0,hk1,j,hj,hw,hq⟩
    simp only at hf hol hab hk0 hk1 hw hq ⊢
    obtain⟨l1,l2,l3⟩:=hf.lens hK
    have hnx:=hf.nx
    by_cases cn:n'≤hi
    case neg=>
      right
      rw[dF cn,cnd_f]
      rw[skR_stop cn] at hq
      refine⟨_,rfl,by rw[←hq],?_⟩
      try simp only
      rw[hab,←hq]
      by_cases k0:k=0
      · have:=hk0 k0
        rw[if_pos k0,if_neg (by omega)]
      · rw[if_neg k0,if_pos (hk1 (by omega))]
    left
    have hni:nx≤hi:=by
      by_cases k0:k=0
      · have:=hk0 k0;omega
      · exact hk1 (by omega)
    have hw:=hw cn
    obtain⟨j,rfl⟩:∃i,j=i+1:=⟨j-1,by omega⟩
    unfold skR at hq
    rw[if_pos cn] at hq
    rw[dT cn,cnd_t]
    -- where nothing is ahead
    have far:Wk (hi+1) (min K (n'+7)) W'→skR hi why j (hi+1) R' W' (L'++[(2,n',hi,[],why)]) (o++[(n',hi)])=T→(∃y:Fd×Fd×List Sp,(obind (some (hi,((n',t',R',W',L',(0:Int),(0:Int)):Fd),z7,o)) fun(b:Int×Fd×Fd×List Sp)=>obind (cnd (decide (b.2.1.1≤b.1)) (obind (W_al N (b.2.1.2.2.2.2.1,b.2.1.1,b.1,why)) fun(b_1:List Ev)=>cnd (decide ((List.length b.2.2.2+List.length [(b.2.1.1,b.1)])*(16:Nat)≤(140737488355328:Nat))) (some (((wr .i64 (b.1+1),b.2.1.2.1,b.2.1.2.2.1,b.2.1.2.2.2.1,b_1,b.2.1.2.2.2.2.2.1,b.2.1.2.2.2.2.2.2):Fd),b.2.2.1,b.2.2.2++[(b.2.1.1,b.1)])) none) (some (b.2.1,b.2.2.1,b.2.2.2))) fun(b:Fd×Fd×List Sp)=>cnd (decide (b.1.1≤hi)) (obind (W_e N b.1) fun(b_1:List It×Fd)=>some (Sum.inl (b_1.2,b.2.1,b.2.2))) (some (Sum.inl (b.1,b.2.1,b.2.2))))=some (.inl y:(Fd×Fd×List Sp)⊕(List Sp×Fd×Fd))∧y.2.1=z7∧Fp K c y.1.1 y.1.2.2.1 y.1.2.2.2.1 y.1.2.2.2.2.1∧y.1.2.1=t'∧y.2.2.length≤k+1∧y.1.2.2.2.2.2=(if k+1=0 then(a,b) else(0,0))∧(k+1=0→y.1.1=nx)∧(0<k+1→nx≤hi)∧
      ∃j,j+(k+1)=Wn.length+2∧(y.1.1≤hi→y.1.2.2.2.1.length+1≤j)∧skR hi why j y.1.1 y.1.2.2.1 y.1.2.2.2.1 y.1.2.2.2.2.1 y.2.2=T):=by
      intro hwk hq
      rw[obind_s]
      try simp only
      rw[dT cn,cnd_t,rSkip_eq N L' n' hi why (by omega),obind_s,cnd_T (by simp only[List.length_cons,List.length_nil];omega),obind_s,wr_m (by omega) (by omega)]
      try simp only
      rw[dF (by omega),cnd_f]
      exact⟨_,rfl,rfl,hf.skip cn hh hwk,rfl,by simp only[List.length_append,List.length_cons,List.length_nil];omega,by rw[if_neg (by omega)],fun q=>by omega,fun _=>hni,j,by omega,fun q=>by simp only at q;omega,hq⟩
    cases W' with
    | nil=>
      rw[dF (by simp),cnd_f]
      exact far trivial hq
    | cons w r=>
      have hwk:=hf.wk
      simp only[List.length_cons] at hw l1
      rw[dT (by simp only[List.length_cons];omega),cnd_t,First_cons,obind_s]
      simp only at hq
      by_cases cf:w.1≤hi
      case neg=>
        rw[dF cf,cnd_f]
        rw[if_neg cf] at hq
        exact far ⟨by omega,hwk.2⟩ hq
      rw[if_pos cf] at hq
      have hw1:=hwk.1
      rw[dT cf,cnd_t,obind_s,obind_s,wr_m (z:=w.1-1) (by omega) (by omega)]
      try simp only
      -- a feed that has come to the first one
      have near:∀(Lq:List Ev) (oq:List Sp),Fp K c w.1 R' (w::r) Lq→oq.length≤k+1→skR hi why j (goM (w::r) w.1 R' Lq).2.1 (goM (w::r) w.1 R' Lq).2.2.1 (goM (w::r) w.1 R' Lq).2.2.2.1 (goM (w::r) w.1 R' Lq).2.2.2.2 oq=T→(∃y:Fd×Fd×List Sp,(cnd (decide (w.1≤hi)) (obind (W_e N (w.1,t',R',w::r,Lq,(0:Int),(0:Int))) fun(b_1:List It×Fd)=>some (Sum.inl (b_1.2,z7,oq))) (some (Sum.inl (((w.1,t',R',w::r,Lq,(0:Int),(0:Int)):Fd),z7,oq))))=some (.inl y:(Fd×Fd×List Sp)⊕(List Sp×Fd×Fd))∧y.2.1=z7∧Fp K c y.1.1 y.1.2.2.1 y.1.2.2.2.1 y.1.2.2.2.2.1∧y.1.2.1=t'∧y.2.2.length≤k+1∧y.1.2.2.2.2.2=(if k+1=0 then(a,b) else(0,0))∧(k+1=0→y.1.1=nx)∧(0<k+1→nx≤hi)∧
        ∃j,j+(k+1)=Wn.length+2∧(y.1.1≤hi→y.1.2.2.2.1.length+1≤j)∧skR hi why j y.1.1 y.1.2.2.1 y.1.2.2.2.1 y.1.2.2.2.2.1 y.2.2=T):=by
        intro Lq oq hF hoq hq
        rw[dT cf,cnd_t,rGoes_eq N hN (f:=(w.1,t',R',w::r,Lq,(0:Int),(0:Int))) hF hK,obind_s]
        obtain⟨g1,g2,g3,g4,_⟩:=goM_ok _ _ _ _ hF
        obtain⟨g5,g6⟩:=goM_head (r:=r) (R:=R') (L:=Lq) (rfl:w.1=w.1)
        refine⟨_,rfl,rfl,g1,rfl,hoq,?_,fun q=>by omega,fun _=>hni,j,by omega,fun q=>by simp only[goesM];omega,hq⟩
        simp only[goesM]
        rw[if_neg g5,if_neg (by omega)]
      by_cases cg:n'≤w.1-1
      · rw[if_pos (show n'<w.1 by omega)] at hq
        rw[dT cg,cnd_t,rSkip_eq N L' n' (w.1-1) why (by omega),obind_s,cnd_T (by simp only[List.length_cons,List.length_nil];omega),obind_s,wr_m (by omega) (by omega)]
        try simp only
        rw[show w.1-1+1=w.1 by omega]
        refine near (L'++[(2,n',w.1-1,[],why)]) (o++[(n',w.1-1)]) ?_ (by simp only[List.length_append,List.length_cons,List.length_nil];omega) hq
        have:=hf.skip (m:=w.1-1) (why:=why) (by omega) (by omega) ⟨by omega,hwk.2⟩
        rwa [show w.1-1+1=w.1 by omega] at this
      · rw[if_neg (show ¬n'<w.1 by omega)] at hq
        have e:n'=w.1:=by omega
        subst e
        rw[dF cg,cnd_f,obind_s]
        exact near L' o hf (by omega) hq
theorem rKnows_eq (N:Nat) (f:Fd) (t:Int):W_h N (f,t)=some (knowsM f t):=by
  obtain⟨nx,tp,R,Wn,Lg,a,b⟩:=f
  unfold W_h V_h knowsM
  try simp only
  by_cases c1:0<nx
  · rw[dT c1,cnd_t]
    by_cases c2:t≤1000000
    · rw[dT c2,cnd_t,if_pos ⟨c1,c2⟩]
    · rw[dF c2,cnd_f,if_neg (fun q=>c2 q.2)]
  · rw[dF c1,cnd_f,if_neg (fun q=>c1 q.1)]
theorem rBegin_eq (N:Nat) (f:Fd) (n:Int) (hw:0<f.1→knowsM f (wr .i64 (n-1))=knowsM f (n-1)):W_aG N (f,n)=some (beginM f n):=by
  have hk:=rKnows_eq N f (wr .i64 (n-1))
  obtain⟨nx,tp,R,Wn,Lg,a,b⟩:=f
  unfold W_aG V_aG beginM
  simp only at hw ⊢
  by_cases c1:0<nx
  · rw[dT c1,cnd_t,if_pos c1,hk,obind_s,hw c1]
  · rw[dF c1,cnd_f,if_neg c1]
    by_cases c2:1≤n
    · rw[dT c2,cnd_t]
      by_cases c3:n≤1000000
      · rw[dT c3,cnd_t,if_pos ⟨c2,c3⟩]
      · rw[dF c3,cnd_f,if_neg (fun q=>c3 q.2)]
    · rw[dF c2,cnd_f,if_neg (fun q=>c2 q.1)]
theorem rWants_eq (N:Nat) {K c:Int} {f:Fd} (h0:0≤f.1) (h:1≤f.1→Fp K c f.1 f.2.2.1 f.2.2.2.1 f.2.2.2.2.1) (hz:f.1=0→f.2.2.2.1=[]) (hK:K≤10000000):W_aH N f=some (wantsM f):=by
  obtain⟨nx,tp,R,Wn,Lg,a,b⟩:=f
  unfold W_aH V_aH wantsM
  simp only at h hz h0 ⊢
  have key:∀hi:Int,(obind (some (hi,((nx,tp,R,Wn,Lg,a,b):Fd),(0:Int),(0:Int))) fun(b:Int×Fd×Int×Int)=>cnd (decide (b.2.1.1=0)) (some (false,(0:Int),(0:Int))) (cnd (decide (b.1<b.2.1.1)) (some (false,(0:Int),(0:Int))) (some (true,b.2.1.1,b.1))))=some (if nx=0∨hi<nx then(false,0,0) else(true,nx,hi)):=by
    intro hi
    rw[obind_s]
    try simp only
    by_cases c0:nx=0
    · rw[dT c0,cnd_t,if_pos (.inl c0)]
    rw[dF c0,cnd_f]
    by_cases q:hi<nx
    · rw[dT q,cnd_t,if_pos (.inr q)]
    · rw[dF q,cnd_f,if_neg (by omega)]
  cases Wn with
  | nil=>
    rw[dF (by simp),cnd_f]
    exact key tp
  | cons w r=>
    have hn:1≤nx:=by
      have:nx≠0:=fun q=>by have:=hz q;cases this
      omega
    have hwk:=(h hn).wk
    have hnx:=(h hn).nx
    have hw1:=hwk.1;have hw2:=hwk.2.1
    rw[dT (by simp only[List.length_cons];omega),cnd_t,First_cons,obind_s,wr_m (by omega) (by omega)]
    exact key (w.1-1)
theorem rNow_eq (N:Nat) (a:Int×Int) (now:Int):W_a2 N (a,now)=some (nowM a now):=by
  obtain⟨a,b⟩:=a
  unfold W_a2 V_a2 nowM
  try simp only
  by_cases q:a=0
  · rw[dT q,cnd_t,if_pos q]
  · rw[dF q,cnd_f,if_neg q]
theorem rMaySpan_eq (N:Nat) (lo hi:Int):W_j N (lo,hi)=some (decide (1≤lo∧lo≤hi∧hi≤1000000)):=by
  unfold W_j V_j
  try simp only
  by_cases q1:1≤lo
  · rw[dT q1,cnd_t,obind_s]
    try simp only
    by_cases q2:lo≤hi
    · rw[dT q2,cnd_t];simp[q1,q2]
    · rw[dF q2,cnd_f,dF (fun q=>q2 q.2.1)]
  · rw[dF q1,cnd_f,obind_s]
    try simp only
    rw[cnd_f,dF (fun q=>q1 q.1)]
theorem rTried_eq (N:Nat) (hN:2000≤N) (a:Int×Int) (now:Int) (h:0≤a.1) (h2:a.1≤1000000) (hn:-100000000000000≤now) (hn2:now≤100000000000000):W_aW N (a,now)=some (triedM a now):=by
  obtain⟨a,b⟩:=a
  unfold W_aW V_aW triedM
  simp only at h h2 ⊢
  refine loop_G (N:=N) (fun q=>q=some (a+1,now+2*2 ^ (min a.toNat 3))) (fun k (v:Int×Int×(Int×Int)×Int×Int)=>v.2.2.1=(a,b)∧v.2.1=k∧(k:Int)≤a∧k≤3∧v.1=2*2 ^ k) 3 (fun r:Int×(Int×Int)×Int×Int=>r.2.1=(a,b)∧r.1=2*2 ^ (min a.toNat 3)) ⟨rfl,rfl,by omega,by omega,by simp⟩ (by omega) ?_ (fun k v h=>h.2.2.2.1) ?_
  · rintro⟨u,⟨x,y⟩,z1,z2⟩ ⟨e,e2⟩
    cases e
    simp only at e2 ⊢
    have hp:(2:Int)*2 ^ (min a.toNat 3)≤16∧0≤(2:Int)*2 ^ (min a.toNat 3):=by
      have hm:min a.toNat 3≤3:=by omega
      generalize min a.toNat 3=m at hm ⊢
      have:m=0∨m=1∨m=2∨m=3:=by omega
      rcases this with rfl | rfl | rfl | rfl<;>decide
    rw[e2,wr_m (by omega) (by omega),wr_m (by omega) (by omega)]
  · rintro k ⟨u,i,⟨x,y⟩,z1,z2⟩ ⟨e,e2,hk,hk3,e3⟩
    cases e
    simp only at e2 e3 ⊢
    subst e2 e3
    by_cases q1:(k:Int)<a
    · rw[dT q1,cnd_t]
      by_cases q2:(k:Int)<3
      · left
        have hk4:k=0∨k=1∨k=2:=by omega
        rw[dT q2,cnd_t]
        refine⟨_,rfl,rfl,by simp only;rw[wr_m (by omega) (by omega)];omega,by omega,by omega,?_⟩
        rcases hk4 with rfl | rfl | rfl<;>(simp only;rw[wr_m (by decide) (by decide)];decide)
      · right
        rw[dF q2,cnd_f]
        exact⟨_,rfl,rfl,by simp only;rw[show min a.toNat 3=k by omega]⟩
    · right
      rw[dF q1,cnd_f]
      exact⟨_,rfl,rfl,by simp only;rw[show min a.toNat 3=k by omega]⟩
structure FI (K c:Int) (f:Fd):Prop where
  n0:0≤f.1
  tp:0≤f.2.1∧f.2.1≤K
  p:1≤f.1→Fp K c f.1 f.2.2.1 f.2.2.2.1 f.2.2.2.2.1
  ask:0≤f.2.2.2.2.2.1∧f.2.2.2.2.2.1≤3
  z:f.1=0→f.2.2.1=[]∧f.2.2.2.1=[]∧f.2.2.2.2.1=[]
theorem FI.knows {K c:Int} {f:Fd} (h:FI K c f) (t:Int) (ht:t≤1000000→t≤K):FI K c (knowsM f t)∧(knowsM f t).1=f.1:=by
  unfold knowsM
  split
  · rename_i q
    have:=h.tp
    have:=ht q.2
    exact⟨⟨h.n0,⟨by simp only;omega,by simp only;omega⟩,h.p,h.ask,h.z⟩,rfl⟩
  · exact⟨h,rfl⟩
theorem FI.goes {K c:Int} {f:Fd} (h:FI K c f) (h1:1≤f.1):FI K c (goesM f).2∧f.1≤(goesM f).2.1∧Wk ((goesM f).2.1+1) (min K ((goesM f).2.1+7)) (goesM f).2.2.2.2.1:=by
  obtain⟨g1,g2,g3,g4,g5⟩:=goM_ok _ _ _ _ (h.p h1)
  unfold goesM
  refine⟨⟨by simp only;omega,h.tp,fun _=>g1,?_,fun q=>by simp only at q;omega⟩,by simp only;omega,g2⟩
  try simp only
  split
  · exact h.ask
  · exact⟨by simp,by simp⟩
theorem FI.skips {K c:Int} {f:Fd} (h:FI K c f) (h1:1≤f.1) (hi why:Int) (hh:hi≤1000000→hi≤K):FI K c (skipsM f hi why).2∧f.1≤(skipsM f hi why).2.1∧(hi≤1000000→hi<(skipsM f hi why).2.1):=by
  unfold skipsM
  by_cases c2:1000000<hi
  · rw[if_pos (.inr c2)];exact⟨h,by simp only;omega,fun q=>by omega⟩
  rw[if_neg (by omega)]
  obtain⟨g1,g2,g3⟩:=skR_ok (why:=why) (hh (by omega)) (f.2.2.2.1.length+2) _ _ _ _ [] (h.p h1) (fun _=>by omega)
  refine⟨⟨by simp only;omega,h.tp,fun _=>g1,?_,fun q=>by simp only at q;omega⟩,by simp only;omega,fun _=>by simp only;omega⟩
  try simp only
  split
  · exact⟨by simp,by simp⟩
  · exact h.ask
theorem rNotes_eq (N:Nat) (hN:2000≤N) {K c:Int} {f:Fd} (h:FI K c f) (hK:K≤10000000) (lo hi:Int) (hh:hi≤1000000→hi≤K):W_aM N (f,lo,hi)=some (notesM f lo hi):=by
  obtain⟨k1,k2⟩:=h.knows hi hh
  have hkn:=rKnows_eq N f hi
  have h0:=h.n0
  obtain⟨nx,tp,R,Wn,Lg,a,b⟩:=f
  unfold W_aM V_aM notesM
  simp only at k2 h0 ⊢
  by_cases c0:nx=0
  · rw[dT c0,cnd_t,if_pos (.inl c0)]
  rw[dF c0,cnd_f,rMaySpan_eq,obind_s]
  by_cases cs:1≤lo∧lo≤hi∧hi≤1000000
  case neg=>rw[dF cs,Bool.not_false,cnd_t,if_pos (by omega)]
  rw[dT cs,Bool.not_true,cnd_f,if_neg (by omega),hkn,obind_s]
  obtain⟨g,hg⟩:∃g,knowsM (nx,tp,R,Wn,Lg,a,b) hi=g:=⟨_,rfl⟩
  rw[hg] at k1 k2 ⊢
  rw[←k2]
  by_cases c1:g.1<lo
  · rw[dT c1,cnd_t,if_pos (.inl c1)]
  rw[dF c1,cnd_f]
  by_cases c2:hi<g.1
  · rw[dT c2,cnd_t,if_pos (.inr c2)]
  rw[dF c2,cnd_f,if_neg (by omega)]
  have hg1:1≤g.1:=by omega
  obtain⟨s1,s2,s3⟩:=k1.skips hg1 hi 1 hh
  have e1:=rSkips_eq N hN k1.p hK hi 1 hh
  have e2:=rGoes_eq N hN (s1.p (by omega)) hK
  rw[e1,obind_s]
  show obind (W_e N (skipsM g hi 1).2) _=_
  rw[e2,obind_s]
theorem rTick_eq_2 (N:Nat) (hN:2000≤N) {K c:Int} {f:Fd} (h:FI K c f) (hK:K≤1000000) (now:Int) (hn:-100000000000000≤now) (hn2:now≤100000000000000):W_aT N (f,now)=some (tickM_2 f now):=by
  have hw:=rWants_eq N h.n0 h.p (fun q=>(h.z q).2.1) (by omega)
  have hwk:(wantsM f).1=true→1≤f.1∧(wantsM f).2.2≤K:=by
    have h0:=h.n0;have hp:=h.p;have htp:=h.tp
    obtain⟨nx,tp,R,Wn,Lg,a,b⟩:=f
    unfold wantsM
    simp only at h0 hp htp ⊢
    cases Wn with
    | nil=>
      try simp only
      split
      · intro q;cases q
      · intro _;simp only;omega
    | cons w r=>
      try simp only
      split
      · intro q;cases q
      · intro _
        have:=(hp (by omega)).wk.2.1
        simp only;omega
  have hnow:=rNow_eq N f.2.2.2.2.2 now
  have htr:=rTried_eq N hN f.2.2.2.2.2 now h.ask.1 (by have:=h.ask;omega) hn hn2
  have hsk:=fun hi hh=>rSkips_eq N hN (hi:=hi) (why:=2) h.p (by omega) hh
  have hfi:=fun h1 hi hh=>h.skips h1 hi 2 hh
  obtain⟨nx,tp,R,Wn,Lg,a,b⟩:=f
  unfold W_aT V_aT tickM_2
  simp only at hnow htr hwk hfi ⊢
  rw[hw,obind_s]
  obtain⟨s,hs⟩:∃s,wantsM (nx,tp,R,Wn,Lg,a,b)=s:=⟨_,rfl⟩
  rw[hs] at hwk ⊢
  obtain⟨q,s1,s2⟩:=s
  simp only at hwk ⊢
  cases q with
  | false=>rw[Bool.not_false,cnd_t,if_pos (.inl rfl)]
  | true=>
    obtain⟨w1,w2⟩:=hwk rfl
    rw[Bool.not_true,cnd_f,hnow,obind_s]
    cases hq:nowM (a,b) now with
    | false=>rw[Bool.not_false,cnd_t,if_pos (.inr rfl)]
    | true=>
      rw[Bool.not_true,cnd_f,if_neg (by simp)]
      by_cases c3:3≤a
      · rw[dT c3,cnd_t,if_pos c3,hsk s2 (fun _=>w2),obind_s]
        obtain⟨g1,g2,_⟩:=hfi w1 s2 (fun _=>w2)
        have e2:=rGoes_eq N hN (g1.p (by omega)) (by omega)
        show obind (W_e N (skipsM (nx,tp,R,Wn,Lg,a,b) s2 2).2) _=_
        rw[e2,obind_s]
      · rw[dF c3,cnd_f,if_neg c3,htr,obind_s]
theorem wants_le {K c:Int} {f:Fd} (h:FI K c f) (hw:(wantsM f).1=true):1≤f.1∧(wantsM f).2.1=f.1∧f.1≤(wantsM f).2.2∧(wantsM f).2.2≤K:=by
  have h0:=h.n0;have hp:=h.p;have htp:=h.tp
  obtain⟨nx,tp,R,Wn,Lg,a,b⟩:=f
  unfold wantsM at hw ⊢
  simp only at h0 hp htp hw ⊢
  cases Wn with
  | nil=>
    simp only at hw ⊢
    split at hw
    · cases hw
    · rename_i q
      rw[if_neg q];exact⟨by omega,rfl,by simp only;omega,by simp only;omega⟩
  | cons w r=>
    simp only at hw ⊢
    split at hw
    · cases hw
    · rename_i q
      rw[if_neg q]
      have:=(hp (by omega)).wk.2.1
      exact⟨by omega,rfl,by simp only;omega,by simp only;omega⟩
theorem rGet_eq (N:Nat) (l:List It) (s:Int) (hN:2000≤N) (hl:l.length≤1000):W_U N (l,s)=some (getF l s):=by
  unfold W_U V_U
  try simp only
  refine loop_G (N:=N) (fun o=>o=some (getF l s)) (fun k (v:Int)=>v=k∧k≤l.length∧getF (l.drop k) s=getF l s) l.length (fun r:PUnit⊕List UInt8×Bool=>(r=.inl ()∧getF l s=([],false))∨r=.inr (getF l s)) ⟨rfl,by omega,rfl⟩ (by omega) ?_ (fun k v h=>h.2.1) ?_
  · rintro r (⟨rfl,h⟩ | rfl)
    · rw[selim_l,h]
    · rw[selim_r]
  · rintro k v ⟨e,hk,hg⟩
    subst e
    by_cases c:(k:Int)<l.length
    case neg=>
      right
      rw[dF c,cnd_f]
      rw[List.drop_eq_nil_of_le (by omega)] at hg
      exact⟨_,rfl,.inl ⟨rfl,hg.symm⟩⟩
    rw[drop_consI (by omega)] at hg
    simp only[getF] at hg
    rw[dT c,cnd_t,dT (by omega),Bool.and_self,cnd_t,Int.toNat_natCast]
    by_cases c2:(l.getD k iD).1=s
    · right
      rw[if_pos c2] at hg
      rw[dT c2,cnd_t,cnd_t]
      exact⟨_,rfl,.inr (by rw[←hg])⟩
    · left
      rw[if_neg c2] at hg
      rw[dF c2,cnd_f,wr_m (by omega) (by omega)]
      exact⟨_,rfl,by omega,by omega,hg⟩
theorem rPut_eq (N:Nat) (hN:2000≤N) (l:List It) (n:Int) (x:It) (hl:l.length≤500) (hn:0≤n) (hn2:n≤10000001) (hx:0≤x.1) (hx2:x.1≤10000000):W_ak N (l,n,x)=some (putM l n x):=by
  unfold W_ak V_ak putM
  try simp only
  rw[rGet_eq N l x.1 hN (by omega),obind_s]
  by_cases c1:x.1<n
  · rw[dT c1,cnd_t,if_pos (.inl c1)]
  rw[dF c1,cnd_f,wr_m (by omega) (by omega)]
  by_cases c2:8≤x.1-n
  · rw[dT c2,cnd_t,if_pos (.inr (.inl c2))]
  rw[dF c2,cnd_f]
  cases hg:(getF l x.1).2 with
  | true=>rw[cnd_t,if_pos (.inr (.inr rfl))]
  | false=>
    rw[cnd_f,if_neg (by rintro(q | q | q)<;>first | omega | cases q)]
    have hIl:=insW_len x l
    refine loop_G (N:=N) (fun o=>o=some (insW x l,true)) (fun k (v:Bool×Int×It×List It)=>v.2.1=k∧k≤l.length∧v.2.2.1=x∧((v.1=false∧v.2.2.2++insW x (l.drop k)=insW x l)∨(v.1=true∧v.2.2.2++l.drop k=insW x l))) l.length
      (fun r:Bool×It×List It=>r.2.1=x∧((r.1=false∧r.2.2++[x]=insW x l)∨(r.1=true∧r.2.2=insW x l))) ⟨rfl,by omega,rfl,.inl ⟨rfl,rfl⟩⟩ (by omega) ?_ (fun k v h=>h.2.1) ?_
    · rintro⟨p,y,o⟩ ⟨rfl,h⟩
      simp only at h ⊢
      rcases h with⟨rfl,h⟩ | ⟨rfl,rfl⟩
      · have:=congrArg List.length h
        rw[hIl,List.length_append] at this
        simp only[List.length_cons,List.length_nil] at this
        rw[Bool.not_false,cnd_t,cnd_T (by simp only[List.length_cons,List.length_nil];omega)]
        rw[←h]
      · rw[Bool.not_true,cnd_f]
    · rintro k ⟨p,i,y,o⟩ ⟨e1,hk,rfl,h⟩
      simp only at e1 h ⊢
      subst e1
      by_cases c:(k:Int)<l.length
      case neg=>
        right
        rw[dF c,cnd_f]
        rw[List.drop_eq_nil_of_le (by omega)] at h
        refine⟨_,rfl,rfl,?_⟩
        rcases h with⟨rfl,h⟩ | ⟨rfl,h⟩
        · exact .inl ⟨rfl,h⟩
        · rw[List.append_nil] at h;exact .inr ⟨rfl,h⟩
      left
      rw[drop_consI (by omega)] at h
      have hol:o.length≤l.length+1:=by
        rcases h with⟨_,h⟩ | ⟨_,h⟩ <;>
        · have:=congrArg List.length h
          rw[hIl,List.length_append] at this
          omega
      rw[dT c,cnd_t,dT (show (0:Int)≤(k:Int) by omega),Bool.and_self,cnd_t,Int.toNat_natCast,wr_m (by omega) (by omega)]
      rcases h with⟨rfl,h⟩ | ⟨rfl,h⟩
      · rw[Bool.not_false,cnd_t]
        simp only[insW] at h
        by_cases c3:y.1<(l.getD k iD).1
        · rw[if_pos c3] at h
          rw[dT c3,cnd_t,cnd_T (by simp only[List.length_cons,List.length_nil];omega),obind_s]
          simp only[cnd_t]
          refine⟨_,cnd_T (by simp only[List.length_append,List.length_cons,List.length_nil];omega),by simp only;omega,by omega,rfl,.inr ⟨rfl,?_⟩⟩
          simp only[List.append_assoc]
          exact h
        · rw[if_neg c3] at h
          rw[dF c3,cnd_f,obind_s]
          simp only[cnd_t]
          refine⟨_,cnd_T (by omega),by simp only;omega,by omega,rfl,.inl ⟨rfl,?_⟩⟩
          simp only[List.append_assoc]
          exact h
      · rw[Bool.not_true,cnd_f,obind_s]
        simp only[cnd_t]
        refine⟨_,cnd_T (by omega),by simp only;omega,by omega,rfl,.inr ⟨rfl,?_⟩⟩
        simp only[List.append_assoc]
        exact h
theorem FI.put {K c:Int} {f:Fd} (h:FI K c f) (h1:1≤f.1) (x:It) (hx:x.1≤K) (hx2:x.2.length≤12):FI K c (f.1,f.2.1,f.2.2.1,(putM f.2.2.2.1 f.1 x).1,f.2.2.2.2):=by
  have hp:=h.p h1
  refine⟨h.n0,h.tp,fun _=>⟨hp.nx,hp.rk,hp.rl,?_,hp.ch,hp.c0⟩,h.ask,fun q=>by simp only at q;omega⟩
  try simp only
  unfold putM
  by_cases c1:x.1<f.1∨8≤x.1-f.1∨(getF f.2.2.2.1 x.1).2=true
  · rw[if_pos c1];exact hp.wk
  · rw[if_neg c1]
    exact hp.wk.ins (by omega) (by omega) (by have:¬(getF f.2.2.2.1 x.1).2=true:=fun q=>c1 (.inr (.inr q));simpa using this) hx2
theorem rComes_eq_2 (N:Nat) (hN:2000≤N) {K c:Int} {f:Fd} (h:FI K c f) (hK:K≤10000000) (x:It) (hx:x.1≤1000000→x.1≤K) (hx2:x.2.length≤12):W_aL N (f,x)=some (comesM f x):=by
  obtain⟨k1,k2⟩:=h.knows x.1 hx
  have hkn:=rKnows_eq N f x.1
  have h0:=h.n0
  obtain⟨nx,tp,R,Wn,Lg,a,b⟩:=f
  unfold W_aL V_aL comesM
  simp only at k2 h0 ⊢
  by_cases c0:nx=0
  · rw[dT c0,cnd_t,obind_s]
    simp only[cnd_t,obind_s]
    rw[if_pos (.inl c0)]
  rw[dF c0,cnd_f,obind_s]
  try simp only
  by_cases c1:x.1<1
  · rw[dT c1,cnd_t,obind_s]
    simp only[cnd_t]
    rw[if_pos (.inr (.inl c1))]
  rw[dF c1,cnd_f,obind_s]
  try simp only
  by_cases c2:1000000<x.1
  · rw[dT c2,cnd_t,if_pos (.inr (.inr (.inl c2)))]
  rw[dF c2,cnd_f]
  by_cases c3:(12:Int)<x.2.length
  · rw[dT c3,cnd_t,if_pos (.inr (.inr (.inr c3)))]
  rw[dF c3,cnd_f,if_neg (by omega),hkn,obind_s]
  obtain⟨g,hg⟩:∃g,knowsM (nx,tp,R,Wn,Lg,a,b) x.1=g:=⟨_,rfl⟩
  rw[hg] at k1 k2 ⊢
  have hg1:1≤g.1:=by omega
  have hp:=k1.p hg1
  have hn:=hp.nx
  have hl:=hp.lens hK
  have e1:=rPut_eq N hN g.2.2.2.1 g.1 x (by omega) (by omega) (by omega) (by omega) (by omega)
  have hF:=k1.put hg1 x (hx (by omega)) hx2
  have e2:=rGoes_eq N hN (hF.p hg1) hK
  show obind (W_ak N (g.2.2.2.1,g.1,x)) _=_
  rw[e1,obind_s]
  show obind (W_e N (g.1,g.2.1,g.2.2.1,(putM g.2.2.2.1 g.1 x).1,g.2.2.2.2)) _=_
  rw[e2,obind_s]
theorem wr_pre {f:Fd} {n:Int} (h0:0≤f.2.1) (h1:-9223372036854775808≤n) (h2:n≤9223372036854775807):knowsM f (wr .i64 (n-1))=knowsM f (n-1):=by
  by_cases q:n=-9223372036854775808
  · subst q
    have e:wr .i64 (-9223372036854775808-1)=9223372036854775807:=by decide
    rw[e]
    unfold knowsM
    rw[if_neg (by omega)]
    split
    · rw[show max f.2.1 (-9223372036854775808-1)=f.2.1 by omega]
    · rfl
  · rw[wr_i64 (by omega) (by omega)]
theorem FI.notes {K c:Int} {f:Fd} (h:FI K c f) (lo hi:Int) (hh:hi≤1000000→hi≤K):FI K c (notesM f lo hi):=by
  unfold notesM
  split
  · exact h
  rename_i q
  have hg:=h.knows hi hh
  have h0:=h.n0
  split
  · exact hg.1
  · rename_i q2
    obtain⟨a,b,_⟩:=hg.1.skips (by omega) hi 1 hh
    exact(a.goes (by omega)).1
theorem FI.comes {K c:Int} {f:Fd} (h:FI K c f) (x:It) (hx:x.1≤1000000→x.1≤K) (hx2:x.2.length≤12):FI K c (comesM f x):=by
  unfold comesM
  split
  · exact h
  rename_i q
  have hg:=h.knows x.1 hx
  have h0:=h.n0
  exact((hg.1.put (by omega) x (hx (by omega)) hx2).goes (by simp only;omega)).1
theorem FI.tick {K c:Int} {f:Fd} (h:FI K c f) (now:Int):FI K c (tickM_2 f now).2.1:=by
  unfold tickM_2
  try simp only
  split
  · exact h
  rename_i q
  obtain⟨w1,w2,w3,w4⟩:=wants_le h (by cases hq:(wantsM f).1 with | true=>rfl | false=>exact absurd (.inl hq) q)
  split
  · obtain⟨a,b,_⟩:=h.skips w1 (wantsM f).2.2 2 (fun _=>w4)
    exact(a.goes (by omega)).1
  · have ha:=h.ask
    exact⟨h.n0,h.tp,h.p,⟨by simp only[triedM];omega,by simp only[triedM];omega⟩,h.z⟩
theorem FI.begins {K c:Int} {f:Fd} (h:FI K c f) (n:Int) (hn:n≤1000000→n≤K) (hn2:n-1≤1000000→n-1≤K):∃c',FI K c' (beginM f n)∧(0<f.1→c'=c)∧(f.1=0→c'=(beginM f n).1):=by
  have h0:=h.n0
  unfold beginM
  split
  · rename_i q
    exact⟨c,(h.knows (n-1) hn2).1,fun _=>rfl,fun q2=>by omega⟩
  · rename_i q
    have hz:=h.z (by omega)
    split
    · rename_i q2
      have:=hn q2.2
      refine⟨n,⟨by simp only;omega,h.tp,fun _=>⟨⟨by simp only;omega,by simp only;omega⟩,?_,?_,?_,?_,by omega⟩,h.ask,fun q3=>by simp only at q3;omega⟩,fun q3=>by omega,fun _=>rfl⟩
      · simp only[hz.1];trivial
      · simp only[hz.1];simp
      · simp only[hz.2.1];trivial
      · simp only[hz.2.2];rfl
    · exact⟨f.1,⟨h.n0,h.tp,fun q3=>by omega,h.ask,h.z⟩,fun q3=>by omega,fun _=>rfl⟩
def Le (f g:Fd):Prop:=f.1≤g.1∧f.2.1≤g.2.1∧∃e,g.2.2.2.2.1=f.2.2.2.2.1++e
theorem Le.refl (f:Fd):Le f f:=⟨Int.le_refl _,Int.le_refl _,[],by simp⟩
theorem Le.trans {f g h:Fd} (a:Le f g) (b:Le g h):Le f h:=by
  obtain⟨a1,a2,e1,a3⟩:=a
  obtain⟨b1,b2,e2,b3⟩:=b
  exact⟨by omega,by omega,e1++e2,by rw[b3,a3,List.append_assoc]⟩
theorem knows_Le (f:Fd) (t:Int):Le f (knowsM f t):=by
  unfold knowsM
  split
  · exact⟨Int.le_refl _,by simp only;omega,[],by simp⟩
  · exact Le.refl f
theorem goM_pre:∀(W:List It) (n:Int) (R:List It) (L:List Ev),n≤(goM W n R L).2.1∧∃e,(goM W n R L).2.2.2.2=L++e
  | [],n,R,L=>⟨Int.le_refl _,[],by simp[goM]⟩
  | w::r,n,R,L=>by
    by_cases c:w.1=n
    · subst c
      rw[goM_eq]
      obtain⟨a,e,b⟩:=goM_pre r (w.1+1) (addR R w) (L++[(1,w.1,w.1,w.2,0)])
      exact⟨by simp only;omega,(1,w.1,w.1,w.2,0)::e,by simp only;rw[b,List.append_assoc];rfl⟩
    · rw[goM_ne c];exact⟨Int.le_refl _,[],by simp⟩
theorem goes_Le (f:Fd):Le f (goesM f).2:=by
  obtain⟨a,e,b⟩:=goM_pre f.2.2.2.1 f.1 f.2.2.1 f.2.2.2.2.1
  exact⟨a,Int.le_refl _,e,b⟩
theorem skR_pre (hi why:Int):∀(j:Nat) (n:Int) (R W:List It) (L:List Ev) (o:List Sp),n≤(skR hi why j n R W L o).2.1∧∃e,(skR hi why j n R W L o).2.2.2.2=L++e
  | 0,n,R,W,L,o=>⟨Int.le_refl _,[],by simp[skR]⟩
  | j+1,n,R,W,L,o=>by
    unfold skR
    split
    case isFalse=>exact⟨Int.le_refl _,[],by simp⟩
    rename_i c
    cases W with
    | nil=>
      obtain⟨a,e,b⟩:=skR_pre hi why j (hi+1) R [] (L++[(2,n,hi,[],why)]) (o++[(n,hi)])
      exact⟨by simp only;omega,_,by simp only;rw[b,List.append_assoc]⟩
    | cons w r=>
      try simp only
      split
      · split
        · obtain⟨a1,e1,b1⟩:=goM_pre (w::r) w.1 R (L++[(2,n,w.1-1,[],why)])
          obtain⟨a,e,b⟩:=skR_pre hi why j (goM (w::r) w.1 R (L++[(2,n,w.1-1,[],why)])).2.1 (goM (w::r) w.1 R (L++[(2,n,w.1-1,[],why)])).2.2.1 (goM (w::r) w.1 R (L++[(2,n,w.1-1,[],why)])).2.2.2.1 (goM (w::r) w.1 R (L++[(2,n,w.1-1,[],why)])).2.2.2.2 (o++[(n,w.1-1)])
          exact⟨by omega,_,by rw[b,b1,List.append_assoc,List.append_assoc]⟩
        · obtain⟨a1,e1,b1⟩:=goM_pre (w::r) n R L
          obtain⟨a,e,b⟩:=skR_pre hi why j (goM (w::r) n R L).2.1 (goM (w::r) n R L).2.2.1 (goM (w::r) n R L).2.2.2.1 (goM (w::r) n R L).2.2.2.2 o
          exact⟨by omega,_,by rw[b,b1,List.append_assoc]⟩
      · obtain⟨a,e,b⟩:=skR_pre hi why j (hi+1) R (w::r) (L++[(2,n,hi,[],why)]) (o++[(n,hi)])
        exact⟨by omega,_,by rw[b,List.append_assoc]⟩
theorem skips_Le (f:Fd) (hi why:Int):Le f (skipsM f hi why).2:=by
  unfold skipsM
  split
  · exact Le.refl f
  · obtain⟨a,e,b⟩:=skR_pre hi why (f.2.2.2.1.length+2) f.1 f.2.2.1 f.2.2.2.1 f.2.2.2.2.1 []
    exact⟨a,Int.le_refl _,e,b⟩
theorem notes_Le (f:Fd) (lo hi:Int):Le f (notesM f lo hi):=by
  unfold notesM
  split
  · exact Le.refl f
  · simp only
    split
    · exact knows_Le f hi
    · exact((knows_Le f hi).trans (skips_Le _ _ _)).trans (goes_Le _)
theorem comes_Le (f:Fd) (x:It):Le f (comesM f x):=by
  unfold comesM
  split
  · exact Le.refl f
  · exact((knows_Le f x.1).trans ⟨Int.le_refl _,Int.le_refl _,[],by simp⟩).trans (goes_Le _)
theorem tick_Le (f:Fd) (now:Int):Le f (tickM_2 f now).2.1:=by
  unfold tickM_2
  try simp only
  split
  · exact Le.refl f
  · split
    · exact(skips_Le _ _ _).trans (goes_Le _)
    · exact⟨Int.le_refl _,Int.le_refl _,[],by simp⟩
theorem begin_Le (f:Fd) (n:Int) (h0:0≤f.1):Le f (beginM f n):=by
  unfold beginM
  split
  · exact knows_Le f _
  · split
    · exact⟨by simp only;omega,Int.le_refl _,[],by simp⟩
    · exact Le.refl f
theorem FI.lens {K c:Int} {f:Fd} (h:FI K c f) (hK:K≤10000000):f.2.2.1.length≤6∧f.2.2.2.1.length≤8∧f.2.2.2.2.1.length≤10000001:=by
  by_cases q:1≤f.1
  · obtain⟨a,b,_⟩:=(h.p q).lens hK
    exact⟨(h.p q).rl,a,b⟩
  · obtain⟨a,b,e⟩:=h.z (by have:=h.n0;omega)
    rw[a,b,e];simp
theorem FI.nx {K c:Int} {f:Fd} (h:FI K c f) (hK:0≤K):0≤f.1∧f.1≤K+1:=by
  refine⟨h.n0,?_⟩
  by_cases q:1≤f.1
  · exact(h.p q).nx.2
  · omega
def eD:Ev:=((0:Int),(0:Int),(0:Int),([]:List UInt8),(0:Int))
theorem Ch.le:∀{L:List Ev} {n m:Int},Ch n L m→n≤m
  | [],_,_,h=>by have h':_=_:=h;omega
  | e::r,n,m,h=>by have:=h.2.2.le;have:=h.1;have:=h.2.1;omega
theorem Ch.last:∀{L:List Ev} {n m:Int},Ch n L m→L≠[]→(L.getD (L.length-1) eD).2.2.1+1=m
  | [],_,_,_,h=>absurd rfl h
  | [e],n,m,h,_=>by have h':_=_:=h.2.2;simpa using h'
  | e::x::r,n,m,h,_=>by
    have:=h.2.2.last (by simp)
    simpa using this
theorem loop_rec {σ τ ρ α:Type} (d:α) (l:List α) (mk:Int→σ→τ) (R:List α→σ→ρ) (Inv:σ→List α→Prop) {f:τ→Option (τ⊕ρ)}
    (hend:∀s,Inv s []→f (mk l.length s)=some (.inr (R [] s)))
    (hstep:∀(i:Nat) (h:α) (r:List α) (s:σ),i<l.length→l.getD i d=h→Inv s (h::r)→(∃s',f (mk i s)=some (.inl (mk ((i:Int)+1) s'))∧R (h::r) s=R r s'∧Inv s' r)∨f (mk i s)=some (.inr (R (h::r) s)))
    {N:Nat} {s:σ} (hN:l.length<N) (h0:Inv s l):loopN N f (mk 0 s)=some (R l s):=by
  have key:∀(rest pre:List α) (N:Nat) (s:σ),l=pre++rest→rest.length<N→Inv s rest→loopN N f (mk pre.length s)=some (R rest s):=by
    intro rest
    induction rest with
    | nil=>
      intro pre N s e hN hI
      obtain⟨M,rfl⟩:∃M,N=M+1:=⟨N-1,by simp at hN;omega⟩
      rw[List.append_nil] at e
      subst e
      simp only[loopN,hend s hI]
    | cons h r ih=>
      intro pre N s e hN hI
      obtain⟨M,rfl⟩:∃M,N=M+1:=⟨N-1,by simp at hN;omega⟩
      have hg:l.getD pre.length d=h:=by rw[e,List.getD_eq_getElem?_getD,List.getElem?_append_right (Nat.le_refl _)];simp
      have hi:pre.length<l.length:=by rw[e];simp
      rcases hstep pre.length h r s hi hg hI with⟨s',h1,h2,h3⟩ | h1
      · simp only[loopN,h1]
        rw[h2]
        have:=ih (pre++[h]) M s' (by rw[e];simp) (by simp at hN;omega) h3
        simpa using this
      · simp only[loopN,h1]
  have:=key l [] N s rfl hN h0
  simpa using this
theorem obind_rec {σ τ ρ α β:Type} (d:α) (l:List α) (mk:Int→σ→τ) (R:List α→σ→ρ) (Inv:σ→List α→Prop) {f:τ→Option (τ⊕ρ)} {N:Nat} (s:σ) {x:τ} {k:ρ→Option β} {res:Option β} (hx:x=mk 0 s) (hN:l.length<N) (h0:Inv s l) (hk:k (R l s)=res)
    (hend:∀s,Inv s []→f (mk l.length s)=some (.inr (R [] s)))
    (hstep:∀(i:Nat) (h:α) (r:List α) (s:σ),i<l.length→l.getD i d=h→Inv s (h::r)→(∃s',f (mk i s)=some (.inl (mk ((i:Int)+1) s'))∧R (h::r) s=R r s'∧Inv s' r)∨f (mk i s)=some (.inr (R (h::r) s))):obind (loopN N f x) k=res:=by
  subst hx
  rw[loop_rec d l mk R Inv hend hstep hN h0]
  exact hk
def okS (s:Sp):Prop:=1≤s.1∧s.1≤s.2∧s.2≤1000000
open Classical in
theorem rOk (N:Nat) (a b:Int):W_j N (a,b)=some (decide (okS (a,b))):=by
  unfold W_j V_j
  try simp only
  by_cases h1:1≤a
  · rw[dT h1,cnd_t,obind_s]
    try simp only
    by_cases h2:a≤b
    · rw[dT h2,cnd_t]
      by_cases h3:b≤1000000
      · rw[dT h3,dT (show okS (a,b) from⟨h1,h2,h3⟩)]
      · rw[dF h3,dF (fun h:okS (a,b)=>h3 h.2.2)]
    · rw[dF h2,cnd_f,dF (fun h:okS (a,b)=>h2 h.2.1)]
  · rw[dF h1,cnd_f,obind_s]
    try simp only
    rw[cnd_f,dF (fun h:okS (a,b)=>h1 h.1)]
def B (h:Sp):Prop:=0≤h.1∧h.1≤1000001∧0≤h.2∧h.2≤1000001
theorem okS.B {s:Sp} (h:okS s):B s:=⟨by have:=h.1;omega,by have:=h.2.1;have:=h.2.2;omega,by have:=h.1;have:=h.2.1;omega,by have:=h.2.2;omega⟩
abbrev AS3:=Sp×List Sp×List Sp
def ad (s:AS3) (h:Sp):AS3:=if h.2+1<s.1.1 then(s.1,s.2.1++[h],s.2.2) else if s.1.2+1<h.1 then(s.1,s.2.1,s.2.2++[h]) else((min s.1.1 h.1,max s.1.2 h.2),s.2.1,s.2.2)
def adI (s:AS3) (rest:List Sp):Prop:=B s.1∧s.2.1.length+s.2.2.length+rest.length≤200000000∧∀h∈rest,B h
theorem adI_step {s:AS3} {h:Sp} {r:List Sp} (hI:adI s (h::r)):adI (ad s h) r:=by
  obtain⟨h1,h2,h3⟩:=hI
  have hb:=h3 h (by simp)
  have hr:∀x∈r,B x:=fun x hx=>h3 x (by simp[hx])
  simp only[List.length_cons] at h2
  unfold ad
  split
  · exact⟨h1,by simp;omega,hr⟩
  · split
    · exact⟨h1,by simp;omega,hr⟩
    · refine⟨⟨?_,?_,?_,?_⟩,by simp only;omega,hr⟩<;>(simp only;obtain⟨_,_,_,_⟩:=h1;obtain⟨_,_,_,_⟩:=hb;omega)
def adR (l:List Sp) (s:AS3):List Sp×Sp×List Sp:=((l.foldl ad s).2.2,(l.foldl ad s).1,(l.foldl ad s).2.1)
open Classical in
def addP (l:List Sp) (s:Sp):List Sp:=if okS s then(l.foldl ad (s,[],[])).2.1++[(l.foldl ad (s,[],[])).1]++(l.foldl ad (s,[],[])).2.2 else l
theorem ad_len (l:List Sp):∀s:AS3,(l.foldl ad s).2.1.length+(l.foldl ad s).2.2.length≤s.2.1.length+s.2.2.length+l.length:=by
  induction l with
  | nil=>intro s;simp
  | cons h r ih=>
    intro s
    have:=ih (ad s h)
    have h2 : (ad s h).2.1.length + (ad s h).2.2.length ≤ s.2.1.length + s.2.2.length + 1 := by unfold ad; split; · simp; omega
                                                                                                split<;>simp<;>omega
    simp only[List.foldl_cons,List.length_cons];omega
open Classical in
theorem rAddS_eq (N:Nat) (l:List Sp) (s:Sp) (hN:l.length<N) (hl:l.length≤100000000) (hb:∀h∈l,B h):W_I N (l,s)=some (addP l s):=by
  obtain⟨a,b⟩:=s
  unfold W_I V_I addP
  simp only[rOk,obind_s]
  by_cases hs:okS (a,b)
  case neg=>rw[dF hs,Bool.not_false,cnd_t,dT (by omega),cnd_t,if_neg hs]
  rw[dT hs,Bool.not_true,cnd_f,if_pos hs]
  refine obind_rec (0,0) l (fun i (s:AS3)=>(i,s)) adR adI ((a,b),[],[]) rfl hN ⟨hs.B,by simp;omega,hb⟩ ?_ ?_ ?_
  · have hlen:=ad_len l ((a,b),[],[])
    unfold adR
    simp only[List.length_nil] at hlen
    generalize l.foldl ad ((a,b),[],[])=R at *
    obtain⟨⟨x,y⟩,fr,bk⟩:=R
    simp only at hlen ⊢
    rw[dT (by simp only[List.length_singleton];omega),cnd_t,dT (by simp only[List.length_append,List.length_singleton];omega),cnd_t]
  · rintro⟨⟨x,y⟩,fr,bk⟩ hI
    try simp only
    rw[dF (by omega),cnd_f]
    rfl
  · rintro i ⟨p,q⟩ r ⟨⟨x,y⟩,fr,bk⟩ hi hg hI
    left
    refine⟨ad ((x,y),fr,bk) (p,q),?_,rfl,adI_step hI⟩
    obtain⟨⟨b1,b2,b3,b4⟩,hlen,hbb⟩:=hI
    obtain⟨c1,c2,c3,c4⟩:=hbb (p,q) (by simp)
    simp only[List.length_cons] at b1 b2 b3 b4 c1 c2 c3 c4 hlen
    simp only[Int.toNat_natCast,hg]
    have d1:decide ((i:Int)<l.length)=true:=dT (by omega)
    have d2:decide ((0:Int)≤i)=true:=dT (by omega)
    simp only[d1,d2,Bool.and_self,cnd_t]
    rw[wr_m (z:=q+1) (by omega) (by omega),wr_m (z:=(i:Int)+1) (by omega) (by omega),wr_m (z:=y+1) (by omega) (by omega)]
    unfold ad
    try simp only
    by_cases k1:q+1<x
    · rw[dT k1,cnd_t,dT (by simp only[List.length_singleton];omega),cnd_t,if_pos k1]
    · rw[dF k1,cnd_f,if_neg k1]
      by_cases k2:y+1<p
      · rw[dT k2,cnd_t,dT (by simp only[List.length_singleton];omega),cnd_t,if_pos k2]
      · rw[dF k2,cnd_f,if_neg k2]
def Rr_2 (a b:Sp):Prop:=a.2+1<b.1
def VS (l:List Sp):Prop:=(∀a∈l,okS a)∧l.Pairwise Rr_2
structure J (s:AS3) (rest:List Sp):Prop where
  f1:∀a∈s.2.1,okS a
  f2:s.2.1.Pairwise Rr_2
  m:okS s.1
  fm:∀a∈s.2.1,a.2+1<s.1.1
  b1:∀a∈s.2.2,okS a
  b2:s.2.2.Pairwise Rr_2
  bm:∀a∈s.2.2,s.1.2+1<a.1
  br:∀a∈s.2.2,∀h∈rest,a.2+1<h.1
  fr:∀a∈s.2.1,∀h∈rest,a.2+1<h.1
  r1:∀h∈rest,okS h
  r2:rest.Pairwise Rr_2
theorem J_step {s:AS3} {h:Sp} {r:List Sp} (j:J s (h::r)):J (ad s h) r:=by
  obtain⟨f1,f2,m,fm,b1,b2,bm,br,fr,r1,r2⟩:=j
  have hh:=r1 h (by simp)
  rw[List.pairwise_cons] at r2
  have r1':∀x∈r,okS x:=fun x hx=>r1 x (by simp[hx])
  have br':∀a∈s.2.2,∀x∈r,a.2+1<x.1:=fun a ha x hx=>br a ha x (by simp[hx])
  have fr':∀a∈s.2.1,∀x∈r,a.2+1<x.1:=fun a ha x hx=>fr a ha x (by simp[hx])
  have bh:∀a∈s.2.2,a.2+1<h.1:=fun a ha=>br a ha h (by simp)
  have fh:∀a∈s.2.1,a.2+1<h.1:=fun a ha=>fr a ha h (by simp)
  obtain⟨m1,m2,m3⟩:=m
  obtain⟨g1,g2,g3⟩:=hh
  unfold ad
  split
  · rename_i k
    refine⟨?_,?_,⟨m1,m2,m3⟩,?_,b1,b2,bm,br',?_,r1',r2.2⟩
    · intro a ha
      simp only[List.mem_append,List.mem_singleton] at ha
      rcases ha with ha | rfl
      · exact f1 a ha
      · exact⟨g1,g2,g3⟩
    · rw[List.pairwise_append]
      exact⟨f2,by simp,fun a ha b hb=>by simp at hb;subst hb;exact fh a ha⟩
    · intro a ha
      simp only[List.mem_append,List.mem_singleton] at ha
      rcases ha with ha | rfl
      · exact fm a ha
      · exact k
    · intro a ha x hx
      simp only[List.mem_append,List.mem_singleton] at ha
      rcases ha with ha | rfl
      · exact fr' a ha x hx
      · exact r2.1 x hx
  · rename_i k
    split
    · rename_i k2
      refine⟨f1,f2,⟨m1,m2,m3⟩,fm,?_,?_,?_,?_,fr',r1',r2.2⟩
      · intro a ha
        simp only[List.mem_append,List.mem_singleton] at ha
        rcases ha with ha | rfl
        · exact b1 a ha
        · exact⟨g1,g2,g3⟩
      · rw[List.pairwise_append]
        exact⟨b2,by simp,fun a ha b hb=>by simp at hb;subst hb;exact bh a ha⟩
      · intro a ha
        simp only[List.mem_append,List.mem_singleton] at ha
        rcases ha with ha | rfl
        · exact bm a ha
        · exact k2
      · intro a ha x hx
        simp only[List.mem_append,List.mem_singleton] at ha
        rcases ha with ha | rfl
        · exact br' a ha x hx
        · exact r2.1 x hx
    · rename_i k2
      have hb:∀a∈s.2.2,False:=fun a ha=>by
        have q1:=bm a ha
        have q2:=bh a ha
        have q3:=(b1 a ha).2.1
        omega
      refine⟨f1,f2,⟨by simp only;omega,by simp only;omega,by simp only;omega⟩,fun a ha=>?_,b1,b2,fun a ha=>(hb a ha).elim,br',fr',r1',r2.2⟩
      have q1:=fm a ha
      have q2:=fh a ha
      try simp only
      omega
theorem J_fold:∀(l:List Sp) (s:AS3),J s l→J (l.foldl ad s) []
  | [],s,h=>h
  | x::r,s,h=>J_fold r _ (J_step h)
theorem VS_add {l:List Sp} {s:Sp} (hl:VS l) (hs:okS s):VS (addP l s)∧(addP l s).length≤l.length+1:=by
  have j:=J_fold l (s,[],[]) ⟨by simp,by simp,hs,by simp,by simp,by simp,by simp,by simp,by simp,hl.1,hl.2⟩
  have hlen:=ad_len l (s,[],[])
  simp only[List.length_nil] at hlen
  unfold addP
  rw[if_pos hs]
  generalize l.foldl ad (s,[],[])=q at *
  obtain⟨f1,f2,m,fm,b1,b2,bm,_,_,_,_⟩:=j
  refine⟨⟨?_,?_⟩,by simp only[List.length_append,List.length_singleton];omega⟩
  · intro a ha
    simp only[List.mem_append,List.mem_singleton] at ha
    rcases ha with(ha | rfl) | ha
    · exact f1 a ha
    · exact m
    · exact b1 a ha
  · rw[List.pairwise_append,List.pairwise_append]
    refine⟨⟨f2,by simp,fun a ha b hb=>by simp at hb;subst hb;exact fm a ha⟩,b2,fun a ha b hb=>?_⟩
    have q2:=bm b hb
    have q3:=m.2.1
    simp only[List.mem_append,List.mem_singleton] at ha
    show a.2+1<b.1
    rcases ha with ha | rfl
    · have:=fm a ha;omega
    · omega
def push (o:List Sp) (lo hi:Int):List Sp:=if 0<o.length∧(o.getD (o.length-1) (0,0)).2+1=lo then putL o [((o.getD (o.length-1) (0,0)).1,hi)] (o.length-1) else o++[(lo,hi)]
theorem push_nil (lo hi:Int):push [] lo hi=[(lo,hi)]:=by unfold push;rw[if_neg (by simp)];rfl
theorem push_snoc (o:List Sp) (t:Sp) (lo hi:Int):push (o++[t]) lo hi=if t.2+1=lo then o++[(t.1,hi)] else o++[t]++[(lo,hi)]:=by
  have hl:(o++[t]).length-1=o.length:=by simp
  have hg:(o++[t]).getD o.length (0,0)=t:=by rw[List.getD_eq_getElem?_getD];simp
  unfold push
  rw[hl,hg]
  by_cases h:t.2+1=lo
  · rw[if_pos ⟨by simp,h⟩,if_pos h]
    unfold putL
    simp
  · rw[if_neg (fun q=>h q.2),if_neg h]
theorem snoc_cases (o:List Sp):o=[]∨∃p t,o=p++[t]:=by
  rcases List.eq_nil_or_concat o with h | ⟨p,t,h⟩
  · exact .inl h
  · exact .inr ⟨p,t,by rw[h,List.concat_eq_append]⟩
theorem push_hi {o:List Sp} {lo hi m:Int} (ho:∀s∈o,s.2+1≤m) (hm:hi+1≤m):∀s∈push o lo hi,s.2+1≤m:=by
  rcases snoc_cases o with rfl | ⟨p,t,rfl⟩
  · rw[push_nil];intro s hs;simp at hs;subst hs;exact hm
  · rw[push_snoc]
    intro s hs
    split at hs
    · simp only[List.mem_append,List.mem_singleton] at hs
      rcases hs with hs | rfl
      · exact ho s (by simp[hs])
      · exact hm
    · simp only[List.mem_append,List.mem_singleton] at hs
      rcases hs with(hs | rfl) | rfl
      · exact ho s (by simp[hs])
      · exact ho s (by simp)
      · exact hm
theorem fold_front (s:Sp):∀(l fr:List Sp),(∀t∈l,t.2+1<s.1)→l.foldl ad (s,fr,[])=(s,fr++l,[])
  | [],fr,_=>by simp
  | t::r,fr,h=>by
    have e:ad (s,fr,[]) t=(s,fr++[t],[]):=by unfold ad;rw[if_pos (h t (by simp))]
    rw[List.foldl_cons,e,fold_front s r (fr++[t]) fun x hx=>h x (by simp[hx])]
    simp
theorem addP_push {a:List Sp} {s:Sp} (ha:VS a) (hs:okS s) (hb:∀t∈a,t.2+1≤s.1):addP a s=push a s.1 s.2:=by
  unfold addP
  rw[if_pos hs]
  rcases snoc_cases a with rfl | ⟨p,t,rfl⟩
  · rw[push_nil];simp
  · have hp:∀x∈p,x.2+1<s.1:=fun x hx=>by
      have h1:Rr_2 x t:=(List.pairwise_append.1 ha.2).2.2 x hx t (by simp)
      have h2:=hb t (by simp)
      have h3:=(ha.1 t (by simp)).2.1
      unfold Rr_2 at h1
      omega
    have ht:=hb t (by simp)
    have ht2:=(ha.1 t (by simp)).2.1
    have hs2:=hs.2.1
    rw[List.foldl_append,fold_front s p [] hp,List.nil_append,push_snoc]
    simp only[List.foldl_cons,List.foldl_nil]
    unfold ad
    try simp only
    by_cases h:t.2+1=s.1
    · rw[if_neg (by omega),if_neg (by omega),if_pos h]
      simp only[List.append_nil]
      rw[show min s.1 t.1=t.1 by omega,show max s.2 t.2=s.2 by omega]
    · rw[if_pos (by omega),if_neg h]
      simp
def itF (R:List It) (lo:Int):Nat→List It
  | 0=>[]
  | k+1=>if (getF R (lo+k)).2=true then itF R lo k++[(lo+k,(getF R (lo+k)).1)] else itF R lo k
def noF (R:List It) (lo:Int):Nat→List Sp
  | 0=>[]
  | k+1=>if (getF R (lo+k)).2=true then noF R lo k else push (noF R lo k) (lo+k) (lo+k)
theorem itF_len (R:List It) (lo:Int):∀k,(itF R lo k).length≤k
  | 0=>by simp[itF]
  | k+1=>by
    have:=itF_len R lo k
    simp only[itF]
    split
    · simp only[List.length_append,List.length_cons,List.length_nil];omega
    · omega
theorem noF_ok {R:List It} {lo:Int} (hlo:1≤lo):∀k:Nat,(k=0∨lo+k≤1000001)→VS (noF R lo k)∧(∀t∈noF R lo k,t.2+1≤lo+k)∧(noF R lo k).length≤k
  | 0,_=>⟨⟨by simp[noF],by simp[noF]⟩,by simp[noF],by simp[noF]⟩
  | k+1,h=>by
    obtain⟨h1,h2,h3⟩:=noF_ok (R:=R) hlo k (by omega)
    have hk:lo+k≤1000000:=by omega
    simp only[noF]
    split
    · exact⟨h1,fun t ht=>by have:=h2 t ht;omega,by omega⟩
    · have hs:okS (lo+k,lo+k):=⟨by simp only;omega,by simp only;omega,hk⟩
      have e:=addP_push h1 hs h2
      have hv:=VS_add h1 hs
      rw[e] at hv
      simp only at hv
      exact⟨hv.1,push_hi (fun s hs=>by have:=h2 s hs;omega) (by omega),by omega⟩
abbrev cnt (f:Fd) (lo hi:Int):Nat:=(min (min hi (f.1-1)) (lo+7)+1-lo).toNat
theorem rServes (N:Nat) (f:Fd) (lo hi:Int) (hN:2000≤N) (hl:f.2.2.1.length≤6) (h1:1≤f.1) (h2:f.1≤1000001) (h3:1≤lo) (h4:lo≤2000000000000):
    W_9 N (f,lo,hi)=some (itF f.2.2.1 lo (cnt f lo hi),noF f.2.2.1 lo (cnt f lo hi)):=by
  unfold W_9 V_9 cnt
  try simp only
  obtain⟨T,hT⟩:∃T,min (min hi (f.1-1)) (lo+7)=T:=⟨_,rfl⟩
  rw[hT]
  have hT7:T≤lo+7:=by omega
  have hTf:T≤f.1-1:=by omega
  refine loop_G (N:=N) (fun o=>o=some (itF f.2.2.1 lo (T+1-lo).toNat,noF f.2.2.1 lo (T+1-lo).toNat)) (fun k (v:List Sp×Int×Fd×List It)=>v=(noF f.2.2.1 lo k,(k:Int),f,itF f.2.2.1 lo k)∧k≤(T+1-lo).toNat) 8 (fun r:List It×List Sp=>r=(itF f.2.2.1 lo (T+1-lo).toNat,noF f.2.2.1 lo (T+1-lo).toNat)) ⟨by simp[itF,noF],by omega⟩ (by omega) (fun r h=>by rw[h]) (fun k v h=>by have:=h.2;omega) ?_
  rintro k v ⟨rfl,hk⟩
  try simp only
  have stop:¬lo+(k:Int)≤T→(noF f.2.2.1 lo k,itF f.2.2.1 lo k)=(noF f.2.2.1 lo (T+1-lo).toNat,itF f.2.2.1 lo (T+1-lo).toNat):=fun c=>by rw[show k=(T+1-lo).toNat by omega]
  by_cases c8:(k:Int)<8
  case neg=>
    right
    rw[dF c8,cnd_f]
    have:=stop (by omega)
    injection this with a b
    exact⟨_,rfl,by rw[a,b]⟩
  rw[dT c8,cnd_t,dF (show ¬f.1=0 by omega),cnd_f,obind_s]
  try simp only
  rw[wr_m (z:=lo+(k:Int)) (by omega) (by omega)]
  by_cases c1:hi<lo+(k:Int)
  · right
    rw[dT c1,cnd_t]
    have:=stop (by omega)
    injection this with a b
    exact⟨_,rfl,by rw[a,b]⟩
  rw[dF c1,cnd_f]
  by_cases c2:f.1≤lo+(k:Int)
  · right
    rw[dT c2,cnd_t]
    have:=stop (by omega)
    injection this with a b
    exact⟨_,rfl,by rw[a,b]⟩
  rw[dF c2,cnd_f]
  left
  have hkl:=itF_len f.2.2.1 lo k
  have hno:=noF_ok (R:=f.2.2.1) h3 k (by omega)
  rw[rGet_eq N _ _ hN (by omega),obind_s,wr_m (z:=(k:Int)+1) (by omega) (by omega)]
  by_cases q:(getF f.2.2.1 (lo+k)).2=true
  · rw[q,cnd_t,dT (by simp only[List.length_singleton];omega),cnd_t]
    refine⟨_,rfl,?_,by omega⟩
    simp only[itF,noF]
    rw[if_pos q,if_pos q]
    rfl
  · have e1:itF f.2.2.1 lo (k+1)=itF f.2.2.1 lo k:=by simp only[itF];rw[if_neg q]
    have e2:noF f.2.2.1 lo (k+1)=push (noF f.2.2.1 lo k) (lo+k) (lo+k):=by simp only[noF];rw[if_neg q]
    have hs:okS (lo+k,lo+k):=⟨by simp only;omega,by simp only;omega,by simp only;omega⟩
    rw[Bool.not_eq_true] at q
    have hb:∀t∈noF f.2.2.1 lo k,B t:=fun t ht=>(hno.1.1 t ht).B
    rw[q,cnd_f,rAddS_eq N _ _ (by have:=hno.2.2;omega) (by have:=hno.2.2;omega) hb,obind_s,addP_push hno.1 hs hno.2.1]
    refine⟨(noF f.2.2.1 lo (k+1),((k+1:Nat):Int),f,itF f.2.2.1 lo (k+1)),?_,rfl,by omega⟩
    rw[e1,e2]
    rfl

theorem wr_u32 {z:Int} (h:0≤z) (h2:z≤4294967295):wr .u32 z=z:=by
  have e1:lo .u32=0:=by rfl
  have e2:hi .u32=4294967295:=by rfl
  unfold wr
  rw[if_pos ⟨by omega,by omega⟩]
theorem getD_memI {l:List Int} {j:Nat} (h:j<l.length):l.getD j 0∈l:=by
  rw[List.getD_eq_getElem?_getD,List.getElem?_eq_getElem h];exact List.getElem_mem h
def X (a b:Int):Int:=((BitVec.ofInt 32 a ^^^ BitVec.ofInt 32 b).toNat:Int)
theorem X_rng (a b:Int):0≤X a b∧X a b≤4294967295:=by
  unfold X
  have:=(BitVec.ofInt 32 a ^^^ BitVec.ofInt 32 b).isLt
  omega
theorem X_wr (a b:Int):wr .u32 ((BitVec.ofInt 32 a ^^^ BitVec.ofInt 32 b).toNat:Int)=X a b:=wr_u32 (X_rng a b).1 (X_rng a b).2
def s1 (c:Int):Int:=if c % 2=1 then X (c / 2) 3988292384 else c / 2
theorem s1_rng {c:Int} (h:0≤c) (h2:c≤4294967295):0≤s1 c∧s1 c≤4294967295:=by
  unfold s1
  split
  · exact X_rng _ _
  · omega
def s1n:Nat→Int→Int
  | 0,c=>c
  | n+1,c=>s1 (s1n n c)
theorem s1n_rng {c:Int} (h:0≤c) (h2:c≤4294967295):∀n,0≤s1n n c∧s1n n c≤4294967295
  | 0=>⟨h,h2⟩
  | n+1=>s1_rng (s1n_rng h h2 n).1 (s1n_rng h h2 n).2
theorem loop8 {N:Nat} (hN:9≤N) {f:Int×Int→Option ((Int×Int)⊕Int)} {c:Int} (h:0≤c) (h2:c≤4294967295) (hf:∀v:Int×Int,0≤v.1→v.1≤4294967295→0≤v.2→v.2<8→f v=some (.inl (s1 v.1,v.2+1)))
    (he:∀v:Int×Int,¬v.2<8→f v=some (.inr v.1)):loopN N f (c,0)=some (s1n 8 c):=by
  obtain⟨r,h1,h3⟩:=loopN_run (N:=N) (f:=f) (x:=(c,0)) (fun v=>0≤v.2∧v.2≤8∧v.1=s1n v.2.toNat c) (fun v=>8-v.2.toNat) (fun r=>r=s1n 8 c) (fun v ⟨g1,g2,g3⟩=>by
    by_cases hv:v.2<8
    · left
      have hr:=s1n_rng h h2 v.2.toNat
      rw[hf v (by omega) (by omega) g1 hv]
      refine⟨_,rfl,⟨by simp only;omega,by simp only;omega,?_⟩,by simp only;omega⟩
      try simp only
      rw[show (v.2+1).toNat=v.2.toNat+1 by omega,g3];rfl
    · right
      rw[he v hv]
      refine⟨_,rfl,?_⟩
      rw[g3,show v.2.toNat=8 by omega]) ⟨by simp,by simp,rfl⟩ (by simp;omega)
  rw[h1,h3]
def fold (c:Int) (l:List Int):Int:=l.foldl (fun c b=>s1n 8 (X c b)) c
theorem fold_snoc (c:Int) (l:List Int) (b:Int):fold c (l++[b])=s1n 8 (X (fold c l) b):=by simp[fold]
theorem fold_rng {c:Int} (h:0≤c) (h2:c≤4294967295):∀l:List Int,0≤fold c l∧fold c l≤4294967295:=by
  intro l
  induction l generalizing c with
  | nil=>exact⟨h,h2⟩
  | cons b r ih=>
    have hx:=X_rng c b
    have:=s1n_rng hx.1 hx.2 8
    exact ih this.1 this.2
theorem loopB {N:Nat} {x:List Int} (hN:x.length<N) {f:Int×Int→Option ((Int×Int)⊕Int)} (hf:∀v:Int×Int,0≤v.1→v.1≤4294967295→0≤v.2→v.2<x.length→f v=some (.inl (s1n 8 (X v.1 (x.getD v.2.toNat 0)),v.2+1)))
    (he:∀v:Int×Int,¬v.2<x.length→f v=some (.inr v.1)):loopN N f (4294967295,0)=some (fold 4294967295 x):=by
  obtain⟨r,h1,h3⟩:=loopN_run (N:=N) (f:=f) (x:=(4294967295,0)) (fun v=>0≤v.2∧v.2≤x.length∧v.1=fold 4294967295 (x.take v.2.toNat)) (fun v=>x.length-v.2.toNat) (fun r=>r=fold 4294967295 x) (fun v ⟨g1,g2,g3⟩=>by
    by_cases hv:v.2<x.length
    · left
      have hr:=fold_rng (c:=4294967295) (by omega) (by omega) (x.take v.2.toNat)
      rw[hf v (by omega) (by omega) g1 hv]
      refine⟨_,rfl,⟨by simp only;omega,by simp only;omega,?_⟩,by simp only;omega⟩
      try simp only
      have hl:v.2.toNat<x.length:=by omega
      have e:x.take (v.2.toNat+1)=x.take v.2.toNat++[x.getD v.2.toNat 0]:=by
        rw[List.getD_eq_getElem?_getD,List.getElem?_eq_getElem hl]
        simp
      rw[show (v.2+1).toNat=v.2.toNat+1 by omega,e,fold_snoc,g3]
    · right
      rw[he v hv]
      refine⟨_,rfl,?_⟩
      rw[g3,List.take_of_length_le (by omega)]) ⟨by simp,by simp,rfl⟩ (by simp;omega)
  rw[h1,h3]
theorem U8_all {l:List Int} (h:U8 l):(List.all l fun(n:Int)=>decide ((0:Int)≤n)&&decide (n<(256:Int)))=true:=by
  rw[List.all_eq_true]
  intro n hn
  have:=h n hn
  simp only[Bool.and_eq_true,decide_eq_true_eq];omega
theorem U8_app {a b:List Int} (ha:U8 a) (hb:U8 b):U8 (a++b):=fun n hn=>(List.mem_append.1 hn).elim (ha n) (hb n)
theorem U8_take {a:List Int} (ha:U8 a) (k:Nat):U8 (a.take k):=fun n hn=>ha n (List.mem_of_mem_take hn)
theorem U8_drop {a:List Int} (ha:U8 a) (k:Nat):U8 (a.drop k):=fun n hn=>ha n (List.mem_of_mem_drop hn)
def encF:Nat→Int→List Int
  | 0,v=>[v]
  | k+1,v=>if v<128 then [v] else(v % 128+128)::encF k (v / 128)
theorem encF_U8:∀(k:Nat) (v:Int),0≤v→v<128*128 ^ k→U8 (encF k v)∧(encF k v).length≤k+1∧0<(encF k v).length
  | 0,v,h,h2=>by
    refine⟨fun n hn=>?_,by simp[encF],by simp[encF]⟩
    simp only[encF,List.mem_singleton] at hn
    subst hn
    simp at h2
    omega
  | k+1,v,h,h2=>by
    simp only[encF]
    split
    · refine⟨fun n hn=>?_,by simp,by simp⟩
      simp only[List.mem_singleton] at hn
      subst hn;omega
    · have h3:v<128*128 ^ k*128:=by rw[Int.pow_succ] at h2;omega
      obtain⟨a,b,_⟩:=encF_U8 k (v / 128) (by omega) (by omega)
      refine⟨fun n hn=>?_,by simp only[List.length_cons];omega,by simp⟩
      rcases List.mem_cons.1 hn with rfl | hn
      · omega
      · exact a n hn
theorem putLoop {f:Int×List Int→Option ((Int×List Int)⊕(Int×List Int))} (h1:∀v l,0≤v→v<128→f (v,l)=some (.inr (v,l)))
    (h2:∀v l,128≤v→v≤1073741824→l.length≤2000→f (v,l)=some (.inl (v / 128,l++[v % 128+128]))):
    ∀(k N:Nat) (v:Int) (l:List Int),k<N→0≤v→v≤1073741824→v<128*128 ^ k→l.length+k≤2000→∃v' l',loopN N f (v,l)=some (v',l')∧l'++[v']=l++encF k v∧0≤v'∧v'<128
  | k,0,v,l,hN,_,_,_,_=>by omega
  | 0,N+1,v,l,hN,hv,hm,hk,hl=>by
    simp at hk
    exact⟨v,l,by simp only[loopN,h1 v l hv hk],rfl,hv,hk⟩
  | k+1,N+1,v,l,hN,hv,hm,hk,hl=>by
    by_cases c:v<128
    · exact⟨v,l,by simp only[loopN,h1 v l hv c],by simp only[encF,if_pos c],hv,c⟩
    · have h3:v<128*128 ^ k*128:=by rw[Int.pow_succ] at hk;omega
      obtain⟨v',l',e1,e2,e3,e4⟩:=putLoop h1 h2 k N (v / 128) (l++[v % 128+128]) (by omega) (by omega) (by omega) (by omega) (by simp only[List.length_append,List.length_singleton];omega)
      refine⟨v',l',by simp only[loopN,h2 v l (by omega) hm (by omega)];exact e1,?_,e3,e4⟩
      rw[e2]
      simp only[encF,if_neg c,List.append_assoc,List.singleton_append]
def enc (v:Int):List Int:=encF 4 v
theorem stepP1 (v : Int) (l : List Int) (h : v < 128) : cnd (decide ((128 : Int) ≤ v))
              (cnd (decide ((List.length l+List.length [wr IntKind.u8 (wr IntKind.i64 (Int.tmod v (128:Int)+(128:Int)))])*(1:Nat)≤(140737488355328:Nat)))
                (some (Sum.inl (wr IntKind.i64 (Int.tdiv v (128:Int)),l++[wr IntKind.u8 (wr IntKind.i64 (Int.tmod v (128:Int)+(128:Int)))])))
                none)
              (some (Sum.inr (v,l):(Int×List Int)⊕(Int×List Int)))=some (Sum.inr (v,l)):=by rw[dF (by omega),cnd_f]
theorem stepP2 (v : Int) (l : List Int) (h : 128 ≤ v) (h2 : v ≤ 1073741824) (hl : l.length ≤ 2000) : cnd (decide ((128 : Int) ≤ v))
              (cnd (decide ((List.length l+List.length [wr IntKind.u8 (wr IntKind.i64 (Int.tmod v (128:Int)+(128:Int)))])*(1:Nat)≤(140737488355328:Nat)))
                (some (Sum.inl (wr IntKind.i64 (Int.tdiv v (128:Int)),l++[wr IntKind.u8 (wr IntKind.i64 (Int.tmod v (128:Int)+(128:Int)))])))
                none)
              (some (Sum.inr (v,l):(Int×List Int)⊕(Int×List Int)))=some (Sum.inl (v / 128,l++[v % 128+128])):=by
  rw[dT h,cnd_t,Int.tmod_eq_emod_of_nonneg (by omega),Int.tdiv_eq_ediv_of_nonneg (by omega),wr_m (by omega) (by omega),wr_m (by omega) (by omega),wr_u8 (by omega) (by omega),dT (by simp only[List.length_singleton];omega),cnd_t]
theorem enc_U8 {v:Int} (h0:0≤v) (h1:v≤1073741824):U8 (enc v)∧(enc v).length≤5∧0<(enc v).length:=encF_U8 4 v h0 (by omega)
def by8 (s:List UInt8):List Int:=List.map (fun(b:UInt8)=>(↑(UInt8.toNat b):Int)) s
theorem by8_U8 (s:List UInt8):U8 (by8 s):=by
  intro n hn
  obtain⟨b,_,rfl⟩:=List.mem_map.1 hn
  have:=b.toNat_lt
  omega
def rd:List Int→Nat→Int→Int→Option (Int×Int)
  | [],_,_,_=>none
  | c::r,i,v,u=>if 5≤i then none else if c<128 then(if (0<i∧c=0)∨1073741824<v+c % 128*u then none else some (v+c % 128*u,(i:Int)+1)) else rd r (i+1) (v+c % 128*u) (u*128)
theorem rd_rng:∀(l:List Int) (i:Nat) (v u:Int) (x n:Int),U8 l→0≤v→0≤u→rd l i v u=some (x,n)→0≤x∧x≤1073741824∧(i:Int)+1≤n∧n≤i+l.length∧n≤5
  | [],_,_,_,_,_,_,_,_,h=>by cases h
  | c::r,i,v,u,x,n,hU,hv,hu,h=>by
    have hc:=hU c (by simp)
    have hm:0≤c % 128*u:=Int.mul_nonneg (by omega) hu
    simp only[rd] at h
    split at h
    · cases h
    · split at h
      · split at h
        · cases h
        · rename_i h5 _ hn
          have hn2:¬1073741824<v+c % 128*u:=fun q=>hn (.inr q)
          injection h with h
          injection h with h1 h2
          subst h1 h2
          simp only[List.length_cons]
          omega
      · have:=rd_rng r (i+1) _ _ x n (fun n hn=>hU n (by simp[hn])) (by omega) (by omega) h
        simp only[List.length_cons]
        omega
theorem drop_cons {l:List Int} {i:Nat} (h:i<l.length):l.drop i=l.getD i 0::l.drop (i+1):=by
  rw[List.drop_eq_getElem_cons h,List.getD_eq_getElem?_getD,List.getElem?_eq_getElem h];rfl
def pw (i:Nat):Int:=128 ^ i
theorem pw_succ (i:Nat):pw (i+1)=pw i*128:=Int.pow_succ _ _
theorem pw_pos (i:Nat):0<pw i:=Int.pow_pos (by omega)
theorem pw_le {i:Nat} (h:i≤5):pw i≤34359738368:=by
  have:i=0∨i=1∨i=2∨i=3∨i=4∨i=5:=by omega
  rcases this with rfl | rfl | rfl | rfl | rfl | rfl<;>decide
structure RdI (x:List Int) (v u:Int) (i:Nat):Prop where
  le:i≤x.length
  i5:i≤5
  eu:u=pw i
  v0:0≤v
  v1:v<pw i
  same:rd (x.drop i) i v u=rd x 0 0 1
theorem RdI.zero (x:List Int):RdI x 0 1 0:=⟨by omega,by omega,rfl,by omega,by decide,rfl⟩
theorem RdI.bnd {x:List Int} {v u:Int} {i:Nat} (h:RdI x v u i) (hU:U8 x) (hi:i<x.length):0≤v+x.getD i 0 % 128*u∧v+x.getD i 0 % 128*u<pw (i+1)∧0≤x.getD i 0 % 128*u∧x.getD i 0 % 128*u≤127*pw i:=by
  have hc:=U8_get hU i hi
  have hp:=pw_pos i
  have e:=h.eu
  have v0:=h.v0
  have v1:=h.v1
  have h1:0≤x.getD i 0 % 128*u:=Int.mul_nonneg (by omega) (by omega)
  have h2:x.getD i 0 % 128*u≤127*u:=Int.mul_le_mul_of_nonneg_right (by omega) (by omega)
  rw[pw_succ]
  refine⟨by omega,by omega,h1,by omega⟩
theorem RdI.next {x:List Int} {v u:Int} {i:Nat} (h:RdI x v u i) (hU:U8 x) (hi:i<x.length) (h5:i<5) (hc:¬x.getD i 0<128):RdI x (v+x.getD i 0 % 128*u) (u*128) (i+1):=by
  obtain⟨b1,b2,_⟩:=h.bnd hU hi
  refine⟨by omega,by omega,by rw[h.eu,pw_succ],b1,b2,?_⟩
  rw[←h.same,drop_cons hi]
  simp only[rd]
  rw[if_neg (by omega),if_neg hc]
theorem RdI.at_ {x:List Int} {v u:Int} {i:Nat} (h:RdI x v u i) (hi:i<x.length):rd x 0 0 1=if 5≤i then none else if x.getD i 0<128 then(if (0<i∧x.getD i 0=0)∨1073741824<v+x.getD i 0 % 128*u then none else some (v+x.getD i 0 % 128*u,(i:Int)+1)) else rd (x.drop (i+1)) (i+1) (v+x.getD i 0 % 128*u) (u*128):=by
  rw[←h.same,drop_cons hi]
  rfl
theorem RdI.stop {x:List Int} {v u:Int} {i:Nat} (h:RdI x v u i) (hi:x.length≤i):rd x 0 0 1=none:=by
  rw[←h.same,List.drop_eq_nil_of_le hi];rfl
def tk (o:Option (Int×Int)):Int×Int×Bool:=match o with
  | some (v,n)=>(v,n,true)
  | none=>(0,0,false)
def tt (x:List Int):List UInt8×Int×Bool:=match rd x 0 0 1 with
  | some (v,n)=>if (x.length:Int)-n<v then([],0,false) else(bytesI ((x.take (n+v).toNat).drop n.toNat),n+v,true)
  | none=>([],0,false)
theorem mul_split (v u:Int):v % 128*u+v / 128*(u*128)=v*u:=by
  have h:=Int.emod_add_mul_ediv v 128
  have e:v / 128*(u*128)=128*(v / 128)*u:=by rw[Int.mul_comm u 128,←Int.mul_assoc,Int.mul_comm (v / 128) 128]
  rw[e,←Int.add_mul,h]
theorem rd_enc:∀(k:Nat) (v:Int) (r:List Int) (i:Nat) (acc u:Int),0≤v→v<128*128 ^ k→i+k≤4→(0<i→0<v)→acc+v*u≤1073741824→0≤u→rd (encF k v++r) i acc u=some (acc+v*u,(i:Int)+((encF k v).length:Int))
  | 0,v,r,i,acc,u,h0,h1,hi,hp,hm,hu=>by
    simp at h1
    simp only[encF,List.singleton_append,rd]
    rw[if_neg (by omega),if_pos h1,if_neg (by
      rintro(⟨a,b⟩ | a)
      · have:=hp a;omega
      · rw[Int.emod_eq_of_lt h0 h1] at a;omega),Int.emod_eq_of_lt h0 h1]
    rfl
  | k+1,v,r,i,acc,u,h0,h1,hi,hp,hm,hu=>by
    simp only[encF]
    split
    · rename_i hv
      simp only[List.singleton_append,rd]
      rw[if_neg (by omega),if_pos hv,if_neg (by
        rintro(⟨a,b⟩ | a)
        · have:=hp a;omega
        · rw[Int.emod_eq_of_lt h0 hv] at a;omega),Int.emod_eq_of_lt h0 hv]
      rfl
    · rename_i hv
      have h3:v<128*128 ^ k*128:=by rw[Int.pow_succ] at h1;omega
      have e1:(v % 128+128) % 128=v % 128:=by omega
      have e2:acc+v % 128*u+v / 128*(u*128)=acc+v*u:=by rw[Int.add_assoc,mul_split]
      simp only[List.cons_append,rd]
      rw[if_neg (by omega),if_neg (by omega),e1,rd_enc k (v / 128) r (i+1) (acc+v % 128*u) (u*128) (by omega) (by omega) (by omega) (fun _=>by omega) (by rw[e2];exact hm) (by omega),e2]
      simp only[List.length_cons]
      congr 2
      omega
theorem bytes_by8 (s:List UInt8):bytesI (by8 s)=s:=by
  unfold bytesI by8
  rw[List.map_map]
  conv=>rhs;rw[←List.map_id s]
  apply List.map_congr_left
  intro b _
  simp
theorem rd_put {v:Int} (h0:0≤v) (h1:v≤1073741824) (r:List Int):rd (enc v++r) 0 0 1=some (v,((enc v).length:Int)):=by
  have:=rd_enc 4 v r 0 0 1 h0 (by omega) (by omega) (fun h=>by omega) (by omega) (by omega)
  unfold enc
  rw[this]
  congr 2<;>omega
theorem tt_put (s:List UInt8) (r:List Int) (hs:s.length≤200):tt (enc s.length++by8 s++r)=(s,(((enc s.length++by8 s).length:Nat):Int),true):=by
  have hb:(by8 s).length=s.length:=by simp[by8]
  unfold tt
  rw[List.append_assoc,rd_put (by omega) (by omega)]
  try simp only
  rw[if_neg (by simp only[List.length_append,hb];omega)]
  have e1:(((enc s.length).length:Int)+(s.length:Int)).toNat=(enc s.length++by8 s).length:=by rw[List.length_append,hb];omega
  rw[e1,←List.append_assoc,List.take_left,Int.toNat_natCast,List.drop_left,bytes_by8]
  rw[List.length_append,hb]
  congr 2
theorem PutNum_eq (N:Nat) (hN:100≤N) (l:List Int) (v:Int) (hl:l.length≤1000) (h0:0≤v) (h1:v≤1073741824):W_H N (l,v)=some (l++enc v):=by
  unfold W_H V_H
  try simp only
  rw[dT (by omega),cnd_t]
  obtain⟨v',l',e1,e2,e3,e4⟩:=putLoop (f:=fun(v:Int×List Int)=>cnd (decide ((128:Int)≤Prod.fst v))
              (cnd (decide ((List.length (Prod.snd v)+List.length [wr IntKind.u8 (wr IntKind.i64 (Int.tmod (Prod.fst v) (128:Int)+(128:Int)))])*(1:Nat)≤(140737488355328:Nat)))
                (some (Sum.inl (wr IntKind.i64 (Int.tdiv (Prod.fst v) (128:Int)),Prod.snd v++[wr IntKind.u8 (wr IntKind.i64 (Int.tmod (Prod.fst v) (128:Int)+(128:Int)))])))
                none)
              (some (Sum.inr (Prod.fst v,Prod.snd v)))) (fun v l h h2=>stepP1 v l h2) (fun v l h h2 hl=>stepP2 v l h h2 hl) 4 N v l (by omega) h0 h1 (by omega) (by omega)
  rw[e1,obind_s]
  try simp only
  have hlen:l'.length≤1010:=by
    have:=congrArg List.length e2
    have h3:=(encF_U8 4 v h0 (by omega)).2.1
    simp only[List.length_append,List.length_singleton] at this
    omega
  rw[wr_u8 e3 (by omega),dT (by simp only[List.length_singleton];omega),cnd_t,e2]
  rfl
theorem rPutText_eq (N:Nat) (hN:100≤N) (l:List Int) (s:List UInt8) (hl:l.length≤1000) (hs:s.length≤200):W_aA N (l,s)=some (l++enc s.length++by8 s):=by
  have h3:=(enc_U8 (v:=(s.length:Int)) (by omega) (by omega)).2.1
  unfold W_aA V_aA
  try simp only
  rw[PutNum_eq N hN l _ hl (by omega) (by omega),obind_s,dT (by simp only[List.length_append,List.length_map];omega),cnd_t]
  rfl
theorem TakeNum_eq (N:Nat) (hN:100≤N) (x:List Int) (hx:x.length≤1000) (hU:U8 x):W_x N x=some (tk (rd x 0 0 1)):=by
  unfold W_x V_x
  refine obind_loop (fun v:Int×Int×Int=>∃i:Nat,v.2.2=i∧RdI x v.1 v.2.1 i) (fun v=>6-v.2.2.toNat) (fun r:PUnit⊕Int×Int×Bool=>(r=.inl ()∧rd x 0 0 1=none)∨r=.inr (tk (rd x 0 0 1))) ⟨0,rfl,RdI.zero x⟩ (by show 6-Int.toNat 0<N;omega) ?_ ?_
  · rintro r (⟨rfl,h⟩ | rfl)
    · rw[selim_l,h];rfl
    · rw[selim_r]
  · rintro⟨v,u,w⟩ ⟨i,hi,hI⟩
    simp only at hi hI ⊢
    subst hi
    by_cases hlt:(i:Int)<x.length
    case neg=>right;rw[dF hlt,cnd_f];exact⟨_,rfl,.inl ⟨rfl,hI.stop (by omega)⟩⟩
    have hix:i<x.length:=by omega
    rw[dT hlt,cnd_t,Int.toNat_natCast]
    have hat:=hI.at_ hix
    by_cases h5:(i:Int)<5
    case neg=>
      right;rw[dF h5,cnd_f];rw[if_pos (by omega)] at hat
      exact⟨_,rfl,.inl ⟨rfl,hat⟩⟩
    rw[if_neg (by omega)] at hat
    have hp:=pw_le (i:=i) (by omega)
    have hp1:=pw_le (i:=i+1) (by omega)
    have hp0:=pw_pos i
    obtain⟨b1,b2,b3,b4⟩:=hI.bnd hU hix
    have hc:=U8_get hU i hix
    have hu:=hI.eu
    have w1:wr .i64 (Int.tmod (x.getD i 0) 128)=x.getD i 0 % 128:=by rw[Int.tmod_eq_emod_of_nonneg hc.1,wr_m (by omega) (by omega)]
    have w2:wr .i64 (x.getD i 0 % 128*u)=x.getD i 0 % 128*u:=wr_m (by omega) (by omega)
    have w3:wr .i64 (v+x.getD i 0 % 128*u)=v+x.getD i 0 % 128*u:=wr_m (by omega) (by omega)
    have w4:wr .i64 (u*128)=u*128:=wr_m (by omega) (by omega)
    have w5:wr .i64 ((i:Int)+1)=(i:Int)+1:=wr_m (by omega) (by omega)
    rw[dT h5,cnd_t,dT (Int.natCast_nonneg i),Bool.and_self,cnd_t,cnd_t,w1,w2,w3,w4,w5]
    clear w1 w2 w3 w4 w5
    by_cases hs:x.getD i 0<128
    case neg=>
      left
      rw[dF hs,cnd_f]
      refine⟨(v+x.getD i 0 % 128*u,u*128,(i:Int)+1),rfl,⟨i+1,(Int.natCast_succ i).symm,hI.next hU hix (by omega) hs⟩,?_⟩
      show 6-((i:Int)+1).toNat<6-(i:Int).toNat
      omega
    right
    rw[if_pos hs] at hat
    rw[dT hs,cnd_t]
    by_cases hz:0<i∧x.getD i 0=0
    · rw[dT (show (0:Int)<(i:Int) by omega),cnd_t,cnd_t,dT hz.2,obind_s,cnd_t]
      rw[if_pos (.inl hz)] at hat
      exact⟨_,rfl,.inr (by rw[hat];rfl)⟩
    · have e1:cnd (decide ((0:Int)<(i:Int))) (cnd true (some (decide (x.getD i 0=0))) none) (some false)=some false:=by
        by_cases h0:(0:Int)<(i:Int)
        · rw[dT h0,cnd_t,cnd_t,dF (fun q=>hz ⟨by omega,q⟩)]
        · rw[dF h0,cnd_f]
      rw[e1,obind_s,cnd_f]
      by_cases hm:1073741824<v+x.getD i 0 % 128*u
      · rw[dT hm,cnd_t]
        rw[if_pos (.inr hm)] at hat
        exact⟨_,rfl,.inr (by rw[hat];rfl)⟩
      · rw[dF hm,cnd_f]
        rw[if_neg (fun q=>q.elim hz hm)] at hat
        exact⟨_,rfl,.inr (by rw[hat];rfl)⟩
theorem rTakeText_eq (N:Nat) (hN:100≤N) (x:List Int) (hx:x.length≤1000) (hU:U8 x):W_ax N x=some (tt x):=by
  unfold W_ax V_ax tt
  rw[TakeNum_eq N hN x hx hU]
  cases hr:rd x 0 0 1 with
  | none=>rfl
  | some p=>
    obtain⟨v,n⟩:=p
    obtain⟨h1,h2,h3,h4,h5⟩:=rd_rng x 0 0 1 v n hU (by omega) (by omega) hr
    have e:tk (some (v,n))=(v,n,true):=rfl
    rw[e,obind_s]
    simp only[Bool.not_true,cnd_f]
    have w1:wr .i64 ((x.length:Int)-n)=(x.length:Int)-n:=wr_m (by omega) (by omega)
    have w2:wr .i64 (n+v)=n+v:=wr_m (by omega) (by omega)
    rw[w1,w2]
    clear w1 w2
    by_cases hc:(x.length:Int)-n<v
    · rw[dT hc,cnd_t,if_pos hc]
    · rw[dF hc,cnd_f,if_neg hc,dT (by omega),dT (by omega),dT (by omega),Bool.and_self,Bool.and_self,cnd_t,U8_all (U8_drop (U8_take hU _) _),cnd_t]
      rfl
theorem rSum_eq (N:Nat) (x:List Int) (hN:9≤N) (hx:x.length<N) (hl:x.length≤1000000) (h:∀b∈x,0≤b∧b≤255):W_aX N x=some (X (IntKind.max .u32) (fold 4294967295 x)):=by
  unfold W_aX V_aX
  rw[loopB hx (fun v g1 g2 g3 g4=>?_) (fun v h=>by rw[dF h,cnd_f]),obind_s,X_wr]
  have hb:=h _ (getD_memI (l:=x) (j:=v.2.toNat) (by omega))
  rw[dT g4,cnd_t,dT g3,Bool.and_self,cnd_t,wr_u32 (z:=x.getD v.2.toNat 0) (by omega) (by omega),X_wr,loop8 hN (X_rng _ _).1 (X_rng _ _).2 (fun w k1 k2 k3 k4=>?_) (fun v h=>by rw[dF h,cnd_f]),obind_s,wr_s (by omega) (by omega)]
  have e:Int.tdiv w.1 2=w.1 / 2:=Int.tdiv_eq_ediv_of_nonneg k1
  have e2:Int.tmod w.1 2=w.1 % 2:=Int.tmod_eq_emod_of_nonneg k1
  rw[dT k4,cnd_t,e,e2,wr_u32 (z:=w.1 / 2) (by omega) (by omega),X_wr,wr_s (by omega) (by omega)]
  unfold s1
  by_cases h:w.1 % 2=1
  · rw[dT h,cnd_t,if_pos h]
  · rw[dF h,cnd_f,if_neg h]
def cs (b:List Int):Int:=X (IntKind.max .u32) (fold 4294967295 b)
def sm (b:List Int):List Int:=[cs b / 16777216 % 256,cs b / 65536 % 256,cs b / 256 % 256,cs b % 256]
theorem wr_u8m {z:Int}:wr .u8 z=z % 256:=by rw[wr_eq];simp[IntKind.wrap,IntKind.bits,IntKind.signed]
theorem sm_U8 (b:List Int):U8 (sm b):=by
  intro n hn
  simp only[sm,List.mem_cons,List.not_mem_nil,or_false] at hn
  omega
def bd (m:Ms):List Int:=[m.1,m.2.1,m.2.2.1,m.2.2.2.1,m.2.2.2.2.1,m.2.2.2.2.2.1,(m.2.2.2.2.2.2.1.length:Int)].flatMap enc++m.2.2.2.2.2.2.1.flatMap enc++[m.2.2.2.2.2.2.2.1,m.2.2.2.2.2.2.2.2.1].flatMap enc++enc m.2.2.2.2.2.2.2.2.2.length++by8 m.2.2.2.2.2.2.2.2.2
structure Rg (m:Ms):Prop where
  k:0≤m.1∧m.1≤1073741824
  f:0≤m.2.1∧m.2.1≤1073741824
  t:0≤m.2.2.1∧m.2.2.1≤1073741824
  i:0≤m.2.2.2.1∧m.2.2.2.1≤1073741824
  e:0≤m.2.2.2.2.1∧m.2.2.2.2.1≤1073741824
  a:0≤m.2.2.2.2.2.1∧m.2.2.2.2.2.1≤1073741824
  pl:m.2.2.2.2.2.2.1.length≤10
  p:∀v∈m.2.2.2.2.2.2.1,0≤v∧v≤1073741824
  lo:0≤m.2.2.2.2.2.2.2.1∧m.2.2.2.2.2.2.2.1≤1073741824
  hi:0≤m.2.2.2.2.2.2.2.2.1∧m.2.2.2.2.2.2.2.2.1≤1073741824
  s:m.2.2.2.2.2.2.2.2.2.length≤12
theorem VP_mem {p:List Int} (h:VP p):∀v∈p,1≤v∧v≤8:=by
  intro v hv
  obtain⟨j,hj,rfl⟩:=mem_getD hv
  have:=h.2.2.2 j hj
  exact⟨this.1,this.2.1⟩
theorem MayP.rg {m:Ms} (h:MayP m):Rg m:=by
  obtain⟨k,f,t,i,e,a,p,lo,hi,s⟩:=m
  obtain⟨h1,h2,h3,h4,h5,h6,h7⟩:=h
  simp only at h1 h2 h3 h4 h5
  unfold ownF at h6
  unfold Fits at h7
  simp only at h6 h7
  by_cases c2:k=2
  · rw[if_pos c2] at h6
    rw[if_pos (.inl c2)] at h7
    simp only[Prod.mk.injEq,true_and] at h6
    obtain⟨g1,g2⟩:=h6
    subst g1 g2
    exact⟨by simp only;omega,by simp only;omega,by simp only;omega,by simp only;omega,h7.1,h7.2.1,h7.2.2.1.2.1,fun v hv=>by have:=VP_mem h7.2.2.1 v hv;omega,by simp only;omega,by simp only;omega,by simp⟩
  rw[if_neg c2] at h6
  by_cases c5:k=5
  · rw[if_pos c5] at h6
    rw[if_pos (.inr c5)] at h7
    simp only[Prod.mk.injEq,true_and] at h6
    obtain⟨g1,g2⟩:=h6
    subst g1
    exact⟨by simp only;omega,by simp only;omega,by simp only;omega,by simp only;omega,h7.1,h7.2.1,h7.2.2.1.2.1,fun v hv=>by have:=VP_mem h7.2.2.1 v hv;omega,by simp only;omega,by simp only;omega,by simp only;rw[g2];simp⟩
  rw[if_neg c5] at h6
  rw[if_neg (fun q=>q.elim c2 c5)] at h7
  by_cases c7:k=7
  · rw[if_pos c7] at h6 h7
    simp only[Prod.mk.injEq,true_and,and_true] at h6
    obtain⟨g1,g2,g3,g4⟩:=h6
    subst g1 g2 g3 g4
    exact⟨by simp only;omega,by simp only;omega,by simp only;omega,by simp only;omega,by simp,by simp,by simp,fun v hv=>by simp at hv,by simp only;omega,by simp,by have:=h7.2;simp only;omega⟩
  rw[if_neg c7] at h6 h7
  by_cases c8:k=8∨k=9
  · rw[if_pos c8] at h6 h7
    simp only[Prod.mk.injEq,true_and] at h6
    obtain⟨g1,g2,g3,g4⟩:=h6
    subst g1 g2 g3 g4
    exact⟨by simp only;omega,by simp only;omega,by simp only;omega,by simp only;omega,by simp,by simp,by simp,fun v hv=>by simp at hv,by simp only;omega,by simp only;omega,by simp⟩
  · rw[if_neg c8] at h6
    simp only[Prod.mk.injEq,true_and] at h6
    obtain⟨g1,g2,g3,g4,g5,g6⟩:=h6
    subst g1 g2 g3 g4 g5 g6
    exact⟨by simp only;omega,by simp only;omega,by simp only;omega,by simp only;omega,by simp,by simp,by simp,fun v hv=>by simp at hv,by simp,by simp,by simp⟩
theorem flat_U8 {l:List Int} (h:∀v∈l,0≤v∧v≤1073741824):U8 (l.flatMap enc)∧(l.flatMap enc).length≤5*l.length:=by
  induction l with
  | nil=>exact⟨fun n hn=>by simp at hn,by simp⟩
  | cons v l ih=>
    obtain⟨i1,i2⟩:=ih (fun x hx=>h x (by simp[hx]))
    have hv:=h v (by simp)
    have he:=enc_U8 hv.1 hv.2
    exact⟨U8_app he.1 i1,by simp only[List.flatMap_cons,List.length_append,List.length_cons];omega⟩
theorem Rg.r7 {m:Ms} (h:Rg m):∀v∈[m.1,m.2.1,m.2.2.1,m.2.2.2.1,m.2.2.2.2.1,m.2.2.2.2.2.1,(m.2.2.2.2.2.2.1.length:Int)],0≤v∧v≤1073741824:=by
  intro v hv
  have:=h.pl
  simp only[List.mem_cons,List.not_mem_nil,or_false] at hv
  rcases hv with rfl | rfl | rfl | rfl | rfl | rfl | rfl
  · exact h.k
  · exact h.f
  · exact h.t
  · exact h.i
  · exact h.e
  · exact h.a
  · omega
theorem Rg.r2 {m:Ms} (h:Rg m):∀v∈[m.2.2.2.2.2.2.2.1,m.2.2.2.2.2.2.2.2.1],0≤v∧v≤1073741824:=by
  intro v hv
  simp only[List.mem_cons,List.not_mem_nil,or_false] at hv
  rcases hv with rfl | rfl
  · exact h.lo
  · exact h.hi
theorem bd_U8 {m:Ms} (h:Rg m):U8 (bd m)∧(bd m).length≤200:=by
  have q1:=flat_U8 h.r7
  have q2:=flat_U8 h.p
  have q3:=flat_U8 h.r2
  have hs:=h.s
  have hp:=h.pl
  have q4:=enc_U8 (v:=(m.2.2.2.2.2.2.2.2.2.length:Int)) (by omega) (by omega)
  refine⟨U8_app (U8_app (U8_app (U8_app q1.1 q2.1) q3.1) q4.1) (by8_U8 _),?_⟩
  have l1:=q1.2;have l2:=q2.2;have l3:=q3.2;have l4:=q4.2.1
  simp only[List.length_cons,List.length_nil] at l1 l3
  unfold bd
  simp only[List.length_append,by8,List.length_map]
  omega
theorem bd_app (m:Ms) (r:List Int):bd m++r=enc m.1++(enc m.2.1++(enc m.2.2.1++(enc m.2.2.2.1++(enc m.2.2.2.2.1++(enc m.2.2.2.2.2.1++(enc (m.2.2.2.2.2.2.1.length:Int)++(m.2.2.2.2.2.2.1.flatMap enc++(enc m.2.2.2.2.2.2.2.1++(enc m.2.2.2.2.2.2.2.2.1++(enc (m.2.2.2.2.2.2.2.2.2.length:Int)++(by8 m.2.2.2.2.2.2.2.2.2++r))))))))))):=by
  simp only[bd,List.flatMap_cons,List.flatMap_nil,List.append_assoc,List.append_nil]
theorem by8_bytes {l:List Int} (h:U8 l):by8 (bytesI l)=l:=by
  unfold bytesI by8
  rw[List.map_map]
  conv=>rhs;rw[←List.map_id l]
  apply List.map_congr_left
  intro n hn
  have:=h n hn
  simp
  omega
open Classical in
theorem SameI_eq (N:Nat) (a b:List Int) (hN:a.length<N) (hl:a.length≤140737488355327):W_t N (a,b)=some (decide (a=b)):=by
  unfold W_t V_t
  try simp only
  by_cases h:(a.length:Int)=b.length
  case neg=>
    rw[dT (show (a.length:Int)≠b.length from h),cnd_t]
    have:¬a=b:=fun q=>h (by rw[q])
    rw[dF this]
  rw[dF (fun q:(a.length:Int)≠b.length=>q h),cnd_f]
  have hlen:a.length=b.length:=by omega
  refine obind_loop (fun v:Int=>∃i:Nat,v=i∧i≤a.length∧a.take i=b.take i) (fun v=>a.length-v.toNat) (fun r:PUnit⊕Bool=>(r=.inl ()∧a=b)∨(r=.inr false∧a≠b)) ⟨0,rfl,Nat.zero_le _,rfl⟩ (by show a.length-(Int.ofNat 0).toNat<N;omega) ?_ ?_
  · rintro r (⟨rfl,h⟩ | ⟨rfl,h⟩)
    · rw[selim_l,dT h]
    · rw[selim_r,dF h]
  · rintro v ⟨i,rfl,hi,ht⟩
    by_cases hlt:i<a.length
    · rw[dT (by omega),cnd_t,dT (by omega),Bool.and_self,cnd_t,dT (by omega),Bool.and_self,cnd_t,Int.toNat_natCast]
      have g1:a.getD i 0=a[i]:=by rw[List.getD_eq_getElem?_getD,List.getElem?_eq_getElem hlt];rfl
      have g2:b.getD i 0=b[i]'(by omega):=by rw[List.getD_eq_getElem?_getD,List.getElem?_eq_getElem (by omega)];rfl
      rw[g1,g2]
      by_cases hq:a[i]=b[i]'(by omega)
      · left
        rw[dF (fun q:a[i]≠b[i]'(by omega)=>q hq),cnd_f,wr_m (by omega) (by omega)]
        refine⟨_,rfl,⟨i+1,by omega,by omega,?_⟩,by omega⟩
        rw[List.take_add_one,List.take_add_one,ht,List.getElem?_eq_getElem hlt,List.getElem?_eq_getElem (by omega),hq]
      · right
        rw[dT hq,cnd_t]
        refine⟨_,rfl,.inr ⟨rfl,fun q=>hq ?_⟩⟩
        subst q;rfl
    · right
      rw[dF (by omega),cnd_f]
      refine⟨_,rfl,.inl ⟨rfl,?_⟩⟩
      rw[List.take_of_length_le (by omega),List.take_of_length_le (by omega)] at ht
      exact ht
open Classical in
theorem rSame_eq (N:Nat) (m w:Ms) (hN:m.2.2.2.2.2.2.1.length<N) (hl:m.2.2.2.2.2.2.1.length≤140737488355327):W_ag N (m,w)=some (decide (m=w)):=by
  obtain⟨k,f,t,i,e,a,p,lo,hi,s⟩:=m
  obtain⟨k',f',t',i',e',a',p',lo',hi',s'⟩:=w
  unfold W_ag V_ag
  have hE:=SameI_eq N p p' hN hl
  try simp only
  by_cases h1:k=k'
  case neg=>simp only[decide_true,decide_false,cnd_t,cnd_f,obind_s,Prod.mk.injEq,h1,false_and,and_false,true_and]
  subst h1
  by_cases h2:f=f'
  case neg=>simp only[decide_true,decide_false,cnd_t,cnd_f,obind_s,Prod.mk.injEq,h2,false_and,and_false,true_and]
  subst h2
  by_cases h3:t=t'
  case neg=>simp only[decide_true,decide_false,cnd_t,cnd_f,obind_s,Prod.mk.injEq,h3,false_and,and_false,true_and]
  subst h3
  by_cases h4:i=i'
  case neg=>simp only[decide_true,decide_false,cnd_t,cnd_f,obind_s,Prod.mk.injEq,h4,false_and,and_false,true_and]
  subst h4
  by_cases h5:e=e'
  case neg=>simp only[decide_true,decide_false,cnd_t,cnd_f,obind_s,Prod.mk.injEq,h5,false_and,and_false,true_and]
  subst h5
  by_cases h6:a=a'
  case neg=>simp only[decide_true,decide_false,cnd_t,cnd_f,obind_s,Prod.mk.injEq,h6,false_and,and_false,true_and]
  subst h6
  by_cases h8:lo=lo'
  case neg=>simp only[decide_true,decide_false,cnd_t,cnd_f,obind_s,Prod.mk.injEq,h8,false_and,and_false,true_and]
  subst h8
  by_cases h9:hi=hi'
  case neg=>simp only[decide_true,decide_false,cnd_t,cnd_f,obind_s,Prod.mk.injEq,h9,false_and,and_false,true_and]
  subst h9
  by_cases h10:s=s'
  case neg=>
    have:(s==s')=false:=by simpa using h10
    simp only[decide_true,decide_false,cnd_t,cnd_f,obind_s,Prod.mk.injEq,h10,this,false_and,and_false,true_and]
  subst h10
  simp only[decide_true,beq_self_eq_true,cnd_t,obind_s,hE,Prod.mk.injEq,true_and,and_true]
open Classical in
theorem rMay_all (N:Nat) (hN:12≤N) (m:Ms) (hS:∀x:Ms,x.2.2.2.2.2.2.1.length≤m.2.2.2.2.2.2.1.length→W_ag N (x,m)=some (decide (x=m))):W_2 N m=some (decide (MayP m)):=by
  obtain⟨k,f,t,i,e,a,p,lo,hi,s⟩:=m
  have hM:=rMay_eq_2 N p hN
  have hq:∀v,W_ai N v=some (decide (0≤v∧v≤1000000)):=fun v=>by
    unfold W_ai V_ai
    by_cases h:0≤v
    · simp only[h,decide_true,cnd_t,true_and]
    · simp only[h,decide_false,cnd_f,false_and]
  have hsp:W_j N (lo,hi)=some (decide ((1≤lo∧lo≤hi)∧hi≤1000000)):=by
    unfold W_j V_j
    try simp only
    by_cases h:1≤lo
    · simp only[h,decide_true,cnd_t,obind_s,true_and]
      by_cases h2:lo≤hi
      · simp only[h2,decide_true,cnd_t,true_and]
      · simp only[h2,decide_false,cnd_f,false_and]
    · simp only[h,decide_false,cnd_f,obind_s,false_and]
  simp only at hS
  by_cases g1:(1≤k∧k≤9)∧(1≤f∧f≤8)∧(1≤t∧t≤8)∧f≠t∧(1≤i∧i≤1073741824)
  case neg=>
    have hno:¬MayP (k,f,t,i,e,a,p,lo,hi,s):=fun h=>g1 ⟨h.1,h.2.1,h.2.2.1,h.2.2.2.1,h.2.2.2.2.1⟩
    rw[dF hno]
    unfold W_2 V_2
    try simp only
    by_cases a1:k<1
    · simp only[a1,decide_true,cnd_t,obind_s]
    simp only[a1,decide_false,cnd_f,obind_s]
    by_cases a2:9<k
    · simp only[a2,decide_true,cnd_t,obind_s]
    simp only[a2,decide_false,cnd_f,obind_s]
    by_cases a3:f<1
    · simp only[a3,decide_true,cnd_t,obind_s]
    simp only[a3,decide_false,cnd_f,obind_s]
    by_cases a4:8<f
    · simp only[a4,decide_true,cnd_t,obind_s]
    simp only[a4,decide_false,cnd_f,obind_s]
    by_cases a5:t<1
    · simp only[a5,decide_true,cnd_t,obind_s]
    simp only[a5,decide_false,cnd_f,obind_s]
    by_cases a6:8<t
    · simp only[a6,decide_true,cnd_t,obind_s]
    simp only[a6,decide_false,cnd_f,obind_s]
    by_cases a7:f=t
    · simp only[a7,decide_true,cnd_t,obind_s]
    simp only[a7,decide_false,cnd_f,obind_s]
    by_cases a8:i<1
    · simp only[a8,decide_true,cnd_t,obind_s]
    simp only[a8,decide_false,cnd_f,obind_s]
    have a9:1073741824<i:=by
      apply Classical.byContradiction
      intro a9
      exact g1 ⟨by omega,by omega,by omega,a7,by omega⟩
    simp only[a9,decide_true,cnd_t]
  have hbase:MayP (k,f,t,i,e,a,p,lo,hi,s)↔((k,f,t,i,e,a,p,lo,hi,s)=ownF (k,f,t,i,e,a,p,lo,hi,s)∧Fits (k,f,t,i,e,a,p,lo,hi,s)):=⟨fun h=>h.2.2.2.2.2,fun h=>⟨g1.1,g1.2.1,g1.2.2.1,g1.2.2.2.1,g1.2.2.2.2,h⟩⟩
  have a1:¬k<1:=by omega
  have a2:¬9<k:=by omega
  have a3:¬f<1:=by omega
  have a4:¬8<f:=by omega
  have a5:¬t<1:=by omega
  have a6:¬8<t:=by omega
  have a7:¬f=t:=g1.2.2.2.1
  have a8:¬i<1:=by omega
  have a9:¬1073741824<i:=by omega
  unfold W_2 V_2
  simp only[a1,a2,a3,a4,a5,a6,a7,a8,a9,decide_false,cnd_f,obind_s]
  rw[show decide (MayP (k,f,t,i,e,a,p,lo,hi,s))=decide ((k,f,t,i,e,a,p,lo,hi,s)=ownF (k,f,t,i,e,a,p,lo,hi,s)∧Fits (k,f,t,i,e,a,p,lo,hi,s)) from decide_eq_decide.2 hbase]
  clear hbase
  have fin:∀(x:Ms),x.2.2.2.2.2.2.1.length≤p.length→ownF (k,f,t,i,e,a,p,lo,hi,s)=x→(x=(k,f,t,i,e,a,p,lo,hi,s)→Fits (k,f,t,i,e,a,p,lo,hi,s))→(obind (W_ag N (x,(k,f,t,i,e,a,p,lo,hi,s))) fun(b:Bool)=>some b)=some (decide ((k,f,t,i,e,a,p,lo,hi,s)=ownF (k,f,t,i,e,a,p,lo,hi,s)∧Fits (k,f,t,i,e,a,p,lo,hi,s))):=by
    intro x hx ho hf
    rw[hS x hx,obind_s,ho]
    exact congrArg some (decide_eq_decide.2 ⟨fun q=>⟨q.symm,hf q⟩,fun q=>q.1.symm⟩)
  have nof:¬Fits (k,f,t,i,e,a,p,lo,hi,s)→some false=some (decide ((k,f,t,i,e,a,p,lo,hi,s)=ownF (k,f,t,i,e,a,p,lo,hi,s)∧Fits (k,f,t,i,e,a,p,lo,hi,s))):=fun h=>congrArg some (dF (fun q=>h q.2)).symm
  by_cases k2:k=2
  · have ho:ownF (k,f,t,i,e,a,p,lo,hi,s)=(k,f,t,i,e,a,p,lo,0,[]):=by unfold ownF;simp only;rw[if_pos k2]
    have hF:Fits (k,f,t,i,e,a,p,lo,hi,s)↔(0≤e∧e≤1073741824)∧(0≤a∧a≤1073741824)∧VP p∧(0≤lo∧lo≤1000000)∧(0≤hi∧hi≤1000000):=by unfold Fits;simp only;rw[if_pos (.inl k2)]
    subst k2
    simp only[Int.reduceEq,decide_true,decide_false,cnd_t,cnd_f,obind_s]
    by_cases b1:0≤e
    case neg=>
      simp only[b1,decide_false,cnd_t,cnd_f,obind_s]
      exact nof (fun q=>b1 (hF.1 q).1.1)
    simp only[b1,decide_true,cnd_t,obind_s]
    by_cases b2:e≤1073741824
    case neg=>
      simp only[b2,decide_false,cnd_t,cnd_f,obind_s]
      exact nof (fun q=>b2 (hF.1 q).1.2)
    simp only[b2,decide_true,cnd_t,obind_s]
    by_cases b3:0≤a
    case neg=>
      simp only[b3,decide_false,cnd_t,cnd_f,obind_s]
      exact nof (fun q=>b3 (hF.1 q).2.1.1)
    simp only[b3,decide_true,cnd_t,obind_s]
    by_cases b4:a≤1073741824
    case neg=>
      simp only[b4,decide_false,cnd_t,cnd_f,obind_s]
      exact nof (fun q=>b4 (hF.1 q).2.1.2)
    simp only[b4,decide_true,cnd_t,obind_s,hM]
    by_cases b5:VP p
    case neg=>
      simp only[b5,decide_false,cnd_t,cnd_f,obind_s]
      exact nof (fun q=>b5 (hF.1 q).2.2.1)
    simp only[b5,decide_true,cnd_t,obind_s,hq]
    by_cases b6:0≤lo∧lo≤1000000
    case neg=>
      simp only[b6,decide_false,cnd_t,cnd_f,obind_s]
      exact nof (fun q=>b6 (hF.1 q).2.2.2.1)
    simp only[b6,and_self,decide_true,cnd_t,obind_s]
    refine fin (2,f,t,i,e,a,p,lo,0,[]) (Nat.le_refl _) ho (fun q=>hF.2 ⟨⟨b1,b2⟩,⟨b3,b4⟩,b5,b6,?_⟩)
    simp only[Prod.mk.injEq] at q
    omega
  by_cases k5:k=5
  · have ho:ownF (k,f,t,i,e,a,p,lo,hi,s)=(k,f,t,i,e,a,p,0,hi,[]):=by unfold ownF;simp only;rw[if_neg k2,if_pos k5]
    have hF:Fits (k,f,t,i,e,a,p,lo,hi,s)↔(0≤e∧e≤1073741824)∧(0≤a∧a≤1073741824)∧VP p∧(0≤lo∧lo≤1000000)∧(0≤hi∧hi≤1000000):=by unfold Fits;simp only;rw[if_pos (.inr k5)]
    subst k5
    simp only[Int.reduceEq,decide_true,decide_false,cnd_t,cnd_f,obind_s]
    by_cases b1:0≤e
    case neg=>
      simp only[b1,decide_false,cnd_t,cnd_f,obind_s]
      exact nof (fun q=>b1 (hF.1 q).1.1)
    simp only[b1,decide_true,cnd_t,obind_s]
    by_cases b2:e≤1073741824
    case neg=>
      simp only[b2,decide_false,cnd_t,cnd_f,obind_s]
      exact nof (fun q=>b2 (hF.1 q).1.2)
    simp only[b2,decide_true,cnd_t,obind_s]
    by_cases b3:0≤a
    case neg=>
      simp only[b3,decide_false,cnd_t,cnd_f,obind_s]
      exact nof (fun q=>b3 (hF.1 q).2.1.1)
    simp only[b3,decide_true,cnd_t,obind_s]
    by_cases b4:a≤1073741824
    case neg=>
      simp only[b4,decide_false,cnd_t,cnd_f,obind_s]
      exact nof (fun q=>b4 (hF.1 q).2.1.2)
    simp only[b4,decide_true,cnd_t,obind_s,hM]
    by_cases b5:VP p
    case neg=>
      simp only[b5,decide_false,cnd_t,cnd_f,obind_s]
      exact nof (fun q=>b5 (hF.1 q).2.2.1)
    simp only[b5,decide_true,cnd_t,obind_s,hq]
    by_cases b6:0≤hi∧hi≤1000000
    case neg=>
      simp only[b6,decide_false,cnd_t,cnd_f,obind_s]
      exact nof (fun q=>b6 (hF.1 q).2.2.2.2)
    simp only[b6,and_self,decide_true,cnd_t,obind_s]
    refine fin (5,f,t,i,e,a,p,0,hi,[]) (Nat.le_refl _) ho (fun q=>hF.2 ⟨⟨b1,b2⟩,⟨b3,b4⟩,b5,?_,b6⟩)
    simp only[Prod.mk.injEq] at q
    omega
  by_cases k7:k=7
  · have ho:ownF (k,f,t,i,e,a,p,lo,hi,s)=(k,f,t,i,0,0,[],lo,0,s):=by unfold ownF;simp only;rw[if_neg k2,if_neg k5,if_pos k7]
    have hF:Fits (k,f,t,i,e,a,p,lo,hi,s)↔(1≤lo∧lo≤1000000)∧(s.length:Int)≤12:=by unfold Fits;simp only;rw[if_neg (fun q=>q.elim k2 k5),if_pos k7]
    subst k7
    simp only[Int.reduceEq,decide_true,decide_false,cnd_t,cnd_f,obind_s]
    by_cases b1:1≤lo
    case neg=>
      simp only[b1,decide_false,cnd_t,cnd_f,obind_s]
      exact nof (fun q=>b1 (hF.1 q).1.1)
    simp only[b1,decide_true,cnd_t,obind_s,hq]
    by_cases b2:0≤lo∧lo≤1000000
    case neg=>
      simp only[b2,decide_false,cnd_t,cnd_f,obind_s]
      exact nof (fun q=>b2 ⟨by omega,(hF.1 q).1.2⟩)
    simp only[b2,and_self,decide_true,cnd_t,obind_s]
    by_cases b3:(s.length:Int)≤12
    case neg=>
      simp only[b3,decide_false,cnd_t,cnd_f,obind_s]
      exact nof (fun q=>b3 (hF.1 q).2)
    simp only[b3,decide_true,cnd_t,obind_s]
    exact fin (7,f,t,i,0,0,[],lo,0,s) (Nat.zero_le _) ho (fun _=>hF.2 ⟨⟨b1,b2.2⟩,b3⟩)
  by_cases k8:k=8∨k=9
  · have ho:ownF (k,f,t,i,e,a,p,lo,hi,s)=(k,f,t,i,0,0,[],lo,hi,[]):=by unfold ownF;simp only;rw[if_neg k2,if_neg k5,if_neg k7,if_pos k8]
    have hF:Fits (k,f,t,i,e,a,p,lo,hi,s)↔(1≤lo∧lo≤hi)∧hi≤1000000:=by unfold Fits;simp only;rw[if_neg (fun q=>q.elim k2 k5),if_neg k7,if_pos k8]
    have e8:(cnd (decide (k=8)) (some true) (some (decide (k=9))):Option Bool)=some true:=by
      rcases k8 with q | q
      · rw[dT q,cnd_t]
      · rw[dF (by omega),cnd_f,dT q]
    simp only[k2,k5,k7,decide_false,cnd_f,obind_s]
    have two:∀{α:Type} (g:Bool→α),cnd (decide (k=8)) (some (g (decide (k=8)))) (some (g (decide (k=9))))=some (g true):=by
      intro α g
      rcases k8 with q | q
      · rw[dT q,cnd_t]
      · rw[dF (show ¬k=8 by omega),cnd_f,dT q]
    rw[two (fun c=>(c,(k,f,t,i,e,a,p,lo,hi,s),k,f,t,i,(0:Int),(0:Int),([]:List Int),(0:Int),(0:Int),([]:List UInt8))),obind_s]
    simp only[cnd_t,hsp,obind_s]
    by_cases b1:(1≤lo∧lo≤hi)∧hi≤1000000
    case neg=>
      simp only[b1,decide_false,cnd_f]
      exact nof (fun q=>b1 (hF.1 q))
    simp only[b1,and_self,decide_true,cnd_t]
    exact fin (k,f,t,i,0,0,[],lo,hi,[]) (Nat.zero_le _) ho (fun _=>hF.2 b1)
  · have ho:ownF (k,f,t,i,e,a,p,lo,hi,s)=(k,f,t,i,0,0,[],0,0,[]):=by unfold ownF;simp only;rw[if_neg k2,if_neg k5,if_neg k7,if_neg k8]
    have hF:Fits (k,f,t,i,e,a,p,lo,hi,s):=by unfold Fits;simp only;rw[if_neg (fun q=>q.elim k2 k5),if_neg k7,if_neg k8];trivial
    have n8:¬k=8:=fun q=>k8 (.inl q)
    have n9:¬k=9:=fun q=>k8 (.inr q)
    simp only[k2,k5,k7,n8,n9,decide_false,cnd_f,cnd_t,obind_s]
    exact fin (k,f,t,i,0,0,[],0,0,[]) (Nat.zero_le _) ho (fun _=>hF)
theorem numLoop3 (l:List Int) (m:Ms) {f:Int×Ms×List Int→Option ((Int×Ms×List Int)⊕(Ms×List Int))} (hr:∀v∈l,0≤v∧v≤1073741824) (h0:∀b,f ((l.length:Int),m,b)=some (.inr (m,b)))
    (h1:∀(i:Nat) b,i<l.length→b.length≤1000→f ((i:Int),m,b)=some (.inl ((i:Int)+1,m,b++enc (l.getD i 0)))):
    ∀(k i M:Nat) (b:List Int),i+k=l.length→k<M→b.length+5*k≤1000→loopN M f ((i:Int),m,b)=some (m,b++(l.drop i).flatMap enc)
  | 0,i,0,b,_,hM,_=>by omega
  | 0,i,M+1,b,hi,_,_=>by
    have:i=l.length:=by omega
    subst this
    simp only[loopN,h0,List.drop_length,List.flatMap_nil,List.append_nil]
  | k+1,i,0,b,_,hM,_=>by omega
  | k+1,i,M+1,b,hi,hM,hb=>by
    have hil:i<l.length:=by omega
    have e:l.getD i 0=l[i]:=by rw[List.getD_eq_getElem?_getD,List.getElem?_eq_getElem hil];rfl
    have hv:=hr l[i] (List.getElem_mem hil)
    have he:=(enc_U8 hv.1 hv.2).2.1
    simp only[loopN,h1 i b hil (by omega)]
    rw[show (i:Int)+1=((i+1:Nat):Int) by omega,numLoop3 l m hr h0 h1 k (i+1) M _ (by omega) (by omega) (by rw[List.length_append,e];omega),List.append_assoc,e,List.drop_eq_getElem_cons hil,List.flatMap_cons]
open Classical in
def pm (m:Ms):List Int:=if MayP m then bd m++sm (bd m) else []
theorem pm_U8 (m:Ms):U8 (pm m):=by
  unfold pm
  split
  · rename_i h;exact U8_app (bd_U8 h.rg).1 (sm_U8 _)
  · intro n hn;simp at hn
open Classical in
theorem rPut_eq_2 (N:Nat) (hN:1000≤N) (m:Ms) (hM:W_2 N m=some (decide (MayP m))):W_y N m=some (pm m):=by
  obtain⟨k,f,t,i,e,a,p,lo,hi,s⟩:=m
  unfold W_y V_y pm
  try simp only
  rw[hM,obind_s]
  by_cases h:MayP (k,f,t,i,e,a,p,lo,hi,s)
  case neg=>rw[dF h,Bool.not_false,cnd_t,if_neg h]
  have hg:=h.rg
  have q1:=flat_U8 hg.r7
  have q2:=flat_U8 hg.p
  have q3:=flat_U8 hg.r2
  have hp:=hg.pl
  have hs:=hg.s
  have hB:=bd_U8 hg
  have l1:=q1.2;have l2:=q2.2;have l3:=q3.2
  have r7:=hg.r7;have rp:=hg.p;have r2:=hg.r2
  simp only[List.length_cons,List.length_nil] at l1 l2 l3 hp hs
  simp only at r7 rp r2
  rw[dT h,Bool.not_true,cnd_f,if_pos h]
  obtain⟨L,hL⟩:∃L,L=[k,f,t,i,e,a,(p.length:Int)]++p++[lo,hi]:=⟨_,rfl⟩
  have hLl:L.length=9+p.length:=by rw[hL];simp only[List.length_append,List.length_cons,List.length_nil];omega
  have hLr:∀v∈L,0≤v∧v≤1073741824:=by
    intro v hv
    rw[hL] at hv
    rcases List.mem_append.1 hv with hv | hv
    · rcases List.mem_append.1 hv with hv | hv
      · exact r7 v hv
      · exact rp v hv
    · exact r2 v hv
  have hLf:L.flatMap enc=[k,f,t,i,e,a,(p.length:Int)].flatMap enc++p.flatMap enc++[lo,hi].flatMap enc:=by rw[hL,List.flatMap_append,List.flatMap_append]
  rw[cnd_T (by simp only[List.length_cons,List.length_nil];omega),cnd_T (by simp only[List.length_append,List.length_cons,List.length_nil];omega),←hL]
  rw[show ((0:Int),(k,f,t,i,e,a,p,lo,hi,s),([]:List Int))=(((0:Nat):Int),(k,f,t,i,e,a,p,lo,hi,s),[]) from rfl,numLoop3 L (k,f,t,i,e,a,p,lo,hi,s) hLr _ _ L.length 0 N [] (by omega) (by omega) (by simp;omega),obind_s,List.drop_zero,List.nil_append]
  rotate_left
  · intro b
    try simp only
    rw[dF (by omega),cnd_f]
  · intro i b hi hb
    have ee:L.getD i 0=L[i]:=by rw[List.getD_eq_getElem?_getD,List.getElem?_eq_getElem hi];rfl
    have hv:=hLr L[i] (List.getElem_mem hi)
    try simp only
    rw[dT (by omega),cnd_t,dT (by omega),Bool.and_self,cnd_t,Int.toNat_natCast,PutNum_eq N (by omega) b _ hb (by rw[ee];exact hv.1) (by rw[ee];exact hv.2),obind_s,wr_m (by omega) (by omega)]
  try simp only
  rw[rPutText_eq N (by omega) _ s (by rw[hLf];simp only[List.length_append];omega) (by omega),obind_s]
  have eb:bd (k,f,t,i,e,a,p,lo,hi,s)=L.flatMap enc++enc s.length++by8 s:=by rw[hLf];rfl
  rw[←eb,rSum_eq N _ (by omega) (by omega) (by omega) hB.1,obind_s]
  have es:∀b:List Int,[wr IntKind.u8 (Int.fdiv (X (IntKind.max .u32) (fold 4294967295 b)) ((2:Int) ^ (24:Nat))),wr IntKind.u8 (Int.fdiv (X (IntKind.max .u32) (fold 4294967295 b)) ((2:Int) ^ (16:Nat))),wr IntKind.u8 (Int.fdiv (X (IntKind.max .u32) (fold 4294967295 b)) ((2:Int) ^ (8:Nat))),wr IntKind.u8 (X (IntKind.max .u32) (fold 4294967295 b))]=sm b:=by
    intro b
    rw[wr_u8m,wr_u8m,wr_u8m,wr_u8m,Int.fdiv_eq_ediv_of_nonneg _ (by decide),Int.fdiv_eq_ediv_of_nonneg _ (by decide),Int.fdiv_eq_ediv_of_nonneg _ (by decide)]
    rfl
  rw[es,cnd_T (by have:(sm (bd (k,f,t,i,e,a,p,lo,hi,s))).length=4:=rfl;omega)]
theorem rrn_bad (N:Nat) (hN:1000≤N) {b:List Int} (hb:b.length≤900) (hU:U8 b):W_q N (b,true)=some (0,b,true):=by
  unfold W_q V_q
  try simp only
  rw[TakeNum_eq N (by omega) b (by omega) hU,obind_s]
  cases (tk (rd b 0 0 1)).2.2<;>rfl
theorem rrn_eq (N:Nat) (hN:1000≤N) {b:List Int} (hb:b.length≤900) (hU:U8 b):W_q N (b,false)=some (match rd b 0 0 1 with
    | some (v,n)=>(v,b.drop n.toNat,false)
    | none=>(0,b,true)):=by
  unfold W_q V_q
  have ht:=TakeNum_eq N (by omega) b (by omega) hU
  try simp only
  cases hr:rd b 0 0 1 with
  | none=>
    rw[hr] at ht
    replace ht:W_x N b=some (0,0,false):=ht
    rw[ht,obind_s]
    rfl
  | some p=>
    obtain⟨v,n⟩:=p
    obtain⟨g1,g2,g3,g4,g5⟩:=rd_rng _ 0 0 1 v n hU (by omega) (by omega) hr
    rw[hr] at ht
    replace ht:W_x N b=some (v,n,true):=ht
    rw[ht,obind_s]
    simp only[Bool.not_true,cnd_f,obind_s]
    rw[dT (by omega),dT (by omega),Bool.and_self,cnd_t,List.take_length]
theorem rrn_put (N:Nat) (hN:1000≤N) {r:List Int} {v:Int} (hv:0≤v∧v≤1073741824) (hb:(enc v++r).length≤900) (hU:U8 (enc v++r)):W_q N (enc v++r,false)=some (v,r,false)∧r.length≤900∧U8 r:=by
  have h:=rrn_eq N hN hb hU
  rw[rd_put hv.1 hv.2] at h
  rw[h]
  simp only[Int.toNat_natCast,List.drop_left]
  rw[List.length_append] at hb
  exact⟨trivial,by omega,fun n hn=>hU n (List.mem_append_right _ hn)⟩
theorem rrt_put (N:Nat) (hN:1000≤N) {s:List UInt8} (hs:s.length≤200):W_6 N (enc s.length++by8 s,false)=some (s,[],false):=by
  have he:=enc_U8 (v:=(s.length:Int)) (by omega) (by omega)
  have hU:U8 (enc s.length++by8 s):=U8_app he.1 (by8_U8 s)
  have hl:(enc s.length++by8 s).length≤300:=by simp only[List.length_append,by8,List.length_map];omega
  have ht:=rTakeText_eq N (by omega) (enc s.length++by8 s) (by omega) hU
  have h2:=tt_put s [] hs
  rw[List.append_nil] at h2
  rw[h2] at ht
  unfold W_6 V_6
  try simp only
  rw[ht,obind_s]
  simp only[Bool.not_true,cnd_f,obind_s]
  rw[dT (by omega),dT (by omega),Bool.and_self,cnd_t,List.take_length,Int.toNat_natCast,List.drop_length]
theorem rrn_tot (N:Nat) (hN:1000≤N) {b:List Int} (c:Bool) (hb:b.length≤900) (hU:U8 b):∃v b' c',W_q N (b,c)=some (v,b',c')∧b'.length≤b.length∧U8 b'∧(c'=false→c=false∧b'.length<b.length)∧0≤v∧v≤1073741824:=by
  cases c with
  | true=>exact⟨_,_,_,rrn_bad N hN hb hU,Nat.le_refl _,hU,fun q=>by (cases q),by omega,by omega⟩
  | false=>
    have h:=rrn_eq N hN hb hU
    cases hr:rd b 0 0 1 with
    | none=>rw[hr] at h;exact⟨_,_,_,h,Nat.le_refl _,hU,fun q=>by (cases q),by omega,by omega⟩
    | some p=>
      obtain⟨v,n⟩:=p
      obtain⟨g1,g2,g3,g4,g5⟩:=rd_rng _ 0 0 1 v n hU (by omega) (by omega) hr
      rw[hr] at h
      exact⟨_,_,_,h,by rw[List.length_drop];omega,U8_drop hU _,fun _=>⟨rfl,by rw[List.length_drop];omega⟩,g1,g2⟩
theorem rrt_tot (N:Nat) (hN:1000≤N) {b:List Int} (c:Bool) (hb:b.length≤900) (hU:U8 b):∃s b' c',W_6 N (b,c)=some (s,b',c')∧s.length≤b.length:=by
  have ht:=rTakeText_eq N (by omega) b (by omega) hU
  unfold W_6 V_6
  try simp only
  unfold tt at ht
  cases hr:rd b 0 0 1 with
  | none=>
    rw[hr] at ht
    simp only at ht
    rw[ht,obind_s]
    exact⟨_,_,_,rfl,Nat.zero_le _⟩
  | some p=>
    obtain⟨v,n⟩:=p
    obtain⟨g1,g2,g3,g4,g5⟩:=rd_rng _ 0 0 1 v n hU (by omega) (by omega) hr
    rw[hr] at ht
    simp only at ht
    split at ht
    · rw[ht,obind_s]
      exact⟨_,_,_,rfl,Nat.zero_le _⟩
    · rw[ht,obind_s]
      simp only[Bool.not_true,cnd_f,obind_s]
      cases c with
      | true=>rw[cnd_t];exact⟨_,_,_,rfl,Nat.zero_le _⟩
      | false=>
        rw[cnd_f,dT (by omega),dT (by omega),Bool.and_self,cnd_t]
        refine⟨_,_,_,rfl,?_⟩
        simp only[bytesI,List.length_map,List.length_drop,List.length_take]
        omega
abbrev Rs1:=List Int×Bool
def St1 (x:Rs1) (k f t i e a:Int) (p:List Int):Int×Int×Int×Int×Int×Int×Int×Int×List UInt8×List Int×Rs1×Int×Int×Int×Int×Int×Int×Int×Int×List UInt8×List Int:=
  (0,0,0,0,0,0,0,0,[],[],x,k,f,t,i,e,a,0,0,[],p)
open Classical in
theorem rMay_eq2 (N:Nat) (hN:1000≤N) (m:Ms) (hl:m.2.2.2.2.2.2.1.length≤900):W_2 N m=some (decide (MayP m)):=
  rMay_all N (by omega) m (fun x hx=>rSame_eq N x m (by omega) (by omega))
theorem rPut_eq2 (N:Nat) (hN:1000≤N) (m:Ms) (hl:m.2.2.2.2.2.2.1.length≤900):W_y N m=some (pm m):=rPut_eq_2 N hN m (rMay_eq2 N hN m hl)
open Classical in
theorem bytes_dec {a b:List Int} (ha:U8 a) (hb:U8 b):(bytesI a==bytesI b)=decide (a=b):=by
  by_cases c:a=b
  · subst c;rw[dT rfl,BEq.rfl]
  · rw[dF c]
    apply beq_eq_false_iff_ne.2
    intro q
    have q:=congrArg by8 q
    rw[by8_bytes ha,by8_bytes hb] at q
    exact c q
def zM:Ms:=(0,0,0,0,0,0,[],0,0,[])
open Classical in
theorem rTake_good (N:Nat) (hN:1000≤N) {m:Ms} (h:MayP m):W_8 N (bd m++sm (bd m))=some (true,m):=by
  have hg:=h.rg
  have hB:=bd_U8 hg
  have hU:=U8_app hB.1 (sm_U8 (bd m))
  have s4:(sm (bd m)).length=4:=rfl
  have hl:(bd m++sm (bd m)).length=(bd m).length+4:=by rw[List.length_append,s4]
  have hP:=rPut_eq2 N hN m (by have:=hg.pl;omega)
  have hpm:pm m=bd m++sm (bd m):=by unfold pm;rw[if_pos h]
  rw[hpm] at hP
  have hcut:(bd m++sm (bd m)).take (bd m).length=bd m:=List.take_left
  have hA:U8 (bd m)∧(bd m).length≤900:=⟨hB.1,by omega⟩
  have happ:=bd_app m []
  rw[List.append_nil] at happ
  generalize hc:bd m++sm (bd m)=c at *
  obtain⟨k,f,t,i,e,a,p,lo,hi,s⟩:=m
  have hp:=hg.pl
  have hs:=hg.s
  simp only at happ hp hs
  unfold W_8 V_8
  rw[dF (by omega),cnd_f,wr_m (by omega) (by omega),dT (by omega),dT (by omega),Bool.and_self,cnd_t,List.drop_zero,show ((c.length:Int)-4).toNat=(bd (k,f,t,i,e,a,p,lo,hi,s)).length by omega,hcut]
  rw[happ] at hA ⊢
  obtain⟨e1,l1,u1⟩:=rrn_put N hN hg.k hA.2 hA.1
  rw[e1,obind_s]
  try simp only
  obtain⟨e2,l2,u2⟩:=rrn_put N hN hg.f l1 u1
  rw[e2,obind_s]
  try simp only
  obtain⟨e3,l3,u3⟩:=rrn_put N hN hg.t l2 u2
  rw[e3,obind_s]
  try simp only
  obtain⟨e4,l4,u4⟩:=rrn_put N hN hg.i l3 u3
  rw[e4,obind_s]
  try simp only
  obtain⟨e5,l5,u5⟩:=rrn_put N hN hg.e l4 u4
  rw[e5,obind_s]
  try simp only
  obtain⟨e6,l6,u6⟩:=rrn_put N hN hg.a l5 u5
  rw[e6,obind_s]
  try simp only
  obtain⟨e7,l7,u7⟩:=rrn_put N hN (v:=(p.length:Int)) ⟨by omega,by omega⟩ l6 u6
  rw[e7,obind_s]
  try simp only
  refine loop_G (N:=N) (fun o=>o=some (true,k,f,t,i,e,a,p,lo,hi,s)) (fun j v=>v=(((p.length-j:Nat):Int),St1 ((p.drop j).flatMap enc++(enc lo++(enc hi++(enc (s.length:Int)++(by8 s++[])))),false) k f t i e a (p.take j))∧j≤p.length∧((p.drop j).flatMap enc++(enc lo++(enc hi++(enc (s.length:Int)++(by8 s++[]))))).length≤900∧U8 ((p.drop j).flatMap enc++(enc lo++(enc hi++(enc (s.length:Int)++(by8 s++[])))))) p.length
    (fun q=>q=St1 (enc lo++(enc hi++(enc (s.length:Int)++(by8 s++[]))),false) k f t i e a p∧(enc lo++(enc hi++(enc (s.length:Int)++(by8 s++[])))).length≤900∧U8 (enc lo++(enc hi++(enc (s.length:Int)++(by8 s++[]))))) ⟨rfl,by omega,l7,u7⟩ (by omega) ?_ (fun j v ⟨_,h,_⟩=>h) ?_
  · rintro q ⟨rfl,l8,u8⟩
    simp only[St1]
    obtain⟨e9,l9,u9⟩:=rrn_put N hN hg.lo l8 u8
    rw[e9,obind_s]
    try simp only
    obtain⟨e10,l10,u10⟩:=rrn_put N hN hg.hi l9 u9
    rw[e10,obind_s]
    try simp only
    rw[List.append_nil,rrt_put N hN (by omega),obind_s]
    try simp only
    rw[cnd_f,hP,obind_s,U8_all hU,cnd_t,cnd_t,BEq.rfl,Bool.not_true,cnd_f]
  · rintro j v ⟨rfl,hj,l8,u8⟩
    simp only[St1]
    by_cases c:j<p.length
    · left
      rw[List.drop_eq_getElem_cons c,List.flatMap_cons,List.append_assoc] at l8 u8 ⊢
      obtain⟨e9,l9,u9⟩:=rrn_put N hN (hg.p _ (List.getElem_mem c)) l8 u8
      rw[dT (by omega),cnd_t,Bool.not_false,cnd_t,e9,obind_s]
      try simp only
      refine⟨_,cnd_T (by simp only[List.length_cons,List.length_nil,List.length_take];omega),?_,by omega,l9,u9⟩
      rw[wr_m (by omega) (by omega),show ((p.length-j:Nat):Int)-1=((p.length-(j+1):Nat):Int) by omega,List.take_add_one,List.getElem?_eq_getElem c]
      rfl
    · right
      have ej:j=p.length:=by omega
      subst ej
      rw[dF (by omega),cnd_f]
      rw[List.drop_length] at l8 u8 ⊢
      refine⟨_,rfl,?_,l8,u8⟩
      rw[List.take_length]
      rfl
end
end Go.Proofs.YtigfokfefnomjaaGreat.truthAllX
