/- NodeDown: for all arguments the call returns true. The law is brought to a function of Lean's own (W_..) by the machine of the texts beside it, and that is reckoned; no condition. -/
import Derived.Test.YtgpgmncgbebgdaaGreatNodeDownP0
namespace Go.Proofs.YtgpgmncgbebgdaaGreat.nodeDownX
open Go.Abs Go.RowKit Go.ChangeShapes Go.WideShapes Go.ChangeAt
set_option maxRecDepth 100000
set_option linter.unusedVariables false
set_option linter.unusedSimpArgs false
noncomputable section
def Inn (f:Fd) (n:Int):Prop:=n<f.1∨(getF f.2.2.2.1 n).2=true
theorem goM_in (x:Int):∀(W:List It) (n:Int) (R:List It) (L:List Ev),(getF W x).2=true→x<(goM W n R L).2.1∨(getF (goM W n R L).2.2.2.1 x).2=true
  | [],n,R,L,h=>by simp[getF] at h
  | w::r,n,R,L,h=>by
    by_cases c:w.1=n
    · subst c
      rw[goM_eq]
      have hp:=(goM_pre r (w.1+1) (addR R w) (L++[(1,w.1,w.1,w.2,0)])).1
      simp only[getF] at h
      by_cases c2:w.1=x
      · left;simp only;omega
      · rw[if_neg c2] at h
        exact goM_in x r _ _ _ h
    · rw[goM_ne c];exact .inr h
theorem skR_in (hi why x:Int):∀(j:Nat) (n:Int) (R W:List It) (L:List Ev) (o:List Sp),(x<n∨(getF W x).2=true)→x<(skR hi why j n R W L o).2.1∨(getF (skR hi why j n R W L o).2.2.2.1 x).2=true
  | 0,n,R,W,L,o,h=>h
  | j+1,n,R,W,L,o,h=>by
    unfold skR
    split
    case isFalse=>exact h
    rename_i c
    cases W with
    | nil=>exact skR_in hi why x j _ _ _ _ _ (h.imp (fun q=>by omega) (fun q=>q))
    | cons w r=>
      try simp only
      split
      · split
        · have hp:=(goM_pre (w::r) w.1 R (L++[(2,n,w.1-1,[],why)])).1
          exact skR_in hi why x j _ _ _ _ _ (h.elim (fun q=>.inl (by omega)) (fun q=>goM_in x _ _ _ _ q))
        · have hp:=(goM_pre (w::r) n R L).1
          exact skR_in hi why x j _ _ _ _ _ (h.elim (fun q=>.inl (by omega)) (fun q=>goM_in x _ _ _ _ q))
      · exact skR_in hi why x j _ _ _ _ _ (h.imp (fun q=>by omega) (fun q=>q))
theorem Inn.knows {f:Fd} {n:Int} (h:Inn f n) (t:Int):Inn (knowsM f t) n:=by
  unfold knowsM;split<;>exact h
theorem Inn.goes {f:Fd} {n:Int} (h:Inn f n):Inn (goesM f).2 n:=by
  have hp:=(goM_pre f.2.2.2.1 f.1 f.2.2.1 f.2.2.2.2.1).1
  rcases h with q | q
  · exact .inl (by simp only[goesM];omega)
  · exact goM_in n _ _ _ _ q
theorem Inn.skips {f:Fd} {n:Int} (h:Inn f n) (hi why:Int):Inn (skipsM f hi why).2 n:=by
  unfold skipsM;split
  · exact h
  · exact skR_in hi why n _ _ _ _ _ _ h
theorem Inn.notes {f:Fd} {n:Int} (h:Inn f n) (lo hi:Int):Inn (notesM f lo hi) n:=by
  unfold notesM
  split
  · exact h
  try simp only
  split
  · exact h.knows hi
  · exact((h.knows hi).skips hi 1).goes
theorem insW_in (x:It) (n:Int):∀l,((getF l n).2=true∨n=x.1)→(getF (insW x l) n).2=true
  | [],h=>by
    simp only[getF] at h
    rcases h with h | h
    · cases h
    · simp[insW,getF,h]
  | w::r,h=>by
    simp only[insW]
    split
    · by_cases c:x.1=n
      · simp only[getF];rw[if_pos c]
      · simp only[getF];rw[if_neg c]
        rcases h with h | h
        · simp only[getF] at h;exact h
        · exact absurd h.symm c
    · by_cases c:w.1=n
      · simp only[getF];rw[if_pos c]
      · simp only[getF] at h ⊢
        rw[if_neg c] at h ⊢
        exact insW_in x n r h
theorem Inn.comes {f:Fd} {n:Int} (h:Inn f n) (x:It):Inn (comesM f x) n:=by
  unfold comesM
  split
  · exact h
  refine Inn.goes ?_
  rcases h.knows x.1 with q | q
  · exact .inl q
  · right
    try simp only
    unfold putM
    split
    · exact q
    · exact insW_in x n _ (.inl q)
theorem Ch.from:∀{L0 e:List Ev} {c n m:Int},Ch c L0 n→Ch c (L0++e) m→Ch n e m
  | [],e,c,n,m,h,h2=>by have h':c=n:=h;rw[←h'];exact h2
  | x::r,e,c,n,m,h,h2=>Ch.from (L0:=r) h.2.2 h2.2.2
theorem Ch.mem:∀{L:List Ev} {n m:Int},Ch n L m→∀e∈L,n≤e.2.1∧e.2.1≤e.2.2.1∧e.2.2.1<m
  | [],n,m,h,e,he=>by cases he
  | x::r,n,m,h,e,he=>by
    have h1:=h.1
    have h2:=h.2.1
    rcases List.mem_cons.1 he with rfl | he
    · have:=h.2.2.le
      exact⟨by omega,h2,by omega⟩
    · obtain⟨a,b,d⟩:=h.2.2.mem e he
      exact⟨by omega,b,d⟩
def Pc (R:List It) (n0 T:Int) (w:It):Prop:=(w.1<n0∨getF R w.1=(w.2,true))∧w.1≤T
def Qc (R:List It) (n0:Int) (e:Ev):Prop:=e.2.2.1<n0∨(e.1=1∧e.2.2.1=e.2.1∧getF R e.2.1=(e.2.2.2.1,true))∨(e.1=2∧∀n,e.2.1≤n→n≤e.2.2.1→(getF R n).2=false)
theorem hpc {R:List It} {n0 T:Int} (w:It) (h:Pc R n0 T w):Qc R n0 (1,w.1,w.1,w.2,0):=h.1.elim .inl (fun q=>.inr (.inl ⟨rfl,rfl,q⟩))
structure Cs (R:List It) (n0 T c:Int) (f0 f:Fd):Prop where
  fi:FI 200 c f
  fs:FS 200 f
  fa:FA (Pc R n0 T) (Qc R n0) f
  le:Le f0 f
  f1:1≤f.1
theorem Cs.comes {R:List It} {n0 T c:Int} {f0 f:Fd} (h:Cs R n0 T c f0 f) (x:It) (hx:getF R x.1=(x.2,true)) (hT:x.1≤T) (hK:x.1≤200):Cs R n0 T c f0 (comesM f x):=
  ⟨h.fi.comes x (fun _=>hK),FS.comes h.fi h.fs x (fun _=>hK),h.fa.comes hpc x (fun _=>⟨.inr hx,hT⟩),h.le.trans (comes_Le f x),by have:=(comes_Le f x).1;have:=h.f1;omega⟩
theorem Cs.notes {R:List It} {n0 T c:Int} {f0 f:Fd} (h:Cs R n0 T c f0 f) (a b:Int) (hK:b≤200) (hl:∀n,a≤n→n≤b→(getF R n).2=false):Cs R n0 T c f0 (notesM f a b):=
  ⟨h.fi.notes a b (fun _=>hK),FS.notes h.fi h.fs a b (fun _=>hK),h.fa.notes hpc a b (fun x y h1 h2 h3 h4=>.inr (.inr ⟨rfl,fun n q1 q2=>hl n (by simp only at q1;omega) (by simp only at q2;omega)⟩)),h.le.trans (notes_Le f a b),by have:=(notes_Le f a b).1;have:=h.f1;omega⟩
abbrev Tt:=Int×Int×Int×Int×Int×Int×List Int×Int×Int×Int×Int×Int×List (Int×Int×Int)
abbrev Nd:=Bool×Int×List UInt8×Tt×Fd×Int
def tnew (id inc grand:Int):Tt:=if id=1 then(id,inc,0,0,0,grand,[1],0,0,0,0,0,[]) else(id,inc,0,0,0,grand,[],0,0,0,0,0,[])
theorem rNewT (N:Nat) (id inc grand:Int):W_y N (id,inc,0,grand)=some (tnew id inc grand):=by
  unfold W_y V_y tnew
  try simp only
  by_cases c:id=1
  · rw[dT c,cnd_t,if_pos c]
  · rw[dF c,cnd_f,if_neg c]
theorem Tie_eqG (N:Nat) (hN:2000≤N) (s0:Int) (hs0:0≤s0∧s0≤10) (id:Int) (hi:1≤id∧id≤8) (l:List Int) (hl:l.length≤200) (hel:∀x∈l,0≤x∧x≤255):∃t n,W_be N (id,20,l,s0)=some ((l,n),t)∧Pt id 100 t∧0≤n∧n≤300:=by
  unfold W_be V_be
  try simp only
  obtain⟨now,n0,e0,z1,z2,z3,z4⟩:=Num_eq N 5 l s0 (by omega) (by omega) (by omega) hel
  rw[e0,obind_s]
  try simp only
  obtain⟨g,n1,e1,a1,a2,a3,a4⟩:=Num_eq N 4 l n0 (by omega) (by omega) (by omega) hel
  rw[e1,obind_s,rNew_eq,obind_s]
  try simp only
  have hT0:=new_TwN id g now hi ⟨a1,by omega⟩ ⟨by omega,by omega⟩
  have hP0:Pt id 10 (if id=1 then((id,2,now,0,0,g,[1],0,now,0,0,0,[]):TT) else(id,2,now,0,0,g,[],0,0,0,0,0,[])):=by
    refine⟨hT0,?_,?_⟩
    · split<;>exact fun e=>absurd rfl e
    · split<;>exact fun k hk=>by simp[kidsT] at hk
  obtain⟨t0,ht0⟩:∃t0,(if id=1 then((id,2,now,0,0,g,[1],0,now,0,0,0,[]):TT) else(id,2,now,0,0,g,[],0,0,0,0,0,[]))=t0:=⟨_,rfl⟩
  rw[ht0] at hP0
  rw[ht0]
  clear hT0 ht0
  refine loop_G (N:=N) (x:=(0,(l,n1),z0,t0)) (fun o=>∃t n,o=some ((l,n),t)∧Pt id 100 t∧0≤n∧n≤300) (fun k (v:Int×(List Int×Int)×TT×TT)=>∃n t,v=(↑k,(l,n),z0,t)∧k≤20∧(0≤n∧n≤300)∧Pt id (10+2*k) t) 20 (fun r:(List Int×Int)×TT×TT=>∃n t,r=((l,n),z0,t)∧Pt id 100 t∧0≤n∧n≤300) ⟨n1,t0,rfl,by omega,by omega,by simpa using hP0⟩ (by omega) ?_ (fun k v h=>by obtain⟨n,t,_,h,_⟩:=h;exact h) ?_
  · rintro r ⟨n,t,rfl,h⟩
    exact⟨t,n,rfl,h⟩
  rintro k v ⟨n,t,rfl,hk,hn,hP⟩
  have fin:Pt id 100 t∧0≤n∧n≤300:=⟨⟨hP.w.mono (by omega),hP.p,hP.k⟩,hn⟩
  try simp only
  by_cases c40:(k:Int)<20
  case neg=>right;rw[dF c40,cnd_f];exact⟨_,rfl,_,_,rfl,fin⟩
  rw[dT c40,cnd_t,Over_eq,obind_s]
  by_cases co:(l.length:Int)≤n
  · right
    rw[dT co,Bool.not_true,cnd_f]
    exact⟨_,rfl,_,_,rfl,fin⟩
  rw[dF co,Bool.not_false,cnd_t]
  left
  have hkb:∀q∈t.2.2.2.2.2.2.2.2.2.2.2.2,-1000000000≤q.2.2∧q.2.2≤1000000000:=fun q hq=>by have:=(hP.w.k q hq).2.2;omega
  have hab:0≤t.2.2.2.2.2.2.2.2.2.1∧t.2.2.2.2.2.2.2.2.2.1≤8:=hP.w.b.2.2.2.2.2.2.2.2.1
  obtain⟨b,n2,e2,b1,b2,b3,b4⟩:=Num_eq N 4 l n (by omega) (by omega) (by omega) hel
  rw[e2,obind_s]
  try simp only
  rw[wr_m (z:=(k:Int)+1) (by omega) (by omega)]
  by_cases b0:b=0
  · rw[dT b0,cnd_t,rTick_eq N hN t hP.w.b (by omega) hkb,obind_s]
    have:=hP.tick (by omega)
    exact⟨_,rfl,_,_,by rw[show ((k+1:Nat):Int)=k+1 by omega],by omega,by omega,by rw[show 10+2*((k+1:Nat):Int)=10+2*k+2 by omega];exact this⟩
  rw[dF b0,cnd_f]
  obtain⟨m,n3,e3,hm,hs,hto,hin,p1,p2⟩:=Msg_eqn N (by omega) id l n2 (by omega) (by omega) hi hel
  have hmb:=Mb.of hm hs
  have hmf:m.2.1≠id:=by rw[←hto];exact hm.2.2.2.1
  have hmi:1≤m.2.2.2.1:=hm.2.2.2.2.1.1
  have last:∀(w:Ms) (n':Int),Mb w→w.2.1≠id→1≤w.2.2.2.1→w.2.2.2.1≤3→0≤n'∧n'≤300→∃y,obind (W_ae N (t,w,(1:Int))) (fun(b:List Ms×TT)=>(some (Sum.inl ((k:Int)+1,(l,n'),z0,b.2)):Option ((Int×(List Int×Int)×TT×TT)⊕(List Int×Int)×TT×TT)))=some (.inl y)∧∃n t,y=(((k+1:Nat):Int),(l,n),z0,t)∧k+1≤20∧(0≤n∧n≤300)∧Pt id (10+2*((k+1:Nat):Int)) t:=by
    intro w n' w1 w2 w3 w4 hn'
    rw[rComes_eq N hN t hP.w.b (by omega) w w1 _,obind_s]
    have:=hP.comes (by omega) (by omega) w w1 w2 ⟨w3,w4⟩ 1 (by omega)
    exact⟨_,rfl,_,_,by rw[show ((k+1:Nat):Int)=k+1 by omega],by omega,hn',by rw[show 10+2*((k+1:Nat):Int)=10+2*k+2 by omega];exact this⟩
  by_cases c1:b=1
  · rw[dT c1,cnd_t,e3,obind_s]
    try simp only
    refine ob_exl (fun u:(List Int×Int)×TT×TT×Ms=>∃w n,u=((l,n),z0,t,w)∧(Mb w∧w.2.1≠id∧1≤w.2.2.2.1∧w.2.2.2.1≤3)∧0≤n∧n≤300) ?_ ?_
    · by_cases d0:t.2.2.2.2.2.2.2.2.2.1≠0
      · rw[dT d0,cnd_t]
        by_cases d1:t.2.2.2.2.2.2.2.2.2.1≠id
        · rw[dT d1,cnd_t]
          obtain⟨x5,n5,e5,f1,f2,f3,f4⟩:=Num_eq N 2 l n3 (by omega) (by omega) (by omega) hel
          rw[e5,obind_s]
          try simp only
          obtain⟨x6,n6,e6,g1,g2,g3,g4⟩:=Num_eq N 9 l n5 (by omega) (by omega) (by omega) hel
          rw[e6,obind_s]
          try simp only
          obtain⟨x7,n7,e7,h1,h2,h3,h4⟩:=Num_eq N 22 l n6 (by omega) (by omega) (by omega) hel
          rw[e7,obind_s]
          try simp only
          obtain⟨p,n8,e8,i1,i2,i3⟩:=Path_eq N l n7 (by omega) (by omega) (by omega) hel
          rw[e8,obind_s]
          try simp only
          obtain⟨x9,n9,e9,j1,j2,j3,j4⟩:=Num_eq N 4 l n8 (by omega) (by omega) (by omega) hel
          have hpl:=i1.2.1
          have hpl1:=i1.1
          rw[dT (show (0:Int)≤1 by omega),dT (show (1:Int)≤p.length by omega),Bool.and_self,cnd_t,path_back i1,cnd_T (by omega),e9,obind_s,wr_m (z:=1+x5) (by omega) (by omega),wr_m (z:=1+x9) (by omega) (by omega)]
          exact⟨_,rfl,_,_,rfl,⟨⟨⟨by simp only;omega,by simp only;omega⟩,⟨by simp only;omega,by simp only;omega⟩,⟨by simp only;omega,by simp only;omega⟩,by simp only;omega⟩,d1,by simp only;omega,by simp only;omega⟩,by omega⟩
        · rw[dF d1,cnd_f]
          exact⟨_,rfl,_,_,rfl,⟨hmb,hmf,hmi,hin⟩,by omega⟩
      · rw[dF d0,cnd_f]
        exact⟨_,rfl,_,_,rfl,⟨hmb,hmf,hmi,hin⟩,by omega⟩
    · rintro u ⟨w,n5,rfl,⟨w1,w2,w3,w4⟩,q1⟩
      exact last w n5 w1 w2 w3 w4 q1
  rw[dF c1,cnd_f]
  by_cases c2:b=2
  · rw[dT c2,cnd_t,e3,obind_s]
    try simp only
    refine ob_exl (fun u:(List Int×Int)×TT×TT×Ms=>∃w n,u=((l,n),z0,t,w)∧(Mb w∧w.2.1≠id∧1≤w.2.2.2.1∧w.2.2.2.1≤3)∧0≤n∧n≤300) ?_ ?_
    · by_cases d0:t.2.2.2.1≠0
      · rw[dT d0,cnd_t]
        obtain⟨x6,n6,e6,g1,g2,g3,g4⟩:=Num_eq N 30 l n3 (by omega) (by omega) (by omega) hel
        rw[e6,obind_s]
        try simp only
        obtain⟨x7,n7,e7,h1,h2,h3,h4⟩:=Num_eq N 20 l n6 (by omega) (by omega) (by omega) hel
        rw[e7,obind_s]
        try simp only
        obtain⟨p,n8,e8,i1,i2,i3⟩:=Path_eq N l n7 (by omega) (by omega) (by omega) hel
        rw[e8,obind_s]
        try simp only
        obtain⟨x9,n9,e9,j1,j2,j3,j4⟩:=Num_eq N 9 l n8 (by omega) (by omega) (by omega) hel
        rw[e9,obind_s]
        have hpl:=i1.2.1
        have hpp:=hP.w.p
        have hpi:=hP.p d0
        exact⟨_,rfl,_,_,rfl,⟨⟨⟨by simp only;omega,by simp only;omega⟩,⟨by simp only;omega,by simp only;omega⟩,⟨by simp only;omega,by simp only;omega⟩,by simp only;omega⟩,hpp.2,hpi.1,hpi.2⟩,by omega⟩
      · rw[dF d0,cnd_f]
        exact⟨_,rfl,_,_,rfl,⟨hmb,hmf,hmi,hin⟩,by omega⟩
    · rintro u ⟨w,n5,rfl,⟨w1,w2,w3,w4⟩,q1⟩
      exact last w n5 w1 w2 w3 w4 q1
  rw[dF c2,cnd_f,e3,obind_s]
  exact last m n3 hmb hmf hmi hin (by omega)
structure Fmg (s0:Int) (j:Nat) (K c:Int) (now n:Int) (f:Fd):Prop where
  n0:0≤n∧n≤s0+1+4*(j:Int)
  t0:0≤now∧now≤7*(j:Int)
  fi:FI K c f
  fs:FS K f
  ft:FT f
  f1:1≤f.1
theorem Text_eqF (N:Nat) (l:List Int) (n:Int) (hn:0≤n) (hn2:n≤1000) (hel:∀x∈l,0≤x∧x≤255):∃s n',W_w N (l,n)=some (s,l,n')∧n≤n'∧n'≤n+1∧s.length≤12:=by
  unfold W_w V_w
  try simp only
  obtain⟨k,n1,e1,a1,a2,a3,a4⟩:=Num_eq N 5 l n (by omega) hn (by omega) hel
  rw[e1,obind_s]
  try simp only
  rw[dT a1,cnd_t,dT (by omega),cnd_t]
  refine⟨_,_,rfl,a3,a4,?_⟩
  have:k=0∨k=1∨k=2∨k=3∨k=4:=by omega
  rcases this with q | q | q | q | q<;>rw[q]<;>decide
theorem Feed_FIG (N:Nat) (hN:2000≤N) (s0:Int) (hs0:0≤s0∧s0≤300) (l:List Int) (hel:∀x∈l,0≤x∧x≤255):∃f n' c,W_aX N (12,l,s0)=some ((l,n'),f)∧FI 200 c f∧FS 200 f∧FT f∧1≤f.1∧1≤c∧0≤n'∧n'≤400:=by
  unfold W_aX V_aX
  try simp only
  obtain⟨k,n1,e1,a1,a2,a3,a4⟩:=Num_eq N 5 l s0 (by omega) (by omega) (by omega) hel
  rw[e1,obind_s]
  try simp only
  have hB:=rBegin_eq N z7 (1+k) (fun q=>by simp[z7] at q)
  have eB:beginM z7 (1+k)=(1+k,0,[],[],[],0,0):=by
    unfold beginM
    rw[if_neg (by decide),if_pos ⟨by omega,by omega⟩]
    rfl
  rw[eB] at hB
  rw[wr_m (z:=1+k) (by omega) (by omega)]
  show ∃f n' c,obind (W_aE N (z7,1+k)) _=_∧_
  rw[hB,obind_s]
  refine loop_G (N:=N) (fun q=>∃f n' c,q=some ((l,n'),f)∧FI 200 c f∧FS 200 f∧FT f∧1≤f.1∧1≤c∧0≤n'∧n'≤400) (fun j (v:Int×Int×(List Int×Int)×Fd×Fd)=>v.2.1=j∧j≤12∧v.2.2.1.1=l∧Fmg s0 j (8+8*(j:Int)) (1+k) v.1 v.2.2.1.2 v.2.2.2.2) 12
    (fun r:(List Int×Int)×Fd×Fd=>r.1.1=l∧(0≤r.1.2∧r.1.2≤400)∧∃c,FI 200 c r.2.2∧FS 200 r.2.2∧FT r.2.2∧1≤r.2.2.1∧1≤c) ⟨rfl,by omega,rfl,⟨⟨by simp only;omega,by simp only;omega⟩,⟨by simp,by simp⟩,⟨by simp only;omega,⟨by simp,by simp⟩,fun _=>⟨⟨by simp only;omega,by simp only;omega⟩,trivial,by simp,trivial,rfl,by omega⟩,⟨by simp,by simp⟩,fun q=>by simp only at q;omega⟩,trivial,⟨fun x hx=>by simp at hx,fun x hx=>by simp at hx,fun x hx=>by simp at hx⟩,by simp only;omega⟩⟩ (by omega) ?_ (fun j v h=>h.2.1) ?_
  · rintro⟨⟨l',n'⟩,z,f⟩ ⟨rfl,hnn,c,h1,h2,h3,h4,h5⟩
    exact⟨_,_,c,rfl,h1,h2,h3,h4,h5,hnn⟩
  · rintro j ⟨now,i,⟨l',n'⟩,z,f⟩ ⟨e,hj,rfl,hS⟩
    obtain⟨hn,ht,hf,hs,hA,hf1⟩:=hS
    simp only at e hn ht hf hs hA hf1 ⊢
    subst e
    by_cases cj:(j:Int)<12
    case neg=>
      right
      rw[dF cj,cnd_f]
      exact⟨_,rfl,rfl,by simp only;omega,_,hf.mono (by omega),hs.mono (by omega),hA,hf1,by omega⟩
    have hov:W_3 N (l',n')=some (decide ((l'.length:Int)≤n'),l',n'):=rfl
    rw[dT cj,cnd_t,hov,obind_s]
    try simp only
    by_cases co:(l'.length:Int)≤n'
    · right
      rw[dT co,Bool.not_true,cnd_f]
      exact⟨_,rfl,rfl,by simp only;omega,_,hf.mono (by omega),hs.mono (by omega),hA,hf1,by omega⟩
    rw[dF co,Bool.not_false,cnd_t]
    left
    obtain⟨b,n2,e2,b1,b2,b3,b4⟩:=Num_eq N 6 l' n' (by omega) (by omega) (by omega) hel
    rw[e2,obind_s]
    try simp only
    have hnx:=hf.nx (by omega)
    have hf:=hf.mono (K':=8+8*((j+1:Nat):Int)) (by omega)
    have hs:=hs.mono (K':=8+8*((j+1:Nat):Int)) (by omega)
    rw[wr_m (z:=(j:Int)+1) (by omega) (by omega),show ((j:Int)+1)=((j+1:Nat):Int) by omega]
    have fin:∀(g:Fd) (t m:Int),FI (8+8*((j+1:Nat):Int)) (1+k) g→FS (8+8*((j+1:Nat):Int)) g→FT g→1≤g.1→0≤m∧m≤s0+1+4*((j+1:Nat):Int)→0≤t∧t≤7*((j+1:Nat):Int)→∃y:Int×Int×(List Int×Int)×Fd×Fd,(some (Sum.inl (t,((j+1:Nat):Int),(l',m),z,g)):Option ((Int×Int×(List Int×Int)×Fd×Fd)⊕((List Int×Int)×Fd×Fd)))=some (.inl y)∧y.2.1=((j+1:Nat):Int)∧j+1≤12∧y.2.2.1.1=l'∧Fmg s0 (j+1) (8+8*((j+1:Nat):Int)) (1+k) y.1 y.2.2.1.2 y.2.2.2.2:=by
      intro g t m h1 h2 h3 h4 h5 h6
      exact⟨_,rfl,rfl,by omega,rfl,h5,h6,h1,h2,h3,h4⟩
    by_cases k0:b=0
    · rw[dT k0,cnd_t]
      obtain⟨p,n3,e3,c1,c2,c3,c4⟩:=Num_eq N 3 l' n2 (by omega) (by omega) (by omega) hel
      obtain⟨q,n4,e4,d1,d2,d3,d4⟩:=Num_eq N 4 l' n3 (by omega) (by omega) (by omega) hel
      rw[e3,obind_s]
      try simp only
      rw[e4,obind_s]
      try simp only
      rw[wr_m (z:=f.1-1) (by omega) (by omega),wr_m (z:=f.1-1+p) (by omega) (by omega),wr_m (z:=max 1 (f.1-1+p)+q) (by omega) (by omega)]
      have g1:=rNotes_eq N hN hf (by omega) (max 1 (f.1-1+p)) (max 1 (f.1-1+p)+q) (fun _=>by omega)
      show ∃y,obind (W_aD N (f,_)) _=_∧_
      rw[g1,obind_s]
      exact fin _ _ _ (hf.notes _ _ (fun _=>by omega)) (hs.notes hf _ _ (fun _=>by omega)) (hA.notes FT.hpq _ _ (fun a b _ _ _ _=>.inr ⟨rfl,rfl,.inl rfl⟩)) (by have:=(notes_Le f (max 1 (f.1-1+p)) (max 1 (f.1-1+p)+q)).1;omega) (by omega) (by omega)
    rw[dF k0,cnd_f]
    by_cases k1:b=1
    · rw[dT k1,cnd_t]
      obtain⟨p,n3,e3,c1,c2,c3,c4⟩:=Num_eq N 5 l' n2 (by omega) (by omega) (by omega) hel
      rw[e3,obind_s]
      try simp only
      rw[wr_m (z:=f.1+p) (by omega) (by omega)]
      have g1:=rKnows_eq N f (f.1+p)
      show ∃y,obind (W_m N (f,_)) _=_∧_
      rw[g1,obind_s]
      exact fin _ _ _ (hf.knows _ (fun _=>by omega)).1 (hs.knows _) (hA.knows _) (by have:=(knows_Le f (f.1+p)).1;omega) (by omega) (by omega)
    rw[dF k1,cnd_f]
    by_cases k2:b=2
    · rw[dT k2,cnd_t]
      obtain⟨p,n3,e3,c1,c2,c3,c4⟩:=Num_eq N 6 l' n2 (by omega) (by omega) (by omega) hel
      rw[e3,obind_s]
      try simp only
      rw[wr_m (z:=now+1) (by omega) (by omega),wr_m (z:=now+1+p) (by omega) (by omega)]
      have g1:=rTick_eq_4 N hN hf (by omega) (now+1+p) (by omega) (by omega)
      show ∃y,obind (W_aI N (f,_)) _=_∧_
      rw[g1,obind_s]
      exact fin _ _ _ (hf.tick _) (hs.tick hf _) (hA.tick FT.hpq _ (fun _ a b _ _=>.inr ⟨rfl,rfl,.inr rfl⟩)) (by have:=(tick_Le f (now+1+p)).1;omega) (by omega) (by omega)
    rw[dF k2,cnd_f]
    obtain⟨p,n3,e3,c1,c2,c3,c4⟩:=Num_eq N 5 l' n2 (by omega) (by omega) (by omega) hel
    obtain⟨t,n4,e4,d3,d4,d5⟩:=Text_eqF N l' n3 (by omega) (by omega) hel
    rw[e3,obind_s]
    try simp only
    rw[e4,obind_s]
    try simp only
    rw[wr_m (z:=f.1-1) (by omega) (by omega),wr_m (z:=f.1-1+p) (by omega) (by omega)]
    have g1:=rComes_eq_4 N hN hf (by omega) (max 1 (f.1-1+p),t) (fun _=>by simp only;omega)
    show ∃y,obind (W_aF N (f,max 1 (f.1-1+p),t)) _=_∧_
    rw[g1,obind_s]
    exact fin _ _ _ (hf.comes _ (fun _=>by simp only;omega)) (hs.comes hf _ (fun _=>by simp only;omega)) (hA.comes FT.hpq _ (fun _=>d5)) (by have:=(comes_Le f (max 1 (f.1-1+p),t)).1;omega) (by omega) (by omega)
structure NP (id:Int) (n:Nd):Prop where
  on:n.1=true
  inc:1≤n.2.1∧n.2.1≤3
  t:∃t:TT,Pt id 100 t∧n.2.2.2.1=(t.1,n.2.1,t.2.2)
  f:n.2.2.2.2.1=z7∨∃c,FI 200 c n.2.2.2.2.1∧FS 200 n.2.2.2.2.1∧FT n.2.2.2.2.1∧1≤n.2.2.2.2.1.1∧1≤c
  b:n.2.2.2.2.2=0
  r:id=1→n.2.2.2.2.1=z7
theorem rName110 (M:Nat):W_bw (M+10) [(110:UInt8)]=some true:=by rfl
theorem rJoin110 (N:Nat) (hN:2000≤N) (a b id c:Int) (ha:0≤a∧a≤3) (hi:1≤id∧id≤8):W_a2 N ((false,a,[],((0:Int),(0:Int),(0:Int),(0:Int),(0:Int),(0:Int),[],(0:Int),(0:Int),(0:Int),(0:Int),(0:Int),[]),((0:Int),(0:Int),[],[],[],(0:Int),(0:Int)),b),id,[(110:UInt8)],c)=some (true,true,a+1,[(110:UInt8)],tnew id (a+1) c,z7,0):=by
  obtain⟨M,rfl⟩:∃M,N=M+10:=⟨N-10,by omega⟩
  unfold W_a2 V_a2
  try simp only
  rw[cnd_f,rName110,obind_s,obind_s]
  simp only[Bool.not_true,cnd_f,obind_s]
  rw[dF (show ¬id<1 by omega)]
  simp only[cnd_f,obind_s]
  rw[dF (show ¬8<id by omega)]
  simp only[cnd_f,obind_s]
  rw[dF (show ¬1073741824≤a by omega),cnd_f,wr_m (z:=a+1) (by omega) (by omega),rNewT,obind_s]
  rfl
theorem Pair_spec (N:Nat) (hN:2000≤N) (l:List Int) (hl:l.length≤150) (hel:∀x∈l,0≤x∧x≤255) (id:Int) (hi:1≤id∧id≤8):∃n:Nd,W_a4 N (l,id)=some n∧NP id n:=by
  unfold W_a4 V_a4
  try simp only
  have hM:W_4 N l=some (l,0):=rfl
  rw[hM,obind_s]
  obtain⟨a,n1,e1,a1,a2,a3,a4⟩:=Num_eq N 3 l 0 (by omega) (by omega) (by omega) hel
  rw[e1,obind_s]
  try simp only
  obtain⟨b,n2,e2,b1,b2,b3,b4⟩:=Num_eq N 3 l n1 (by omega) (by omega) (by omega) hel
  rw[e2,obind_s]
  try simp only
  obtain⟨c,n3,e3,c1,c2,c3,c4⟩:=Num_eq N 9 l n2 (by omega) (by omega) (by omega) hel
  rw[e3,obind_s]
  try simp only
  have hJ:=rJoin110 N hN a b id c (by omega) hi
  rw[hJ,obind_s]
  try simp only
  obtain⟨t,n4,e4,ht,d1,d2⟩:=Tie_eqG N hN n3 (by omega) id hi l (by omega) hel
  rw[e4,obind_s]
  try simp only
  have mk:∀F:Fd,(F=z7∨∃c,FI 200 c F∧FS 200 F∧FT F∧1≤F.1∧1≤c)→(id=1→F=z7)→NP id ((true,a+1,[(110:UInt8)],(t.1,a+1,t.2.2),F,0):Nd):=fun F hF h1=>
    ⟨rfl,⟨by simp only;omega,by simp only;omega⟩,⟨t,ht,rfl⟩,hF,rfl,h1⟩
  by_cases q1:id=1
  · rw[cnd_F (fun h=>h q1)]
    exact⟨_,rfl,mk z7 (.inl rfl) fun _=>rfl⟩
  rw[cnd_T q1]
  obtain⟨f,n5,c5,e5,f1,f2,f3,f4,f5,f6,f7⟩:=Feed_FIG N hN n4 ⟨d1,d2⟩ l hel
  rw[e5,obind_s]
  try simp only
  obtain⟨k,n6,e6,g1,g2,g3,g4⟩:=Num_eq N 5 l n5 (by omega) f6 (by omega) hel
  rw[e6,obind_s]
  try simp only
  by_cases q2:k=0
  · rw[cnd_T q2]
    exact⟨_,rfl,mk z7 (.inl rfl) fun q=>absurd q q1⟩
  · rw[cnd_F q2]
    exact⟨_,rfl,mk f (.inr ⟨c5,f1,f2,f3,f4,f5⟩) fun q=>absurd q q1⟩
theorem NP.tb {id:Int} {n:Nd} (h:NP id n):Tb 100 n.2.2.2.1:=by
  obtain⟨t,ht,e⟩:=h.t
  rw[e]
  obtain⟨a1,a2,a3,a4,a5,a6,p,a8,a9,a10,a11,a12,k⟩:=t
  exact ht.w.b
theorem NP.twin (N:Nat) {id:Int} {n:Nd} (h:NP id n):W_o N n=some n:=by
  have hb:=h.tb
  obtain⟨on,inc,nm,t,f,bad⟩:=n
  have hf:=h.f
  simp only at hb hf
  unfold W_o V_o
  try simp only
  have e2:W_b N f=some f:=by
    rcases hf with rfl | ⟨c,hF,_⟩
    · rfl
    · exact hF.twin N (by omega)
  rw[twinT_eq N t hb,obind_s,e2,obind_s]
theorem NP.lens {id:Int} {n:Nd} (h:NP id n):n.2.2.2.2.1.2.2.1.length≤6∧n.2.2.2.2.1.2.2.2.1.length≤8∧n.2.2.2.2.1.2.2.2.2.1.length≤300:=by
  rcases h.f with e | ⟨c,hF,_,_,h1,hc⟩
  · rw[e];exact⟨by decide,by decide,by decide⟩
  · have hp:=hF.p h1
    have h2:=hp.ch.len
    have h3:=hp.wk.len (by have:=hp.nx;omega)
    have h4:=hp.nx
    have h5:=hp.c0
    exact⟨hp.rl,by omega,by omega⟩
theorem NP.next {id:Int} {n:Nd} (h:NP id n):0≤n.2.2.2.2.1.1∧n.2.2.2.2.1.1≤201:=by
  rcases h.f with e | ⟨c,hF,_,_,h1,hc⟩
  · rw[e];exact⟨by decide,by decide⟩
  · have hp:=(hF.p h1).nx
    omega
open Classical in
theorem put_take (N:Nat) (hN:2000≤N) {m:Ms} (h:MayP m) (hl:m.2.2.2.2.2.2.1.length≤900):W_au N m=some (bd m++sm (bd m))∧W_aq N (bd m++sm (bd m))=some (true,m):=by
  refine⟨?_,Take_good N (by omega) h⟩
  rw[rPut_eq2 N (by omega) m hl]
  unfold pm
  rw[if_pos h]
theorem read_to (N:Nat) {n:Nd} {m:Ms} {b:List Int} (ht:W_aq N b=some (true,m)) (h:m.2.2.1=n.2.2.2.1.1):W_a8 N (n,b)=some (.inl m):=by
  unfold W_a8 V_a8
  try simp only
  rw[ht,obind_s]
  try simp only
  rw[Bool.not_true,cnd_f,cnd_F (fun q=>q h)]
def dataM (n:Nd) (to:Int) (i:It):Ms:=(7,n.2.2.2.1.1,to,n.2.2.2.1.2.1,0,0,[],i.1,0,i.2)
def noteM (n:Nd) (to:Int) (s:Sp):Ms:=(9,n.2.2.2.1.1,to,n.2.2.2.1.2.1,0,0,[],s.1,s.2,[])
theorem tellData_eq (N:Nat) (n:Nd) (to:Int) (i:It):W_5 N (n,to,i.1,i.2)=some (dataM n to i):=rfl
theorem tellNote_eq (N:Nat) (n:Nd) (to:Int) (s:Sp):W_6 N (n,to,s.1,s.2)=some (noteM n to s):=rfl
theorem take_map {α β:Type} (f:α→β) (d:α) (l:List α) (k:Nat) (h:k<l.length):(l.take (k+1)).map f=(l.take k).map f++[f (l.getD k d)]:=by
  rw[List.take_add_one,List.getElem?_eq_getElem h,List.getD_eq_getElem?_getD,List.getElem?_eq_getElem h]
  simp only[Option.toList_some,List.map_append,List.map_cons,List.map_nil,Option.getD_some]
def srvM (n:Nd) (m:Ms):List Ms:=
  let k:=findK n.2.2.2.1.2.2.2.2.2.2.2.2.2.2.2.2 m.2.1
  if k.1=true∧k.2.2.1=m.2.2.2.1∧1≤n.2.2.2.2.1.1 then
    let C:=cnt n.2.2.2.2.1 m.2.2.2.2.2.2.2.1 m.2.2.2.2.2.2.2.2.1
    (itF n.2.2.2.2.1.2.2.1 m.2.2.2.2.2.2.2.1 C).map (dataM n m.2.1)++(noF n.2.2.2.2.1.2.2.1 m.2.2.2.2.2.2.2.1 C).map (noteM n m.2.1)
  else []
theorem cnt_le (f:Fd) (lo hi:Int):cnt f lo hi≤8:=by unfold cnt;omega
theorem noF_len (R:List It) (lo:Int):∀k,(noF R lo k).length≤k
  | 0=>by simp[noF]
  | k+1=>by
    have:=noF_len R lo k
    simp only[noF]
    split
    · omega
    · unfold push putL
      split
      · rename_i q;simp;omega
      · simp;omega
theorem serve_eq (N:Nat) (hN:2000≤N) {B:Int} (n:Nd) (m:Ms) (hb:Tb B n.2.2.2.1) (hr:n.2.2.2.2.1.2.2.1.length≤6) (h0:0≤n.2.2.2.2.1.1) (h2:n.2.2.2.2.1.1≤1000001) (h3:1≤m.2.2.2.2.2.2.2.1) (h4:m.2.2.2.2.2.2.2.1≤2000000000000):
    W_a6 N (n,m)=some (srvM n m):=by
  have hf:=hb.find N hN m.2.1
  unfold W_a6 V_a6 srvM
  try simp only
  rw[hf,obind_s]
  generalize findK n.2.2.2.1.2.2.2.2.2.2.2.2.2.2.2.2 m.2.1=k
  obtain⟨k1,ka,kb,kc⟩:=k
  try simp only
  cases k1 with
  | false=>rw[Bool.not_false,cnd_t,if_neg (by simp)]
  | true=>
    rw[Bool.not_true,cnd_f]
    by_cases c:kb=m.2.2.2.1
    case neg=>rw[cnd_T c,if_neg (fun q=>c q.2.1)]
    rw[cnd_F (fun q=>q c)]
    by_cases c1:1≤n.2.2.2.2.1.1
    case neg=>
      have e0:W_ag N (n.2.2.2.2.1,m.2.2.2.2.2.2.2.1,m.2.2.2.2.2.2.2.2.1)=some ([],[]):=by
        unfold W_ag V_ag
        try simp only
        rw[cnd_T (by omega)]
      obtain⟨M,rfl⟩:∃M,N=M+1:=⟨N-1,by omega⟩
      rw[e0,obind_s,if_neg (fun q=>c1 q.2.2)]
      simp only[loopN,List.length_nil]
      rw[cnd_F (by omega),obind_s]
      try simp only
      rw[cnd_F (by omega),obind_s]
    rw[if_pos ⟨rfl,c,c1⟩,pServes N n.2.2.2.2.1 _ _ hN hr c1 h2 h3 h4,obind_s]
    have hC:=cnt_le n.2.2.2.2.1 m.2.2.2.2.2.2.2.1 m.2.2.2.2.2.2.2.2.1
    obtain⟨C,hCe⟩:∃C,cnt n.2.2.2.2.1 m.2.2.2.2.2.2.2.1 m.2.2.2.2.2.2.2.2.1=C:=⟨_,rfl⟩
    rw[hCe] at hC ⊢
    have hi:=itF_len n.2.2.2.2.1.2.2.1 m.2.2.2.2.2.2.2.1 C
    have hs:=noF_len n.2.2.2.2.1.2.2.1 m.2.2.2.2.2.2.2.1 C
    generalize itF n.2.2.2.2.1.2.2.1 m.2.2.2.2.2.2.2.1 C=I at hi ⊢
    generalize noF n.2.2.2.2.1.2.2.1 m.2.2.2.2.2.2.2.1 C=S at hs ⊢
    try simp only
    refine loop_G (σ:=Int×Nd×Ms×List Ms) (ρ:=Nd×Ms×List Ms) (β:=List Ms) (·=some (I.map (dataM n m.2.1)++S.map (noteM n m.2.1))) (fun k v=>v=((k:Int),n,m,(I.take k).map (dataM n m.2.1))∧k≤I.length) I.length (fun r=>r=(n,m,I.map (dataM n m.2.1))) ⟨rfl,by omega⟩ (by omega) ?_ (fun k v h=>h.2) ?_
    · rintro r rfl
      refine loop_G (σ:=Int×Nd×Ms×List Ms) (ρ:=List Ms) (β:=List Ms) (·=some (I.map (dataM n m.2.1)++S.map (noteM n m.2.1))) (fun k v=>v=((k:Int),n,m,I.map (dataM n m.2.1)++(S.take k).map (noteM n m.2.1))∧k≤S.length) S.length (fun r=>r=I.map (dataM n m.2.1)++S.map (noteM n m.2.1)) ⟨by simp,by omega⟩ (by omega) ?_ (fun k v h=>h.2) ?_
      · rintro r rfl;rfl
      · rintro k v ⟨rfl,hk⟩
        try simp only
        by_cases q:k<S.length
        · left
          rw[cnd_T (show (k:Int)<(S.length:Int) by omega),dT (show (0:Int)≤(k:Int) by omega),dT (show (k:Int)<(S.length:Int) by omega),Bool.and_self,cnd_t,Int.toNat_natCast,tellNote_eq N n m.2.1 (S.getD k (0,0)),obind_s,cnd_T (by simp only[List.length_append,List.length_map,List.length_take,List.length_cons,List.length_nil];omega),wr_m (z:=(k:Int)+1) (by omega) (by omega)]
          exact⟨_,rfl,by rw[take_map (noteM n m.2.1) (0,0) S k q,List.append_assoc];rfl,by omega⟩
        · right
          rw[cnd_F (show ¬(k:Int)<(S.length:Int) by omega)]
          exact⟨_,rfl,by rw[List.take_of_length_le (by omega)]⟩
    · rintro k v ⟨rfl,hk⟩
      try simp only
      by_cases q:k<I.length
      · left
        rw[cnd_T (show (k:Int)<(I.length:Int) by omega),dT (show (0:Int)≤(k:Int) by omega),dT (show (k:Int)<(I.length:Int) by omega),Bool.and_self,cnd_t,Int.toNat_natCast,tellData_eq N n m.2.1 (I.getD k ((0:Int),[])),obind_s,cnd_T (by simp only[List.length_map,List.length_take,List.length_cons,List.length_nil];omega),wr_m (z:=(k:Int)+1) (by omega) (by omega)]
        exact⟨_,rfl,by rw[take_map (dataM n m.2.1) ((0:Int),[]) I k q];rfl,by omega⟩
      · right
        rw[cnd_F (show ¬(k:Int)<(I.length:Int) by omega)]
        exact⟨_,rfl,by rw[List.take_of_length_le (by omega)]⟩
theorem comesT_kinds (t:TT) (m:Ms) (lo:Int):∀e∈(comesT t m lo).1,e.1≠7∧e.1≠9:=by
  obtain⟨id,inc,now,par,pinc,grd,path,ep,born,ask,unt,stp,kids⟩:=t
  have disp:∀t:TT,∀e∈(dispM t m lo).1,e.1≠7∧e.1≠9:=by
    rintro⟨id,inc,now,par,pinc,grd,path,ep,born,ask,unt,stp,kids⟩ e he
    unfold dispM at he
    split at he
    · unfold attachM at he
      split at he<;>(rw[List.mem_singleton.1 he];exact⟨by show (_:Int)≠7;simp[sayM,fullM],by show (_:Int)≠9;simp[sayM,fullM]⟩)
    split at he
    · unfold acceptM at he
      split at he
      · cases he
      · split at he
        · split at he
          · cases he
          · rw[List.mem_singleton.1 he];exact⟨by simp[sayM],by simp[sayM]⟩
        · rw[List.mem_singleton.1 he];exact⟨by simp[sayM],by simp[sayM]⟩
    split at he
    · cases he
    split at he
    · unfold beatUpM at he
      split at he
      · rw[List.mem_singleton.1 he];exact⟨by simp[sayM],by simp[sayM]⟩
      · cases he
    split at he
    · unfold beatDnM at he
      split at he
      · split at he
        · cases he
        · rw[List.mem_singleton.1 he];exact⟨by simp[sayM],by simp[sayM]⟩
      · rw[List.mem_singleton.1 he];exact⟨by simp[sayM],by simp[sayM]⟩
    split at he
    · cases he
    · cases he
  intro e he
  unfold comesT at he
  split at he
  · cases he
  split at he
  · split at he
    · cases he
    · exact disp _ e he
  · exact disp _ e he
def downE (n:Nd) (e:Ev) (k:Int):Ms:=if e.1=1 then dataM n k (e.2.1,e.2.2.2.1) else noteM n k (e.2.1,e.2.2.1)
def downM (n:Nd) (told:List Ev):List Ms:=told.flatMap fun e=>n.2.2.2.1.2.2.2.2.2.2.2.2.2.2.2.2.map fun k=>downE n e k.1
theorem take_flat {α β:Type} (f:α→List β) (d:α) (l:List α) (k:Nat) (h:k<l.length):(l.take (k+1)).flatMap f=(l.take k).flatMap f++f (l.getD k d):=by
  rw[List.take_add_one,List.getElem?_eq_getElem h,List.flatMap_append,List.getD_eq_getElem?_getD,List.getElem?_eq_getElem h]
  simp
theorem flat_len {α β:Type} (f:α→List β) (c:Nat) (hf:∀a,(f a).length≤c):∀l:List α,(l.flatMap f).length≤c*l.length
  | []=>by simp
  | a::r=>by
    have:=flat_len f c hf r
    have:=hf a
    rw[List.flatMap_cons,List.length_append,List.length_cons,Nat.mul_add]
    omega
theorem handDown_eq (N:Nat) (hN:2000≤N) {B:Int} (n:Nd) (old:Fd) (hb:Tb B n.2.2.2.1) (h1:old.2.2.2.2.1.length≤n.2.2.2.2.1.2.2.2.2.1.length) (h2:n.2.2.2.2.1.2.2.2.2.1.length≤1000):
    W_L N (n,old)=some (downM n (n.2.2.2.2.1.2.2.2.2.1.drop old.2.2.2.2.1.length)):=by
  have hk:=hb.kl
  have e:W_aY N (n.2.2.2.2.1,old)=some (n.2.2.2.2.1.2.2.2.2.1.drop old.2.2.2.2.1.length):=by
    unfold W_aY V_aY
    try simp only
    by_cases c:n.2.2.2.2.1.2.2.2.2.1.length≤old.2.2.2.2.1.length
    · rw[cnd_T (by omega),List.drop_of_length_le c]
    · rw[cnd_F (by omega),dT (show (0:Int)≤(old.2.2.2.2.1.length:Int) by omega),dT (show (old.2.2.2.2.1.length:Int)≤(n.2.2.2.2.1.2.2.2.2.1.length:Int) by omega),Bool.and_self,cnd_t,Int.toNat_natCast,List.take_length]
      unfold W_d V_d
      rw[cnd_T (by rw[List.length_drop];omega),obind_s]
  have hL:(n.2.2.2.2.1.2.2.2.2.1.drop old.2.2.2.2.1.length).length≤1000:=by rw[List.length_drop];omega
  unfold W_L V_L
  try simp only
  rw[e,obind_s]
  generalize n.2.2.2.2.1.2.2.2.2.1.drop old.2.2.2.2.1.length=L at hL ⊢
  obtain⟨K,hK⟩:∃K,n.2.2.2.1.2.2.2.2.2.2.2.2.2.2.2.2=K:=⟨_,rfl⟩
  rw[hK] at hk
  have hdm:∀l:List Ev,downM n l=l.flatMap fun e=>K.map fun k=>downE n e k.1:=fun l=>by unfold downM;rw[hK]
  have hfl:∀l:List Ev,(l.flatMap fun e=>K.map fun k=>downE n e k.1).length≤8*l.length:=flat_len _ 8 (fun a=>by rw[List.length_map];exact hk)
  rw[hdm]
  refine loop_G (σ:=Int×Nd×List Ms) (ρ:=List Ms) (β:=List Ms) (·=some (L.flatMap fun e=>K.map fun k=>downE n e k.1)) (fun i v=>v=((i:Int),n,(L.take i).flatMap fun e=>K.map fun k=>downE n e k.1)∧i≤L.length) L.length (fun r=>r=L.flatMap fun e=>K.map fun k=>downE n e k.1) ⟨rfl,by omega⟩ (by omega) ?_ (fun k v h=>h.2) ?_
  · rintro r rfl;rfl
  · rintro i v ⟨rfl,hi⟩
    try simp only
    by_cases q:i<L.length
    · left
      rw[cnd_T (show (i:Int)<(L.length:Int) by omega),dT (show (0:Int)≤(i:Int) by omega),dT (show (i:Int)<(L.length:Int) by omega),Bool.and_self,cnd_t,Int.toNat_natCast,hK]
      obtain⟨E,hE⟩:∃E,L.getD i ((0:Int),(0:Int),(0:Int),[],(0:Int))=E:=⟨_,rfl⟩
      have hacc:=hfl (L.take i)
      have hli:(L.take i).length≤1000:=by rw[List.length_take];omega
      obtain⟨A,hA⟩:∃A,((L.take i).flatMap fun e=>K.map fun k=>downE n e k.1)=A:=⟨_,rfl⟩
      rw[hE,hA]
      rw[hA] at hacc
      refine loop_G (σ:=Int×Nd×List Ms×Ev) (ρ:=Nd×List Ms) (β:=(Int×Nd×List Ms)⊕List Ms) (fun o=>∃y,o=some (.inl y)∧y=(((i+1:Nat):Int),n,(L.take (i+1)).flatMap fun e=>K.map fun k=>downE n e k.1)∧i+1≤L.length) (fun j v=>v=((j:Int),n,A++(K.take j).map (fun k=>downE n E k.1),E)∧j≤K.length) K.length (fun r=>r=(n,A++K.map fun k=>downE n E k.1)) ⟨by simp,by omega⟩ (by omega) ?_ (fun k v h=>h.2) ?_
      · rintro r rfl
        try simp only
        rw[wr_m (z:=(i:Int)+1) (by omega) (by omega)]
        refine⟨_,rfl,?_,by omega⟩
        rw[take_flat _ ((0:Int),(0:Int),(0:Int),[],(0:Int)) L i q,hE,hA]
        rfl
      · rintro j v ⟨rfl,hj⟩
        try simp only
        by_cases p:j<K.length
        · left
          have hm:(A++(K.take j).map (fun k=>downE n E k.1)).length≤10000:=by rw[List.length_append,List.length_map,List.length_take];omega
          rw[cnd_T (show (j:Int)<(K.length:Int) by omega),dT (show (0:Int)≤(j:Int) by omega),dT (show (j:Int)<(K.length:Int) by omega),Bool.and_self,cnd_t,Int.toNat_natCast,wr_m (z:=(j:Int)+1) (by omega) (by omega)]
          have fin:A++(K.take j).map (fun k=>downE n E k.1)++[downE n E (K.getD j ((0:Int),(0:Int),(0:Int))).1]=A++(K.take (j+1)).map (fun k=>downE n E k.1):=by
            rw[take_map (fun k:Kd=>downE n E k.1) ((0:Int),(0:Int),(0:Int)) K j p,List.append_assoc]
          by_cases c:E.1=1
          · rw[cnd_T c,tellData_eq N n _ (E.2.1,E.2.2.2.1),obind_s,cnd_T (by simp only[List.length_cons,List.length_nil];omega)]
            refine⟨_,rfl,?_,by omega⟩
            rw[←fin];unfold downE;rw[if_pos c];rfl
          · rw[cnd_F c,tellNote_eq N n _ (E.2.1,E.2.2.1),obind_s,cnd_T (by simp only[List.length_cons,List.length_nil];omega)]
            refine⟨_,rfl,?_,by omega⟩
            rw[←fin];unfold downE;rw[if_neg c];rfl
        · right
          rw[cnd_F (show ¬(j:Int)<(K.length:Int) by omega)]
          exact⟨_,rfl,by rw[List.take_of_length_le (by omega)]⟩
    · right
      rw[cnd_F (show ¬(i:Int)<(L.length:Int) by omega)]
      exact⟨_,rfl,by rw[List.take_of_length_le (by omega)]⟩
def KO (e:Ev):Prop:=e.1=1∨e.1=2
theorem Ch_split:∀{L T:List Ev} {n m:Int},Ch n (L++T) m→∃k,Ch n L k∧Ch k T m
  | [],T,n,m,h=>⟨n,rfl,h⟩
  | e::L,T,n,m,h=>by
    obtain⟨k,h1,h2⟩:=Ch_split (L:=L) (T:=T) (show Ch (e.2.2.1+1) (L++T) m from h.2.2)
    exact⟨k,⟨h.1,h.2.1,h1⟩,h2⟩
theorem Ch_end:∀{L:List Ev} {n m k:Int},Ch n L m→Ch n L k→m=k
  | [],n,m,k,h1,h2=>by have a:n=m:=h1;have b:n=k:=h2;omega
  | e::L,n,m,k,h1,h2=>Ch_end h1.2.2 h2.2.2
theorem Ch_lo:∀{L:List Ev} {n m:Int},Ch n L m→∀e∈L,n≤e.2.1∧e.2.1≤e.2.2.1∧e.2.2.1<m
  | [],_,_,_,e,he=>by cases he
  | a::L,n,m,h,e,he=>by
    have hl:=h.2.2.len
    have h1:=h.1
    have h2:=h.2.1
    rcases List.mem_cons.1 he with rfl | he
    · exact⟨by omega,h2,by omega⟩
    · have:=Ch_lo h.2.2 e he
      exact⟨by omega,this.2.1,this.2.2⟩
def QK (b:Int) (e:Ev):Prop:=e.1=1∨e.1=2∨e.2.2.1<b
structure Hr (f g:Fd):Prop where
  le:∃T,g.2.2.2.2.1=f.2.2.2.2.1++T∧∀e∈T,KO e
  len:g.2.2.2.2.1.length≤400
theorem Hr.same {f g:Fd} (h:g.2.2.2.2.1=f.2.2.2.2.1) (hl:f.2.2.2.2.1.length≤300):Hr f g:=⟨⟨[],by rw[h,List.append_nil],fun e he=>by cases he⟩,by rw[h];omega⟩
theorem Hr.of {c:Int} {f g:Fd} (h:FI 200 c f) (hg:FI 200 c g) (h1:1≤f.1) (hc:1≤c) (hle:Le f g) (hq:FA (fun _=>True) (QK f.1) g):Hr f g:=by
  obtain⟨l1,_,T,hT⟩:=hle
  have p:=h.p h1
  have q:=hg.p (by omega)
  refine⟨⟨T,hT,fun e he=>?_⟩,?_⟩
  · have hc2:=q.ch
    rw[hT] at hc2
    obtain⟨k,a1,a2⟩:=Ch_split hc2
    have:k=f.1:=Ch_end a1 p.ch
    subst this
    have hl:=Ch_lo a2 e he
    have:=hq.l e (by rw[hT];exact List.mem_append.2 (.inr he))
    rcases this with r | r | r
    · exact .inl r
    · exact .inr r
    · omega
  · have:=q.ch.len
    have:=q.nx
    omega
theorem FA_of {c:Int} {f:Fd} (h:FI 200 c f) (h1:1≤f.1):FA (fun _=>True) (QK f.1) f:=⟨fun _ _=>trivial,fun _ _=>trivial,fun e he=>.inr (.inr (Ch_lo (h.p h1).ch e he).2.2)⟩
theorem FI2_z7:FI 200 0 z7:=⟨by decide,⟨by decide,by decide⟩,fun q=>by simp[z7] at q,⟨by decide,by decide⟩,fun _=>⟨rfl,rfl,rfl⟩⟩
theorem comes_Hr {c:Int} {f:Fd} (hf:f=z7∨FI 200 c f∧1≤f.1∧1≤c) (x:It) (hx:x.1≤200):Hr f (comesM f x):=by
  rcases hf with rfl | ⟨h,h1,hc⟩
  · have:comesM z7 x=z7:=by unfold comesM;rw[if_pos (.inl rfl)]
    rw[this];exact .same rfl (by decide)
  · exact .of h (h.comes x (fun _=>hx)) h1 hc (comes_Le f x) ((FA_of h h1).comes (fun w _=>.inl rfl) x fun _=>trivial)
theorem notes_Hr {c:Int} {f:Fd} (hf:f=z7∨FI 200 c f∧1≤f.1∧1≤c) (lo hi:Int) (hx:hi≤200):Hr f (notesM f lo hi):=by
  rcases hf with rfl | ⟨h,h1,hc⟩
  · have:notesM z7 lo hi=z7:=by unfold notesM;rw[if_pos (.inl rfl)]
    rw[this];exact .same rfl (by decide)
  · exact .of h (h.notes lo hi (fun _=>hx)) h1 hc (notes_Le f lo hi) ((FA_of h h1).notes (fun w _=>.inl rfl) lo hi fun _ _ _ _ _ _=>.inr (.inl rfl))
theorem hear_ok (N:Nat) (hN:2000≤N) {n:Nd} {m:Ms} {c:Int} (was:Int) (hf:n.2.2.2.2.1=z7∨FI 200 c n.2.2.2.2.1∧1≤n.2.2.2.2.1.1∧1≤c) (hll:n.2.2.2.2.1.2.2.2.2.1.length≤300) (hlo:0≤m.2.2.2.2.2.2.2.1∧m.2.2.2.2.2.2.2.1<128) (hhi:0≤m.2.2.2.2.2.2.2.2.1∧m.2.2.2.2.2.2.2.2.1<128):
    ∃f,W_a7 N (n,was,m)=some f∧Hr n.2.2.2.2.1 f:=by
  obtain⟨c',hFI⟩:∃c',FI 200 c' n.2.2.2.2.1:=by
    rcases hf with e | ⟨h,_⟩
    · exact⟨0,by rw[e];exact FI2_z7⟩
    · exact⟨c,h⟩
  have ht:=hFI.twin N (by omega)
  have rk:∀t,(knowsM n.2.2.2.2.1 t).2.2=n.2.2.2.2.1.2.2:=fun t=>by unfold knowsM;split<;>rfl
  have base:Hr n.2.2.2.2.1 n.2.2.2.2.1:=.same rfl hll
  have kn:∃f,(obind (W_k N (n.2.2.2.2.1,m.2.2.2.2.2.2.2.2.1)) fun b=>some b)=some f∧Hr n.2.2.2.2.1 f:=⟨_,by rw[pKnows_eq N _ _ ht,obind_s],.same (by rw[rk]) hll⟩
  have co:∃f,(obind (W_ak N (n.2.2.2.2.1,m.2.2.2.2.2.2.2.1,m.2.2.2.2.2.2.2.2.2)) fun b=>some b)=some f∧Hr n.2.2.2.2.1 f:=⟨_,by rw[pComes_eq N hN hFI (by omega) (m.2.2.2.2.2.2.2.1,m.2.2.2.2.2.2.2.2.2) (fun _=>by show m.2.2.2.2.2.2.2.1≤200;omega),obind_s],comes_Hr hf _ (by show m.2.2.2.2.2.2.2.1≤200;omega)⟩
  have no:∃f,(obind (W_8 N (n.2.2.2.2.1,m.2.2.2.2.2.2.2.1,m.2.2.2.2.2.2.2.2.1)) fun b=>some b)=some f∧Hr n.2.2.2.2.1 f:=⟨_,by rw[pNotes_eq N hN hFI (by omega) _ _ (fun _=>by omega),obind_s],notes_Hr hf _ _ (by omega)⟩
  have be:∃f,(obind (W_aH N (n.2.2.2.2.1,m.2.2.2.2.2.2.2.1)) fun b=>obind (W_k N (b,wr .i64 (m.2.2.2.2.2.2.2.1-(1:Int)))) fun b=>some b)=some f∧Hr n.2.2.2.2.1 f:=by
    obtain⟨c2,hB,_⟩:=hFI.begins m.2.2.2.2.2.2.2.1 (fun _=>by omega) (fun _=>by omega)
    have rb:(beginM n.2.2.2.2.1 m.2.2.2.2.2.2.2.1).2.2=n.2.2.2.2.1.2.2:=by
      unfold beginM
      split
      · exact rk _
      · split<;>rfl
    rw[pBegin_eq N _ _ ht (fun _=>by rw[wr_m (by omega) (by omega)]),obind_s,pKnows_eq N _ _ (hB.twin N (by omega)),obind_s]
    refine⟨_,rfl,.same ?_ hll⟩
    rw[show (knowsM (beginM n.2.2.2.2.1 m.2.2.2.2.2.2.2.1) (wr .i64 (m.2.2.2.2.2.2.2.1-1))).2.2=(beginM n.2.2.2.2.1 m.2.2.2.2.2.2.2.1).2.2 from by unfold knowsM;split<;>rfl,rb]
  unfold W_a7 V_a7
  try simp only
  by_cases a:n.2.2.2.1.2.2.2.1≠m.2.1
  · rw[cnd_T a];exact⟨_,rfl,base⟩
  rw[cnd_F a]
  have tail:∃f,cnd (decide (m.1=(5:Int))) (obind (W_k N (n.2.2.2.2.1,m.2.2.2.2.2.2.2.2.1)) fun b=>some b) (cnd (decide (m.1=(7:Int))) (cnd (decide (m.2.2.2.1=n.2.2.2.1.2.2.2.2.1)) (obind (W_ak N (n.2.2.2.2.1,m.2.2.2.2.2.2.2.1,m.2.2.2.2.2.2.2.2.2)) fun b=>some b) (cnd (decide (m.1=(9:Int))) (cnd (decide (m.2.2.2.1=n.2.2.2.1.2.2.2.2.1)) (obind (W_8 N (n.2.2.2.2.1,m.2.2.2.2.2.2.2.1,m.2.2.2.2.2.2.2.2.1)) fun b=>some b) (some n.2.2.2.2.1)) (some n.2.2.2.2.1))) (cnd (decide (m.1=(9:Int))) (cnd (decide (m.2.2.2.1=n.2.2.2.1.2.2.2.2.1)) (obind (W_8 N (n.2.2.2.2.1,m.2.2.2.2.2.2.2.1,m.2.2.2.2.2.2.2.2.1)) fun b=>some b) (some n.2.2.2.2.1)) (some n.2.2.2.2.1)))=some f∧Hr n.2.2.2.2.1 f:=by
    have t9:∃f,cnd (decide (m.1=(9:Int))) (cnd (decide (m.2.2.2.1=n.2.2.2.1.2.2.2.2.1)) (obind (W_8 N (n.2.2.2.2.1,m.2.2.2.2.2.2.2.1,m.2.2.2.2.2.2.2.2.1)) fun b=>some b) (some n.2.2.2.2.1)) (some n.2.2.2.2.1)=some f∧Hr n.2.2.2.2.1 f:=by
      by_cases k9:m.1=9
      · rw[cnd_T k9]
        by_cases i:m.2.2.2.1=n.2.2.2.1.2.2.2.2.1
        · rw[cnd_T i];exact no
        · rw[cnd_F i];exact⟨_,rfl,base⟩
      · rw[cnd_F k9];exact⟨_,rfl,base⟩
    by_cases k5:m.1=5
    · rw[cnd_T k5];exact kn
    rw[cnd_F k5]
    by_cases k7:m.1=7
    · rw[cnd_T k7]
      by_cases i:m.2.2.2.1=n.2.2.2.1.2.2.2.2.1
      · rw[cnd_T i];exact co
      · rw[cnd_F i];exact t9
    · rw[cnd_F k7];exact t9
  by_cases k2:m.1=2
  · rw[cnd_T k2]
    by_cases w:was≠m.2.1
    · rw[cnd_T w];exact be
    · rw[cnd_F w];exact tail
  · rw[cnd_F k2];exact tail
theorem comesT_len (t:TT) (m:Ms) (lo:Int):(comesT t m lo).1.length≤1:=by
  have disp:∀t:TT,(dispM t m lo).1.length≤1:=by
    intro t
    unfold dispM attachM acceptM beatUpM beatDnM
    repeat' split
    all_goals simp
  unfold comesT
  split
  · simp
  split
  · split
    · simp
    · exact disp _
  · exact disp _
def fil (q:Int) (l:List Ms):List Ms:=l.filter fun e=>decide (e.2.2.1=q)&&(decide (e.1=7)||decide (e.1=9))
theorem fil_pre {q:Int} {p l:List Ms} (h:∀e∈p,e.1≠7∧e.1≠9):fil q (p++l)=fil q l:=by
  unfold fil
  rw[List.filter_append,List.filter_eq_nil_iff.2,List.nil_append]
  intro e he
  have:=h e he
  simp only[Bool.and_eq_true,decide_eq_true_eq,Bool.or_eq_true,not_and,not_or]
  exact fun _=>this
theorem downE_to (x:Nd) (e:Ev) (k:Int):(downE x e k).2.2.1=k:=by unfold downE;split<;>rfl
theorem downE_kind (x:Nd) (e:Ev) (k:Int):(downE x e k).1=if e.1=1 then 7 else 9:=by unfold downE;split<;>rfl
theorem downE_lo (x:Nd) (e:Ev) (k:Int):(downE x e k).2.2.2.2.2.2.2.1=e.2.1:=by unfold downE;split<;>rfl
theorem fil_none {x:Nd} {e:Ev} {q a:Int}:∀{K:List Kd},Kw a K→q<a→fil q (K.map fun k=>downE x e k.1)=[]
  | [],_,_=>rfl
  | w::r,h,ha=>by
    have h1:=h.1
    unfold fil
    rw[List.map_cons,List.filter_cons,downE_to,dF (show ¬w.1=q by omega),Bool.false_and,if_neg (by simp)]
    exact fil_none h.2.2 (by omega)
theorem fil_kids {x:Nd} {e:Ev} {q a:Int}:∀{K:List Kd},Kw a K→(∃k∈K,k.1=q)→fil q (K.map fun k=>downE x e k.1)=[downE x e q]
  | [],_,h=>by obtain⟨k,hk,_⟩:=h;cases hk
  | w::r,h,hq=>by
    unfold fil
    rw[List.map_cons,List.filter_cons,downE_to,downE_kind]
    by_cases c:w.1=q
    · have:(decide (w.1=q)&&(decide ((if e.1=1 then(7:Int) else 9)=7)||decide ((if e.1=1 then(7:Int) else 9)=9)))=true:=by
        rw[dT c];split<;>rfl
      rw[if_pos this,c]
      congr 1
      exact fil_none h.2.2 (by omega)
    · rw[dF c,Bool.false_and,if_neg (by simp)]
      obtain⟨k,hk,e1⟩:=hq
      rcases List.mem_cons.1 hk with rfl | hk
      · exact absurd e1 c
      · exact fil_kids h.2.2 ⟨k,hk,e1⟩
theorem fil_down {x:Nd} {q:Int} (hk:Kw 1 x.2.2.2.1.2.2.2.2.2.2.2.2.2.2.2.2) (hq:∃k∈x.2.2.2.1.2.2.2.2.2.2.2.2.2.2.2.2,k.1=q):∀T:List Ev,fil q (downM x T)=T.map fun e=>downE x e q
  | []=>rfl
  | e::T=>by
    have ih:=fil_down hk hq T
    unfold downM at ih ⊢
    rw[List.flatMap_cons]
    unfold fil at ih ⊢
    rw[List.filter_append,ih,List.map_cons]
    have:=fil_kids (x:=x) (e:=e) hk hq
    unfold fil at this
    rw[this];rfl
theorem fil_step {q:Int} {l:List Ms} {i:Nat} (d:Ms) (h:i<l.length):fil q (l.take (i+1))=if (l.getD i d).2.2.1=q∧((l.getD i d).1=7∨(l.getD i d).1=9) then fil q (l.take i)++[l.getD i d] else fil q (l.take i):=by
  unfold fil
  rw[List.take_add_one,List.getElem?_eq_getElem h,List.getD_eq_getElem?_getD,List.getElem?_eq_getElem h,List.filter_append]
  simp only[Option.toList_some,Option.getD_some,List.filter_cons,List.filter_nil,Bool.and_eq_true,decide_eq_true_eq,Bool.or_eq_true]
  split
  · rfl
  · simp
theorem fil_split {q:Int} {l:List Ms} {i:Nat}:fil q l=fil q (l.take i)++fil q (l.drop i):=by
  unfold fil
  rw[←List.filter_append,List.take_append_drop]
structure Dn (m:Ms) (l:List Ms) (n x:Nd) (T:List Ev):Prop where
  log:x.2.2.2.2.1.2.2.2.2.1=n.2.2.2.2.1.2.2.2.2.1++T
  ko:∀e∈T,KO e
  kw:Kw 1 x.2.2.2.1.2.2.2.2.2.2.2.2.2.2.2.2
  ll:l.length≤10000
  tl:T.length≤400
  nak:m.1=8→T=[]∧∀e∈l,(e.1=7∨e.1=9)→e.2.2.1=m.2.1
  dn:m.1≠8→∀q,(∃k∈x.2.2.2.1.2.2.2.2.2.2.2.2.2.2.2.2,k.1=q)→fil q l=T.map fun e=>downE x e q
theorem srv_to (n:Nd) (m:Ms):∀e∈srvM n m,e.2.2.1=m.2.1:=by
  intro e he
  unfold srvM at he
  simp only at he
  split at he
  · rcases List.mem_append.1 he with he | he
    · obtain⟨i,_,rfl⟩:=List.mem_map.1 he;rfl
    · obtain⟨i,_,rfl⟩:=List.mem_map.1 he;rfl
  · cases he
theorem srv_len (n:Nd) (m:Ms):(srvM n m).length≤16:=by
  unfold srvM
  try simp only
  split
  · have a1:=itF_len n.2.2.2.2.1.2.2.1 m.2.2.2.2.2.2.2.1 (cnt n.2.2.2.2.1 m.2.2.2.2.2.2.2.1 m.2.2.2.2.2.2.2.2.1)
    have a2:=noF_len n.2.2.2.2.1.2.2.1 m.2.2.2.2.2.2.2.1 (cnt n.2.2.2.2.1 m.2.2.2.2.2.2.2.1 m.2.2.2.2.2.2.2.2.1)
    have a3:=cnt_le n.2.2.2.2.1 m.2.2.2.2.2.2.2.1 m.2.2.2.2.2.2.2.2.1
    simp only[List.length_append,List.length_map];omega
  · simp
theorem comes_gen (N:Nat) (hN:2000≤N) {id:Int} {n:Nd} (h:NP id n) {m:Ms} (hm:MayP m) (hMb:Mb m) (hlo:0≤m.2.2.2.2.2.2.2.1∧m.2.2.2.2.2.2.2.1<128) (hhi:0≤m.2.2.2.2.2.2.2.2.1∧m.2.2.2.2.2.2.2.2.1<128) {b:List Int} (ht:W_aq N b=some (true,m)) (hto:m.2.2.1=n.2.2.2.1.1):
    ∃l x T,W_Q N (n,b)=some (l,x)∧Dn m l n x T:=by
  have htw:=h.twin N
  have hb:=h.tb
  have hl:=h.lens
  have hnx:=h.next
  have hco:=comes_eqS N hN n.2.2.2.1 hb (by omega) m hMb (max n.2.2.2.2.1.1 1)
  have htb:=hb.comes m hMb (max n.2.2.2.2.1.1 1) (by omega)
  have hkd:=comesT_kinds n.2.2.2.1 m (max n.2.2.2.2.1.1 1)
  have hln:=comesT_len n.2.2.2.1 m (max n.2.2.2.2.1.1 1)
  generalize comesT n.2.2.2.1 m (max n.2.2.2.2.1.1 1)=R at hco htb hkd hln
  obtain⟨p,t⟩:=R
  simp only at htb hkd hln
  unfold W_Q V_Q
  try simp only
  rw[htw,obind_s,h.on,Bool.not_true,cnd_f,read_to N ht hto,obind_s]
  simp only[selim]
  rw[hco,obind_s]
  simp only[swp]
  by_cases c8:m.1=8
  · rw[cnd_T c8]
    have hf:=hm.2.2.2.2.2.2
    unfold Fits at hf
    rw[if_neg (by omega),if_neg (by omega),if_pos (.inl c8)] at hf
    have hsv:=serve_eq N hN ((true,n.2.1,n.2.2.1,t,n.2.2.2.2):Nd) m htb hl.1 hnx.1 (by show n.2.2.2.2.1.1≤_;omega) (by omega) (by omega)
    have hsl:=srv_len ((true,n.2.1,n.2.2.1,t,n.2.2.2.2):Nd) m
    have hst:=srv_to ((true,n.2.1,n.2.2.1,t,n.2.2.2.2):Nd) m
    rw[hsv,obind_s,cnd_T (by omega)]
    refine⟨_,_,[],rfl,⟨by simp,fun e he=>(by cases he),htb.kw,by rw[List.length_append];omega,by simp,fun _=>⟨rfl,fun e he hk=>?_⟩,fun q=>absurd c8 q⟩⟩
    rcases List.mem_append.1 he with he | he
    · have:=hkd e he
      omega
    · exact hst e he
  · rw[cnd_F c8]
    have hf:∃c,n.2.2.2.2.1=z7∨FI 200 c n.2.2.2.2.1∧1≤n.2.2.2.2.1.1∧1≤c:=by
      rcases h.f with e | ⟨c,h1,_,_,h2,h3⟩
      · exact⟨0,.inl e⟩
      · exact⟨c,.inr ⟨h1,h2,h3⟩⟩
    obtain⟨c,hf⟩:=hf
    obtain⟨f,hh,hr⟩:=hear_ok N hN (n:=((true,n.2.1,n.2.2.1,t,n.2.2.2.2):Nd)) (m:=m) n.2.2.2.1.2.2.2.1 hf hl.2.2 hlo hhi
    rw[hh,obind_s]
    obtain⟨T,hT,hko⟩:=hr.le
    have hlen:=hr.len
    simp only at hT
    have hTl:T.length≤400:=by rw[hT,List.length_append] at hlen;omega
    have hd:=handDown_eq N hN ((true,n.2.1,n.2.2.1,t,f,n.2.2.2.2.2):Nd) n.2.2.2.2.1 htb (by show _≤f.2.2.2.2.1.length;rw[hT,List.length_append];omega) (by show f.2.2.2.2.1.length≤_;omega)
    have hdr:f.2.2.2.2.1.drop n.2.2.2.2.1.2.2.2.2.1.length=T:=by rw[hT,List.drop_left]
    simp only at hd
    rw[hdr] at hd
    have hdl:(downM ((true,n.2.1,n.2.2.1,t,f,n.2.2.2.2.2):Nd) T).length≤8*T.length:=by
      unfold downM
      exact flat_len _ 8 (fun a=>by rw[List.length_map];exact htb.kl) T
    rw[hd,obind_s,cnd_T (by omega)]
    refine⟨_,_,T,rfl,⟨hT,hko,htb.kw,by rw[List.length_append];omega,hTl,fun q=>absurd q c8,fun _ q hq=>?_⟩⟩
    rw[fil_pre hkd]
    exact fil_down htb.kw hq T
theorem law_aux (N:Nat) (hN:20000≤N) (hbeg:W_bu N ()=some true) (l mo:List Int) (hel:∀x∈l,0≤x∧x≤255) (hmo:∀x∈mo,0≤x∧x≤255) (who:Int) (h1:0≤who∧who≤255):W_bH N (l,mo,who)=some true:=by
  unfold W_bH V_bH
  try simp only
  rw[hbeg,obind_s,Bool.not_true,cnd_f]
  by_cases c1:(150:Int)<l.length
  · rw[cnd_T c1]
  rw[cnd_F c1]
  by_cases c2:(15:Int)<mo.length
  · rw[cnd_T c2]
  rw[cnd_F c2]
  have t1:=Int.tmod_nonneg 7 h1.1
  have t2:=Int.tmod_lt_of_pos who (show (0:Int)<7 by omega)
  rw[wr_m (z:=Int.tmod who 7) (by omega) (by omega),wr_m (z:=2+Int.tmod who 7) (by omega) (by omega)]
  obtain⟨id,hid⟩:∃id:Int,id=2+Int.tmod who 7:=⟨_,rfl⟩
  rw[←hid]
  have i1:2≤id∧id≤8:=by omega
  obtain⟨n,en,hn⟩:=Pair_spec N (by omega) l (by omega) hel id (by omega)
  have hMade:W_4 N mo=some (mo,0):=rfl
  obtain⟨m0,k1,em1,hm0,hs0,hto0,hin0,_⟩:=Msg_eqn N (by omega) id mo 0 (by omega) (by omega) (by omega) hmo
  rw[en,obind_s,hMade,obind_s,em1,obind_s]
  try simp only
  obtain⟨T0,hT0,eT⟩:=hn.t
  have hTid:n.2.2.2.1.1=id:=by rw[eT];exact hT0.w.i
  have hMb0:=Mb.of hm0 hs0
  refine ob_q (fun v:Nd×Ms=>v.1=n∧MayP v.2∧Mb v.2∧v.2.2.2.1=id∧(0≤v.2.2.2.2.2.2.2.2.1∧v.2.2.2.2.2.2.2.2.1<128)∧(0≤v.2.2.2.2.2.2.2.2.2.1∧v.2.2.2.2.2.2.2.2.2.1<128)) ?_ ?_
  · by_cases c:n.2.2.2.1.2.2.2.1≠0
    · rw[cnd_T c]
      have hp:=hT0.w.p
      have hq:=hT0.p
      have ep:n.2.2.2.1.2.2.2.1=T0.2.2.2.1:=by rw[eT]
      have eq:n.2.2.2.1.2.2.2.2.1=T0.2.2.2.2.1:=by rw[eT]
      rw[ep] at c ⊢
      rw[eq]
      have hq:=hq c
      unfold pinc at hq
      refine⟨_,rfl,rfl,⟨hm0.1,⟨by show 1≤T0.2.2.2.1;omega,hp.1.2⟩,hm0.2.2.1,?_,⟨hq.1,by show T0.2.2.2.2.1≤_;omega⟩,?_,?_⟩,⟨⟨by show 1≤T0.2.2.2.1;omega,hp.1.2⟩,hMb0.age,hMb0.ep,hMb0.pl⟩,hto0,hs0.lo,hs0.hi⟩
      · show T0.2.2.2.1≠m0.2.2.1
        rw[hto0];exact hp.2
      · have e:=hm0.2.2.2.2.2.1
        obtain⟨k,f,t,i,e1,a,p,lo,hi,s⟩:=m0
        unfold ownF at e ⊢
        simp only at e ⊢
        split
        · rw[if_pos ‹_›] at e;simp only[Prod.mk.injEq] at e ⊢;simp only[true_and,and_true] at e ⊢;exact e
        rw[if_neg ‹_›] at e
        split
        · rw[if_pos ‹_›] at e;simp only[Prod.mk.injEq] at e ⊢;simp only[true_and,and_true] at e ⊢;exact e
        rw[if_neg ‹_›] at e
        split
        · rw[if_pos ‹_›] at e;simp only[Prod.mk.injEq] at e ⊢;simp only[true_and,and_true] at e ⊢;exact e
        rw[if_neg ‹_›] at e
        split
        · rw[if_pos ‹_›] at e;simp only[Prod.mk.injEq] at e ⊢;simp only[true_and,and_true] at e ⊢;exact e
        rw[if_neg ‹_›] at e
        simp only[Prod.mk.injEq] at e ⊢;simp only[true_and,and_true] at e ⊢;exact e
      · exact hm0.2.2.2.2.2.2
    · rw[cnd_F c]
      exact⟨_,rfl,rfl,hm0,hMb0,hto0,hs0.lo,hs0.hi⟩
  · rintro⟨n',m⟩ ⟨en',hm,hMb,hto,hlo,hhi⟩
    simp only at en' hm hMb hto hlo hhi
    have en2:=en'.symm
    subst en2
    try simp only
    obtain ⟨e1, e2⟩ := put_take N (by omega) hm (by have := hm.2.2.2.2.2.2; have := hMb.pl; by_cases c : m.1 = 2 ∨ m.1 = 5
                                                    · have q:=hm.2.2.2.2.2.2;unfold Fits at q;rw[if_pos c] at q;have:=q.2.2.1.2.1;omega
                                                    · have q:=hm.2.2.2.2.2.1;rw[q];unfold ownF;rw[if_neg (fun z=>c (.inl z)),if_neg (fun z=>c (.inr z))];repeat' split
                                                      all_goals (show ([]:List Int).length≤900;simp))
    rw[e1,obind_s]
    obtain⟨L,x,T,ec,hD⟩:=comes_gen N (by omega) hn hm hMb hlo hhi e2 (by rw[hto,hTid])
    rw[ec,obind_s]
    try simp only
    have hlog:=hD.log
    obtain⟨G,hG⟩:∃G,n.2.2.2.2.1.2.2.2.2.1=G:=⟨_,rfl⟩
    obtain⟨H,hH⟩:∃H,x.2.2.2.2.1.2.2.2.2.1=H:=⟨_,rfl⟩
    rw[hG,hH] at hlog
    rw[hG,hH]
    have hHl:H.length=G.length+T.length:=by rw[hlog,List.length_append]
    rw[cnd_F (by omega),dT (show (0:Int)≤(G.length:Int) by omega),dT (show (G.length:Int)≤(H.length:Int) by omega),Bool.and_self,cnd_t,obind_s,Int.toNat_natCast,List.take_length,hlog,List.drop_left]
    try simp only
    obtain⟨K,hK⟩:∃K,x.2.2.2.1.2.2.2.2.2.2.2.2.2.2.2.2=K:=⟨_,rfl⟩
    have hkw:=hD.kw
    have hll:=hD.ll
    have htl:=hD.tl
    have hnak:=hD.nak
    have hdn:=hD.dn
    have hko:=hD.ko
    rw[hK] at hkw hdn
    have hKl:=hkw.len (by omega)
    have bb:∀(k L:Nat),k<L→(decide ((0:Int)≤(k:Int))&&decide ((k:Int)<(L:Int)))=true:=fun k L h=>by rw[dT (show (0:Int)≤(k:Int) by omega),dT (show (k:Int)<(L:Int) by omega)];rfl
    refine loop_G (σ:=Int×Ms×Nd) (ρ:=PUnit⊕Bool) (β:=Bool) (·=some true) (fun k v=>v=((k:Int),m,x)∧k≤K.length) K.length (fun r=>r=.inl ()) ⟨rfl,by omega⟩ (by omega) ?_ (fun k v h=>h.2) ?_
    · rintro r rfl;rfl
    · rintro k v ⟨rfl,hk⟩
      try simp only
      rw[hK]
      by_cases z:k<K.length
      case neg=>
        right
        rw[cnd_F (show ¬(k:Int)<(K.length:Int) by omega)]
        exact⟨_,rfl,rfl⟩
      left
      rw[cnd_T (show (k:Int)<(K.length:Int) by omega)]
      have hkm:K.getD k ((0:Int),(0:Int),(0:Int))∈K:=getD_memK z
      have hkb:=bb _ _ z
      obtain⟨q,hq⟩:∃q,(K.getD k ((0:Int),(0:Int),(0:Int))).1=q:=⟨_,rfl⟩
      have hdq:m.1≠8→fil q L=T.map fun e=>downE x e q:=fun c=>hdn c q ⟨_,hkm,hq⟩
      refine loop_G (σ:=Int×Int×Ms×Nd) (ρ:=(Int×Ms×Nd)⊕Bool) (β:=(Int×Ms×Nd)⊕(PUnit⊕Bool)) (fun o=>∃y,o=some (.inl y)∧y=(((k+1:Nat):Int),m,x)∧k+1≤K.length)
        (fun i v=>∃a:Nat,v=((a:Int),(i:Int),m,x)∧i≤L.length∧(m.1=8→a=0)∧(m.1≠8→a=(fil q (L.take i)).length)) L.length (fun r=>r=.inl ((T.length:Int),m,x)) ⟨0,rfl,by omega,fun _=>rfl,fun _=>by simp[fil]⟩ (by omega) ?_ (fun k v h=>by obtain⟨a,_,h,_⟩:=h;exact h) ?_
      · rintro r rfl
        simp only[selim]
        rw[cnd_F (fun w=>w rfl),wr_m (z:=(k:Int)+1) (by omega) (by omega)]
        exact⟨_,rfl,rfl,by omega⟩
      · rintro i v ⟨a,rfl,hi,ha8,han⟩
        try simp only
        by_cases zi:i<L.length
        case neg=>
          right
          rw[cnd_F (show ¬(i:Int)<(L.length:Int) by omega)]
          refine⟨_,rfl,?_⟩
          by_cases c8:m.1=8
          · rw[ha8 c8,(hnak c8).1];rfl
          · rw[han c8,List.take_of_length_le (by omega),hdq c8,List.length_map]
        left
        rw[cnd_T (show (i:Int)<(L.length:Int) by omega),hK]
        have hib:=bb _ _ zi
        have hem:L.getD i ((0:Int),(0:Int),(0:Int),(0:Int),(0:Int),(0:Int),([]:List Int),(0:Int),(0:Int),([]:List UInt8))∈L:=by
          rw[List.getD_eq_getElem?_getD,List.getElem?_eq_getElem zi];exact List.getElem_mem zi
        have hst:=fil_step (q:=q) ((0:Int),(0:Int),(0:Int),(0:Int),(0:Int),(0:Int),([]:List Int),(0:Int),(0:Int),([]:List UInt8)) zi
        have hsp:m.1≠8→(fil q (L.take (i+1))).length≤T.length∧∀j,j<(fil q (L.take (i+1))).length→(fil q (L.take (i+1)))[j]? = (T.map fun e=>downE x e q)[j]?:=fun c=>by
          have e:=fil_split (q:=q) (l:=L) (i:=i+1)
          rw[hdq c] at e
          refine⟨?_,fun j hj=>?_⟩
          · have:=congrArg List.length e
            rw[List.length_map,List.length_append] at this
            omega
          · rw[e,List.getElem?_append_left hj]
        obtain⟨e,he⟩:∃e:Ms,L.getD i ((0:Int),(0:Int),(0:Int),(0:Int),(0:Int),(0:Int),([]:List Int),(0:Int),(0:Int),([]:List UInt8))=e:=⟨_,rfl⟩
        rw[he] at hem hst
        simp only[hib,hkb,cnd_t,Int.toNat_natCast,he,hq]
        have skip:¬(e.2.2.1=q∧(e.1=7∨e.1=9))→m.1≠8→a=(fil q (L.take (i+1))).length:=fun c c8=>by rw[hst,if_neg c];exact han c8
        rw[wr_m (z:=(i:Int)+1) (by omega) (by omega)]
        by_cases b1:e.2.2.1=q
        case neg=>
          rw[cnd_T b1,obind_s,selim_r,obind_s,selim_l]
          exact⟨_,rfl,a,by simp,by omega,ha8,skip (fun w=>b1 w.1)⟩
        rw[cnd_F (fun w=>w b1)]
        by_cases b2:e.1=7∨e.1=9
        case neg=>
          rw[cnd_T (show e.1≠7 by omega),cnd_T (show e.1≠9 by omega),obind_s,selim_r,obind_s,selim_l]
          exact⟨_,rfl,a,by simp,by omega,ha8,skip (fun w=>b2 w.2)⟩
        have hin:cnd (decide (e.1≠7)) (cnd (decide (e.1≠9)) (some (Sum.inr (m,x))) (some (Sum.inl (m,x)))) (some (Sum.inl (m,x)))=some (Sum.inl (m,x):(Ms×Nd)⊕(Ms×Nd)):=by
          by_cases b3:e.1=7
          · rw[cnd_F (fun w=>w b3)]
          · rw[cnd_T b3,cnd_F (by omega)]
        rw[hin,obind_s,selim_l]
        by_cases c8:m.1=8
        · have hto:=(hnak c8).2 e hem b2
          rw[cnd_T c8,cnd_T hto,obind_s,selim_r,obind_s,selim_l]
          exact⟨_,rfl,a,by simp,by omega,ha8,fun w=>absurd c8 w⟩
        rw[cnd_F c8,obind_s,selim_l]
        obtain⟨s1,s2⟩:=hsp c8
        rw[if_pos ⟨b1,b2⟩] at hst
        have hal:=han c8
        have hln:(fil q (L.take (i+1))).length=a+1:=by rw[hst,List.length_append,←hal];rfl
        have haT:a<T.length:=by omega
        have hea:=s2 a (by omega)
        rw[hst,List.getElem?_append_right (by omega),hal,Nat.sub_self,←hal,List.getElem?_map,List.getElem?_eq_getElem haT] at hea
        simp only[List.getElem?_cons_zero,Option.map_some,Option.some.injEq] at hea
        have hab:=bb _ _ haT
        obtain⟨E,hE⟩:∃E:Ev,T.getD a ((0:Int),(0:Int),(0:Int),([]:List UInt8),(0:Int))=E:=⟨_,rfl⟩
        have hE2:T[a]=E:=by rw[←hE,List.getD_eq_getElem?_getD,List.getElem?_eq_getElem haT];rfl
        have hEk:=hko E (by rw[←hE2];exact List.getElem_mem haT)
        rw[hE2] at hea
        rw[cnd_F (show ¬(T.length:Int)≤(a:Int) by omega)]
        simp only[hab,cnd_t,hE]
        have f1:e.2.2.2.2.2.2.2.1=E.2.1:=by rw[hea];exact downE_lo x E q
        have f0:=downE_kind x E q
        rw[←hea] at f0
        rw[cnd_F (fun w=>w f1),wr_m (z:=(a:Int)+1) (by omega) (by omega)]
        have fin:∃y,obind (some (Sum.inl ((a:Int)+1,m,x)):Option ((Int×Ms×Nd)⊕Bool)) (fun b=>selim (fun b:Int×Ms×Nd=>some (Sum.inl (b.1,(i:Int)+1,b.2))) (fun c:Bool=>some (Sum.inr (Sum.inr c))) b)=(some (Sum.inl y):Option ((Int×Int×Ms×Nd)⊕((Int×Ms×Nd)⊕Bool)))∧∃a:Nat,y=((a:Int),((i+1:Nat):Int),m,x)∧i+1≤L.length∧(m.1=8→a=0)∧(m.1≠8→a=(fil q (L.take (i+1))).length):=
          ⟨_,rfl,a+1,by simp,by omega,fun w=>absurd w c8,fun _=>hln.symm⟩
        rcases hEk with k1 | k2
        · rw[if_pos k1] at f0
          have ft:e.2.2.2.2.2.2.2.2.2=E.2.2.2.1:=by rw[hea];unfold downE;rw[if_pos k1];rfl
          rw[cnd_T f0,cnd_F (fun w=>w k1),ft]
          simp only[beq_self_eq_true,Bool.not_true,cnd_f]
          rw[cnd_F (show ¬e.1=9 by omega)]
          exact fin
        · rw[if_neg (by omega)] at f0
          have ft:e.2.2.2.2.2.2.2.2.1=E.2.2.1:=by rw[hea];unfold downE;rw[if_neg (by omega)];rfl
          rw[cnd_F (show ¬e.1=7 by omega),cnd_T f0,cnd_F (fun w=>w k2),cnd_F (fun w=>w ft)]
          exact fin
def NN:Nat:=20000
theorem begun_ok:W_bu NN ()=some true:=by decide +kernel
theorem law_true (y0:List Int) (y1:List Int) (y2:Int) (h0:Twf (.list (.int .u8)) y0) (h1:Twf (.list (.int .u8)) y1) (h2:Twf (.int .u8) y2):W_bH NN (y0,y1,y2)=some true:=
  law_aux NN (Nat.le_refl _) begun_ok y0 y1 (fun w hw=>h0.2 w hw) (fun w hw=>h1.2 w hw) y2 h2

theorem spec (y0:List Int) (y1:List Int) (y2:Int) (h0:Twf (.list (.int .u8)) y0) (h1:Twf (.list (.int .u8)) y1) (h2:Twf (.int .u8) y2):Spec2 P0 4 [valW (.list (.int .u8)) y0,valW (.list (.int .u8)) y1,valW (.int .u8) y2] [] (.bs true) [] []:=(con_bH_ok NN).2 (y0,y1,y2) true (law_true y0 y1 y2 h0 h1 h2)
theorem lifted (os:Os) (started:os.Started) (H:Type) (enc:TypeId×Value→H):
    ReturnsInHanded {} Tryz.checked os 4 .any (Rows.nodeDownSpec.pre6 enc Tryz.prog Tryz.f4 Rows.nodeDownRow.domain false) (Rows.nodeDownSpec.post enc Tryz.prog Tryz.f4 false true false false):=by
  refine returnsInHanded_of_change (C:=Tryz.checked) own started (by kernel_rfl) Tryz.func4
    (ChangeSpec.witness6 (enc:=enc) (C:=Tryz.checked) false ⟨#[],#[.slice none 0 0,.slice none 0 0,.int .u8 0],[]⟩ 8 (by kernel_rfl) (by kernel_rfl) (by kernel_rfl) (by kernel_rfl)) ?_
  intro W base args ds gs before hval0 hW hcnd _
  have hval:∀(j:Nat) t v,Tryz.f4.params[j]? = some t→args[j]? = some v→Value.okWide Tryz.prog W .any base t v:=hval0
  have hW':=hW
  obtain⟨p,q,hA0,hV,rfl,hfz,hnd⟩:=hW
  have hA:DataW.TrodAll enc Tryz.prog W 0 (fun _=>true) true Tryz.f4.params.toList args.toList ds p:=hA0
  rw[Tryz.params4] at hA hval
  obtain⟨v0,vs0,d0,ds0,p0,q0,hargs,rfl,rfl,h0,r0⟩:=trodAll_cons hA
  obtain⟨v1,vs1,d1,ds1,p1,q1,rfl,rfl,rfl,h1,r1⟩:=trodAll_cons r0
  obtain⟨v2,vs2,d2,ds2,p2,q2,rfl,rfl,rfl,h2,r2⟩:=trodAll_cons r1
  obtain⟨rfl,rfl,rfl⟩:=trodAll_nil r2
  obtain rfl:args=#[v0,v1,v2]:=by cases args;simp_all
  obtain⟨rfl,rfl⟩:=trodVars_none hV
  have k0:=h0
  have lt0:∀x∈p0,x.block<W.heap.size:=by obtain⟨m,hm⟩:=k0;exact DataW.trod_lt m _ _ _ hm
  obtain⟨y0,rp0,wf0⟩:=arg_ok (n:=12) (ty:=(.list (.int .u8))) (by kernel_rfl) (hval 0 _ v0 rfl rfl) h0
  have k1:=h1
  have lt1:∀x∈p1,x.block<W.heap.size:=by obtain⟨m,hm⟩:=k1;exact DataW.trod_lt m _ _ _ hm
  obtain⟨y1,rp1,wf1⟩:=arg_ok (n:=12) (ty:=(.list (.int .u8))) (by kernel_rfl) (hval 1 _ v1 rfl rfl) h1
  have k2:=h2
  have lt2:∀x∈p2,x.block<W.heap.size:=by obtain⟨m,hm⟩:=k2;exact DataW.trod_lt m _ _ _ hm
  obtain⟨y2,rp2,wf2⟩:=arg_ok (n:=12) (ty:=(.int .u8)) (by kernel_rfl) (hval 2 _ v2 rfl rfl) h2
  clear hA0 hval0
  refine(law_of2 (spec y0 y1 y2 wf0 wf1 wf2) W #[v0,v1,v2] (.cons rp0 (.cons rp1 (.cons rp2 .nil)))).mono fun e W' ⟨he,bel⟩=>?_
  subst he
  exact⟨_,rfl,_,_,_,[],_,[],hW',trodAll_mk1 (shut_bool Tryz.underlying4 _),(trodAll_cons_mk (Below.trod laidOut (by kernel_rfl) (of_decide_eq_true (by kernel_rfl)) k0 bel lt0) (trodAll_cons_mk (Below.trod laidOut (by kernel_rfl) (of_decide_eq_true (by kernel_rfl)) k1 bel lt1) (trodAll_cons_mk (Below.trod laidOut (by kernel_rfl) (of_decide_eq_true (by kernel_rfl)) k2 bel lt2) trodAll_mk0))),rfl,bel.frame _,fun h=>by cases h⟩

theorem over:Rows.nodeDownRow.holds Tryz.pinned (OpenSpec.ofChange Rows.nodeDownSpec):=
  OpenClaim.holds_of_wide 4 Tryz.f4 rfl rfl rfl rfl rfl rfl rfl ⟨rfl,rfl,rfl,rfl,rfl⟩ rfl rfl rfl rfl rfl (by kernel_rfl) Tryz.func4 (by kernel_rfl)
    (of_decide_eq_true (by kernel_rfl)) (by unfold Func.isWrapper;first | (rw[if_pos (by decide +kernel)];kernel_rfl) | (rw[if_neg (by decide +kernel)];exact⟨rfl,rfl⟩))
    (fun os started H enc _=>lifted os started H enc)

theorem holds:Rows.NodeDownSaid:=over
end
end Go.Proofs.YtgpgmncgbebgdaaGreat.nodeDownX
