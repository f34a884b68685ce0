/- TruthAll: for all arguments the call returns true. The law is brought to a function of Lean's own (W_..) by the machine of the texts beside it, and that is reckoned; no condition. -/
import Derived.Test.YtigfokfefnomjaaGreatTruthAllP0
namespace Go.Proofs.YtigfokfefnomjaaGreat.truthAllX
open Go.Abs Go.RowKit Go.ChangeShapes Go.WideShapes Go.ChangeAt
set_option maxRecDepth 100000
set_option linter.unusedVariables false
set_option linter.unusedSimpArgs false
noncomputable section
open Classical in
theorem rTake_any (N:Nat) (hN:1000≤N) {b:List Int} (hb:b.length≤300) (hU:U8 b):∃ok x,W_8 N b=some (ok,x)∧(ok=true→∃w,MayP w∧b=bd w++sm (bd w))∧(ok=false→x=zM):=by
  unfold W_8 V_8
  by_cases c4:(b.length:Int)<4
  · rw[dT c4,cnd_t];exact⟨_,_,rfl,fun q=>by (cases q),fun _=>rfl⟩
  rw[dF c4,cnd_f,wr_m (by omega) (by omega),dT (by omega),dT (by omega),Bool.and_self,cnd_t,List.drop_zero]
  have hl0:(b.take ((b.length:Int)-4).toNat).length≤300:=by rw[List.length_take];omega
  have hu0:U8 (b.take ((b.length:Int)-4).toNat):=U8_take hU _
  generalize b.take ((b.length:Int)-4).toNat=d at *
  obtain⟨k,d1,q1,e1,l1,u1,w1,r1⟩:=rrn_tot N hN (b:=d) false (by omega) hu0
  rw[e1,obind_s]
  try simp only
  obtain⟨f,d2,q2,e2,l2,u2,w2,r2⟩:=rrn_tot N hN (b:=d1) q1 (by omega) u1
  rw[e2,obind_s]
  try simp only
  obtain⟨t,d3,q3,e3,l3,u3,w3,r3⟩:=rrn_tot N hN (b:=d2) q2 (by omega) u2
  rw[e3,obind_s]
  try simp only
  obtain⟨i,d4,q4,e4,l4,u4,w4,r4⟩:=rrn_tot N hN (b:=d3) q3 (by omega) u3
  rw[e4,obind_s]
  try simp only
  obtain⟨e,d5,q5,e5,l5,u5,w5,r5⟩:=rrn_tot N hN (b:=d4) q4 (by omega) u4
  rw[e5,obind_s]
  try simp only
  obtain⟨a,d6,q6,e6,l6,u6,w6,r6⟩:=rrn_tot N hN (b:=d5) q5 (by omega) u5
  rw[e6,obind_s]
  try simp only
  obtain⟨n,d7,q7,e7,l7,u7,w7,r7⟩:=rrn_tot N hN (b:=d6) q6 (by omega) u6
  rw[e7,obind_s]
  try simp only
  refine loop_G (N:=N) (fun o=>∃(ok:Bool) (x:Ms),o=some (ok,x)∧(ok=true→∃w,MayP w∧b=bd w++sm (bd w))∧(ok=false→x=zM)) (fun j v=>∃(n:Int) (d':List Int) (er:Bool) (p:List Int),v=(n,St1 (d',er) k f t i e a p)∧0≤n∧n≤1073741824∧d'.length≤300∧U8 d'∧p.length=j∧j≤301∧(er=false→j+d'.length≤300)) 301
    (fun q=>∃(d':List Int) (er:Bool) (p:List Int),q=St1 (d',er) k f t i e a p∧d'.length≤300∧U8 d'∧p.length≤301) ⟨n,d7,q7,[],rfl,r7.1,r7.2,by omega,u7,rfl,by omega,fun _=>by omega⟩ (by omega) ?_ (fun j v ⟨_,_,_,_,_,_,_,_,_,_,h,_⟩=>h) ?_
  · rintro q ⟨d',er,p,rfl,hd,hud,hp⟩
    simp only[St1]
    obtain⟨lo,d8,q8,e8,l8,u8,w8,r8⟩:=rrn_tot N hN (b:=d') er (by omega) hud
    rw[e8,obind_s]
    try simp only
    obtain⟨hi,d9,q9,e9,l9,u9,w9,r9⟩:=rrn_tot N hN (b:=d8) q8 (by omega) u8
    rw[e9,obind_s]
    try simp only
    obtain⟨s,d10,q10,e10,hs⟩:=rrt_tot N hN (b:=d9) q9 (by omega) u9
    rw[e10,obind_s]
    try simp only
    cases q10 with
    | true=>rw[cnd_t];exact⟨_,_,rfl,fun q=>by (cases q),fun _=>rfl⟩
    | false=>
      have hP:=rPut_eq2 N hN (k,f,t,i,e,a,p,lo,hi,s) (by simp only;omega)
      rw[cnd_f,hP,obind_s,U8_all (pm_U8 _),cnd_t,U8_all hU,cnd_t,bytes_dec (pm_U8 _) hU]
      by_cases c:pm (k,f,t,i,e,a,p,lo,hi,s)=b
      · rw[dT c,Bool.not_true,cnd_f]
        refine⟨_,_,rfl,fun _=>⟨(k,f,t,i,e,a,p,lo,hi,s),?_⟩,fun q=>by (cases q)⟩
        unfold pm at c
        by_cases hm:MayP (k,f,t,i,e,a,p,lo,hi,s)
        · rw[if_pos hm] at c;exact⟨hm,c.symm⟩
        · rw[if_neg hm] at c
          subst c
          simp at c4
      · rw[dF c,Bool.not_false,cnd_t]
        exact⟨_,_,rfl,fun q=>by (cases q),fun _=>rfl⟩
  · rintro j v ⟨n,d',er,p,rfl,hn0,hn1,hd,hud,hp,hj,her⟩
    simp only[St1]
    by_cases c:0<n
    · rw[dT c,cnd_t]
      cases er with
      | true=>
        right
        rw[Bool.not_true,cnd_f]
        exact⟨_,rfl,d',true,p,rfl,hd,hud,by omega⟩
      | false=>
        left
        obtain⟨v,d8,q8,e8,l8,u8,w8,r8⟩:=rrn_tot N hN (b:=d') false (by omega) hud
        have hjd:=her rfl
        rw[Bool.not_false,cnd_t,e8,obind_s]
        try simp only
        exact⟨_,cnd_T (by simp only[List.length_cons,List.length_nil];omega),n-1,d8,q8,p++[v],by rw[wr_m (by omega) (by omega)],by omega,by omega,by omega,u8,by simp[hp],by omega,fun q=>by have:=(w8 q).2;omega⟩
    · right
      rw[dF c,cnd_f]
      exact⟨_,rfl,d',er,p,rfl,hd,hud,by omega⟩
abbrev Gr:=Int×List UInt8×Bool
abbrev gD:Gr:=((0:Int),([]:List UInt8),false)
theorem cnd_TT {α:Type} {p:Prop} {i:Decidable p} {x y:α} (h:p):cnd (true&&@decide p i) x y=x:=by rw[decide_eq_true h];rfl
theorem putL_set {α:Type} {l:List α} {p:Nat} (v:α) (hp:p<l.length):putL l [v] p=l.set p v:=by
  unfold putL
  rw[List.set_eq_take_append_cons_drop,if_pos hp]
  rfl
def xb (c:UInt8) (n:Nat):UInt8:=UInt8.ofNat (c.toNat ^^^ n)
abbrev by8_3 (s:List UInt8):List Int:=List.map (fun(b:UInt8)=>(↑(UInt8.toNat b):Int)) s
theorem by8_get (s:List UInt8) (p:Nat):(by8_3 s).getD p 0=((s.getD p 0).toNat:Int):=by
  rw[List.getD_eq_getElem?_getD,List.getD_eq_getElem?_getD,List.getElem?_map]
  cases s[p]?<;>rfl
def NoT (l:List Gr) (i to:Int):Prop:=¬(0≤i∧i<l.length)∨(l.getD i.toNat gD).2.2=true∨(l.getD i.toNat gD).2.1=[]∨to<0∨Int.tmod to 256=0
def tg (g:Gr) (to:Int):Gr:=(g.1,g.2.1.set ((to / 256).toNat % g.2.1.length) (xb (g.2.1.getD ((to / 256).toNat % g.2.1.length) 0) (to % 256).toNat),true)
theorem rSend_eq (N:Nat) (l:List Gr) (g:Gr) (hl:l.length≤1000):W_O N (l,g)=some (if 60≤l.length then l else l++[g]):=by
  unfold W_O V_O
  try simp only
  rw[dT (show List.length l*32≤140737488355328 by omega),cnd_t]
  by_cases h:60≤l.length
  · rw[dF (by omega),cnd_f,if_pos h]
  · rw[dT (by omega),cnd_t,dT (by simp only[List.length_singleton];omega),cnd_t,if_neg h]
theorem Gone_no (N:Nat) (l:List Gr) (i:Int) (h:¬(0≤i∧i<l.length)):W_0 N (l,i)=some (l,false,gD):=by
  unfold W_0 V_0
  try simp only
  by_cases h0:i<0
  · rw[dT h0,cnd_t]
  rw[dF h0,cnd_f,dT (by omega),cnd_t]
theorem Gone_yes (N:Nat) (l:List Gr) (i:Nat) (hl:l.length≤1000) (h:i<l.length):W_0 N (l,(i:Int))=some (l.take i++l.drop (i+1),true,l.getD i gD):=by
  unfold W_0 V_0
  try simp only
  have w:wr .i64 ((i:Int)+1)=((i+1:Nat):Int):=by rw[wr_m (by omega) (by omega)];omega
  have hl1:(List.drop 0 (List.take i l)).length≤1000:=by simp;omega
  have hl2:(List.drop (i+1) (List.take l.length l)).length≤1000:=by simp;omega
  have d1:((i+1:Nat):Int)≤l.length:=by omega
  rw[dF (by omega),cnd_f,dF (by omega),cnd_f,w]
  clear w
  rw[dT (Int.natCast_nonneg i),dT (show (i:Int)≤l.length by omega),Bool.and_self,cnd_t,Int.toNat_natCast,Int.toNat_natCast,dT (show _*32≤140737488355328 by omega),cnd_t,dT (Int.natCast_nonneg _),dT d1,Bool.and_self,cnd_t,dT (show (_+_)*32≤140737488355328 by omega),cnd_t,dT (show (i:Int)<l.length by omega),Bool.and_self,cnd_t,List.take_length,List.drop_zero]
theorem rTwice_no (N:Nat) (l:List Gr) (i:Int) (h:¬(0≤i∧i<l.length)∨60≤l.length):W_3 N (l,i)=some (l,false):=by
  unfold W_3 V_3
  try simp only
  by_cases h0:i<0
  · rw[dT h0,cnd_t,obind_s,cnd_t]
  rw[dF h0,cnd_f,obind_s]
  by_cases h1:(l.length:Int)≤i
  · rw[dT h1,cnd_t]
  rw[dF h1,cnd_f,dT (by omega),cnd_t]
theorem rTwice_yes (N:Nat) (l:List Gr) (i:Nat) (h:i<l.length) (h6:l.length<60):W_3 N (l,(i:Int))=some (l++[l.getD i gD],true):=by
  have hs:=rSend_eq N l (l.getD i gD) (by omega)
  rw[if_neg (by omega)] at hs
  unfold W_3 V_3
  try simp only
  rw[dF (by omega),cnd_f,obind_s,dF (by omega),cnd_f,dF (by omega),cnd_f,dT (by omega),dT (by omega),Bool.and_self,cnd_t,Int.toNat_natCast]
  exact(congrArg (fun o=>obind o fun b=>some (b,true)) hs)
theorem xor8 {a b:Int} (ha:0≤a∧a≤255) (hb:0≤b∧b≤255):(((BitVec.ofInt 8 a ^^^ BitVec.ofInt 8 b).toNat:Nat):Int)=((a.toNat ^^^ b.toNat:Nat):Int):=by
  rw[BitVec.toNat_xor,BitVec.toNat_ofInt,BitVec.toNat_ofInt]
  have e:∀v:Int,0≤v∧v≤255→(v % ((2 ^ 8:Nat):Int)).toNat=v.toNat:=fun v h=>by
    have:v % ((2 ^ 8:Nat):Int)=v:=Int.emod_eq_of_lt h.1 (by omega)
    rw[this]
  rw[e a ha,e b hb]
theorem set_by8 (s:List UInt8) (p n:Nat):List.map (fun(n:Int)=>UInt8.ofNat (Int.toNat n)) ((by8_3 s).set p (((s.getD p 0).toNat ^^^ n:Nat):Int))=s.set p (xb (s.getD p 0) n):=by
  rw[List.map_set,List.map_map]
  have e2:List.map ((fun(n:Int)=>UInt8.ofNat (Int.toNat n))∘fun(b:UInt8)=>(↑(UInt8.toNat b):Int)) s=s:=by
    conv=>rhs;rw[←List.map_id s]
    apply List.map_congr_left
    intro b _
    simp
  rw[e2]
  simp only[Int.toNat_natCast]
  rfl
theorem all_by8 (s:List UInt8) (p n:Nat) (hn:n≤255):(List.all ((by8_3 s).set p (((s.getD p 0).toNat ^^^ n:Nat):Int)) fun(n:Int)=>decide ((0:Int)≤n)&&decide (n<(256:Int)))=true:=by
  have hc:(s.getD p 0).toNat<256:=(s.getD p 0).toNat_lt
  have hx:(s.getD p 0).toNat ^^^ n<2 ^ 8:=Nat.xor_lt_two_pow (by omega) (by omega)
  rw[List.all_eq_true]
  intro x hx'
  rcases List.mem_or_eq_of_mem_set hx' with h | h
  · obtain⟨c,_,rfl⟩:=List.mem_map.1 h
    have:=c.toNat_lt
    simp only[Bool.and_eq_true,decide_eq_true_eq];omega
  · subst h
    simp only[Bool.and_eq_true,decide_eq_true_eq];omega
theorem rTurned_no (N:Nat) (l:List Gr) (i to:Int) (h:NoT l i to):W_1 N (l,i,to)=some (l,false):=by
  unfold W_1 V_1
  try simp only
  by_cases h0:i<0
  · rw[dT h0];simp only[cnd_t,obind_s]
  rw[dF h0]
  simp only[cnd_f,obind_s]
  by_cases h1:(l.length:Int)≤i
  · rw[dT h1];simp only[cnd_t,obind_s]
  have hi:0≤i∧i<l.length:=by omega
  rw[dF h1,dT hi.1,dT hi.2,Bool.and_self]
  simp only[cnd_t,cnd_f,obind_s]
  generalize hg:l.getD i.toNat gD=g at *
  obtain⟨a,s,t⟩:=g
  have hg':l.getD i.toNat ((0:Int),[],false)=(a,s,t):=hg
  simp only[hg']
  by_cases ht:t=true
  · subst ht
    simp only[cnd_t,obind_s]
  have ht:t=false:=by simpa using ht
  subst ht
  simp only[cnd_f,obind_s]
  by_cases hs:s=[]
  · subst hs
    rw[dT (show ((List.length ([]:List UInt8):Nat):Int)=0 from rfl)]
    simp only[cnd_t,obind_s]
  have hsl:¬((s.length:Nat):Int)=0:=fun e=>hs (List.eq_nil_of_length_eq_zero (by omega))
  rw[dF hsl]
  simp only[cnd_f,obind_s]
  by_cases h0:to<0
  · rw[dT h0,cnd_t]
  rw[dF h0,cnd_f]
  unfold NoT at h
  rw[hg] at h
  have h256:Int.tmod to 256=0:=by
    rcases h with q | q | q | q | q
    · exact absurd hi q
    · cases q
    · exact absurd q hs
    · exact absurd q h0
    · exact q
  rw[dT h256,cnd_t]
theorem rTurned_yes (N:Nat) (l:List Gr) (i:Int) (to:Int) (hl:l.length≤1000) (hto:to≤9223372036854775807) (h:¬NoT l i to):W_1 N (l,i,to)=some (l.set i.toNat (tg (l.getD i.toNat gD) to),true):=by
  unfold W_1 V_1
  unfold NoT at h
  have hi:(0:Int)≤i∧i<l.length:=Classical.byContradiction fun q=>h (.inl q)
  have hil:i.toNat<l.length:=by omega
  try simp only
  rw[dF (show ¬i<0 by omega)]
  simp only[cnd_f,obind_s]
  rw[dF (show ¬(l.length:Int)≤i by omega),dT hi.1,dT hi.2,Bool.and_self]
  simp only[cnd_t,cnd_f,obind_s]
  unfold tg
  generalize hg:l.getD i.toNat gD=g at *
  obtain⟨a,s,t⟩:=g
  have hg':l.getD i.toNat ((0:Int),[],false)=(a,s,t):=hg
  simp only[hg']
  simp only at h
  have ht:t=false:=by
    cases t
    · rfl
    · exact absurd (.inr (.inl rfl)) h
  subst ht
  have hs:s≠[]:=fun q=>h (.inr (.inr (.inl q)))
  have h0:¬to<0:=fun q=>h (.inr (.inr (.inr (.inl q))))
  have h256:¬Int.tmod to 256=0:=fun q=>h (.inr (.inr (.inr (.inr q))))
  clear h
  have hsl:¬((s.length:Nat):Int)=0:=fun e=>hs (List.eq_nil_of_length_eq_zero (by omega))
  have hsp:0<s.length:=by omega
  have hbl:(by8_3 s).length=s.length:=by simp
  simp only[cnd_f,obind_s]
  rw[dF hsl]
  simp only[cnd_f,obind_s]
  rw[dF h0,cnd_f,dF h256,cnd_f,dT (show List.length l*32≤140737488355328 by omega),cnd_t]
  have w1:Int.tmod (wr .i64 (Int.tdiv to 256)) (((by8_3 s).length:Nat):Int)=(((to / 256).toNat % s.length:Nat):Int):=by
    rw[hbl,Int.tdiv_eq_ediv_of_nonneg (by omega),wr_i64 (by omega) (by omega),Int.tmod_eq_emod_of_nonneg (by omega)]
    rw[Int.natCast_emod,Int.toNat_of_nonneg (by omega)]
  have w2:wr .u8 (Int.tmod to 256)=(((to % 256).toNat:Nat):Int):=by
    rw[Int.tmod_eq_emod_of_nonneg (by omega),wr_u8 (by omega) (by omega)];omega
  have hn:(to % 256).toNat≤255:=by omega
  have hp:(to / 256).toNat % s.length<s.length:=Nat.mod_lt _ hsp
  have hbz:¬(((by8_3 s).length:Nat):Int)=0:=by rw[hbl];exact hsl
  rw[dF hbz,Bool.not_false,cnd_t,w1,w2]
  clear w1 w2 hbz
  generalize (to / 256).toNat % s.length=p at *
  generalize (to % 256).toNat=n at *
  have hpb:((p:Nat):Int)<(((by8_3 s).length:Nat):Int):=by rw[hbl];omega
  have hc:(s.getD p 0).toNat<256:=(s.getD p 0).toNat_lt
  have hx:(s.getD p 0).toNat ^^^ n<2 ^ 8:=Nat.xor_lt_two_pow (by omega) (by omega)
  have e1:wr .u8 (((BitVec.ofInt 8 ((by8_3 s).getD p 0) ^^^ BitVec.ofInt 8 (n:Int)).toNat:Nat):Int)=(((s.getD p 0).toNat ^^^ n:Nat):Int):=by
    rw[by8_get,xor8 (by omega) (by omega),Int.toNat_natCast,Int.toNat_natCast,wr_u8 (by omega) (by omega)]
  rw[dT (Int.natCast_nonneg p),dT hpb,Bool.and_self,cnd_t,cnd_t,Int.toNat_natCast,e1,putL_set _ (by rw[hbl];exact hp),all_by8 s p n hn,cnd_t,set_by8]
  clear e1
  generalize s.set p (xb (s.getD p 0) n)=s'
  have e1:∀v:Gr,putL l [v] i.toNat=l.set i.toNat v:=fun v=>putL_set v hil
  have e2:∀v w:Gr,putL (l.set i.toNat v) [w] i.toNat=l.set i.toNat w:=fun v w=>by rw[putL_set w (by simpa using hil),List.set_set]
  have e3:∀v:Gr,(l.set i.toNat v).getD i.toNat ((0:Int),[],false)=v:=fun v=>by rw[List.getD_eq_getElem?_getD,List.getElem?_set,if_pos rfl,if_pos hil];rfl
  have e4:∀v:Gr,(putL l [v] i.toNat).length=l.length:=fun v=>by rw[e1,List.length_set]
  refine(cnd_TT ?_).trans ?_
  · rw[e4];exact hi.2
  · simp only[e1,e2,e3]
def atL (l:List UInt8) (k:Nat):Nat:=(l.getD k 0).toNat
def ctL (l:List UInt8) (k:Nat):Bool:=decide (k<l.length)&&atL l k / 64==2
def dkN (b0 a1 a2 a3:Nat) (c1 c2 c3:Bool):Nat×Nat:=
  if b0<0x80 then(b0,1)
  else if b0 / 32==6&&c1 then
    if (b0 % 32)*64+a1 % 64 ≥ 0x80 then((b0 % 32)*64+a1 % 64,2) else(65533,1)
  else if b0 / 16==14&&c1&&c2 then
    if (b0 % 16)*4096+(a1 % 64)*64+a2 % 64 ≥ 0x800&&Utf8.valid ((b0 % 16)*4096+(a1 % 64)*64+a2 % 64:Nat) then((b0 % 16)*4096+(a1 % 64)*64+a2 % 64,3) else(65533,1)
  else if b0 / 8==30&&c1&&c2&&c3 then
    if (b0 % 8)*262144+(a1 % 64)*4096+(a2 % 64)*64+a3 % 64 ≥ 0x10000&&Utf8.valid ((b0 % 8)*262144+(a1 % 64)*4096+(a2 % 64)*64+a3 % 64:Nat) then((b0 % 8)*262144+(a1 % 64)*4096+(a2 % 64)*64+a3 % 64,4) else(65533,1)
  else(65533,1)
def dk (l:List UInt8):Nat×Nat:=dkN (atL l 0) (atL l 1) (atL l 2) (atL l 3) (ctL l 1) (ctL l 2) (ctL l 3)
theorem dkN_w (b0 a1 a2 a3:Nat) (c1 c2 c3:Bool):1≤(dkN b0 a1 a2 a3 c1 c2 c3).2∧(dkN b0 a1 a2 a3 c1 c2 c3).2≤4:=by
  unfold dkN
  repeat' split
  all_goals simp
theorem dk_w (l:List UInt8):1≤(dk l).2∧(dk l).2≤4:=dkN_w _ _ _ _ _ _ _
theorem ct_lt {l:List UInt8} {k:Nat} (h:ctL l k=true):k<l.length:=by
  unfold ctL at h
  simp at h
  exact h.1
theorem dk_len (l:List UInt8) (h:l≠[]):(dk l).2≤l.length:=by
  have h1:1≤l.length:=by cases l with | nil=>exact(h rfl).elim | cons=>simp
  unfold dk dkN
  split
  · exact h1
  split
  · rename_i g
    simp at g
    have:=ct_lt g.2
    split
    · exact this
    · exact h1
  split
  · rename_i g
    simp at g
    have:=ct_lt g.2
    split
    · exact this
    · exact h1
  split
  · rename_i g
    simp at g
    have:=ct_lt g.2
    split
    · exact this
    · exact h1
  · exact h1
def hpL (l:List UInt8):Bool:=decide (3≤l.length)&&(l.take 3==[(239:UInt8),191,189])
def vl (l:List UInt8):Int:=if ((dk l).1:Int)=65533 then(if hpL l=true then wr .i64 ((dk l).1:Int) else -1) else wr .i64 ((dk l).1:Int)
theorem hp_dk (l:List UInt8) (h:hpL l=true):dk l=(65533,3):=by
  unfold hpL at h
  simp at h
  obtain⟨h1,h2⟩:=h
  match l,h1,h2 with
  | a::b::c::r,_,h2=>
    simp at h2
    obtain⟨rfl,rfl,rfl⟩:=h2
    have l1:decide (1<(r.length+1+1+1))=true:=decide_eq_true (by omega)
    have l2:decide (2<(r.length+1+1+1))=true:=decide_eq_true (by omega)
    simp[dk,atL,ctL,dkN,l1,l2,Utf8.valid]
def letsN:Nat→List UInt8→List Int
  | 0,_=>[]
  | k+1,l=>if l=[] then [] else vl l::letsN k (l.drop (dk l).2)
theorem letsN_nil (k:Nat):letsN k []=[]:=by cases k<;>simp[letsN]
theorem drop_lt (l:List UInt8) (h:l≠[]):(l.drop (dk l).2).length<l.length:=by
  have:=(dk_w l).1
  have h1:1≤l.length:=by cases l with | nil=>exact(h rfl).elim | cons=>simp
  rw[List.length_drop]
  omega
theorem letsN_fuel:∀(k k2:Nat) (l:List UInt8),l.length≤k→l.length≤k2→letsN k l=letsN k2 l
  | 0,k2,l,h,_=>by
    have:l=[]:=List.eq_nil_of_length_eq_zero (by omega)
    subst this
    rw[letsN_nil,letsN_nil]
  | k+1,0,l,_,h=>by
    have:l=[]:=List.eq_nil_of_length_eq_zero (by omega)
    subst this
    rw[letsN_nil,letsN_nil]
  | k+1,k2+1,l,h1,h2=>by
    unfold letsN
    split
    · rfl
    · rename_i hn
      have:=drop_lt l hn
      rw[letsN_fuel k k2 _ (by omega) (by omega)]
def LL (l:List UInt8):List Int:=letsN l.length l
theorem LL_nil:LL []=[]:=rfl
theorem LL_cons (l:List UInt8) (h:l≠[]):LL l=vl l::LL (l.drop (dk l).2):=by
  unfold LL
  obtain⟨k,hk⟩:∃k,l.length=k+1:=⟨l.length-1,by cases l with | nil=>exact(h rfl).elim | cons=>simp⟩
  have:=drop_lt l h
  rw[hk]
  rw[letsN,if_neg h,letsN_fuel k _ _ (by omega) (Nat.le_refl _)]
theorem list_ind {p:List UInt8→Prop} (h0:p []) (h1:∀l,l≠[]→p (l.drop (dk l).2)→p l) (l:List UInt8):p l:=by
  have key:∀(k:Nat) (l:List UInt8),l.length≤k→p l:=by
    intro k
    induction k with
    | zero=>intro l h;have:l=[]:=List.eq_nil_of_length_eq_zero (by omega);subst this;exact h0
    | succ k ih=>
      intro l h
      by_cases hn:l=[]
      · subst hn;exact h0
      · exact h1 l hn (ih _ (by have:=drop_lt l hn;omega))
  exact key l.length l (Nat.le_refl _)
theorem u8_lt (b:UInt8):b.toNat<256:=UInt8.toNat_lt b
theorem at_lt (l:List UInt8) (k:Nat):atL l k<256:=u8_lt _
theorem loop_inl {σ ρ:Type} {f:σ→Option (σ⊕ρ)} {n:Nat} {x y:σ} (h:f x=some (.inl y)):loopN (n+1) f x=loopN n f y:=by
  simp only[loopN,h]
theorem loop_inr {σ ρ:Type} {f:σ→Option (σ⊕ρ)} {n:Nat} {x:σ} {r:ρ} (h:f x=some (.inr r)):loopN (n+1) f x=some r:=by
  simp only[loopN,h]
theorem vl_bad {l:List UInt8} (h:dk l=(65533,1)):vl l=-1:=by
  have hp:hpL l=false:=by
    cases q:hpL l with
    | false=>rfl
    | true=>
      have:=hp_dk l q
      rw[h] at this
      injection this with _ e
      cases e
  unfold vl
  rw[h,hp]
  rfl
theorem vl_good {l:List UInt8} {c n:Nat} (h:dk l=(c,n)) (hc:c≠65533) (hb:c<1114112):vl l=c:=by
  unfold vl
  rw[h]
  try simp only
  rw[if_neg (by omega)]
  exact wr_i64 (z:=(c:Int)) (by omega) (by omega)
theorem vl_fffd {l:List UInt8} (h:dk l=(65533,3)) (hp:hpL l=true):vl l=65533:=by
  unfold vl
  rw[h,hp]
  exact wr_i64 (z:=65533) (by omega) (by omega)
def refC (l:List UInt8):Nat→Nat→Int→Option Int
  | 0,_,c=>some c
  | k+1,i,c=>if (atL l i:Int)<128∨191<(atL l i:Int) then none else refC l k (i+1) (c*64+atL l i-128)
def refM (l:List UInt8) (c:Int) (n:Nat) (least:Int):Int×Int:=
  if (l.length:Int)<n then(-1,1) else
    match refC l (n-1) 1 c with
    | none=>(-1,1)
    | some v=>if v<least∨1114111<v∨(55296≤v∧v≤57343) then(-1,1) else(v,n)
def refL (l:List UInt8):Int×Int:=
  if atL l 0<128 then(atL l 0,1)
  else if 194≤atL l 0∧atL l 0≤223 then refM l (atL l 0-192) 2 128
  else if 224≤atL l 0∧atL l 0≤239 then refM l (atL l 0-224) 3 2048
  else if 240≤atL l 0∧atL l 0≤244 then refM l (atL l 0-240) 4 65536
  else(-1,1)
theorem ct_iff (l:List UInt8) (k:Nat):ctL l k=true↔(k<l.length∧128≤atL l k∧atL l k≤191):=by
  unfold ctL
  rw[Bool.and_eq_true,decide_eq_true_iff,beq_iff_eq]
  omega
theorem ct_no (l:List UInt8) (k:Nat) (h:¬(k<l.length∧128≤atL l k∧atL l k≤191)):ctL l k=false:=by
  cases q:ctL l k with
  | false=>rfl
  | true=>exact absurd ((ct_iff l k).1 q) h
theorem hp_of:∀(l:List UInt8),3≤l.length→atL l 0=239→atL l 1=191→atL l 2=189→hpL l=true
  | x::y::z::r,h,a0,a1,a2=>by
    have x1:x=239:=UInt8.toNat_inj.1 a0
    have y1:y=191:=UInt8.toNat_inj.1 a1
    have z1:z=189:=UInt8.toNat_inj.1 a2
    subst x1 y1 z1
    unfold hpL
    rw[decide_eq_true h];rfl
  | [_,_],h,_,_,_=>by simp at h
  | [_],h,_,_,_=>by simp at h
  | [],h,_,_,_=>by simp at h
theorem refL2 (l:List UInt8) (d2:194≤atL l 0∧atL l 0≤223) (bad:dk l=(65533,1)→((-1:Int),(1:Int))=(vl l,((dk l).2:Int))) (good:∀c n,dk l=(c,n)→c≠65533→c<1114112→((c:Int),(n:Int))=(vl l,((dk l).2:Int))):refM l (atL l 0-192) 2 128=(vl l,((dk l).2:Int)):=by
  have h0:=at_lt l 0;have h1:=at_lt l 1;have h2:=at_lt l 2;have h3:=at_lt l 3
  have ct:∀k,ctL l k=true↔(k<l.length∧128≤atL l k∧atL l k≤191):=ct_iff l
  have ctf:∀k,¬(k<l.length∧128≤atL l k∧atL l k≤191)→ctL l k=false:=ct_no l
  have c1:¬atL l 0<128:=by omega
  have C1:∀i (c:Int),refC l 1 i c=if (atL l i:Int)<128∨191<(atL l i:Int) then none else some (c*64+atL l i-128):=fun i c=>rfl
  have C2:∀i (c:Int),refC l 2 i c=if (atL l i:Int)<128∨191<(atL l i:Int) then none else refC l 1 (i+1) (c*64+atL l i-128):=fun i c=>rfl
  have C3:∀i (c:Int),refC l 3 i c=if (atL l i:Int)<128∨191<(atL l i:Int) then none else refC l 2 (i+1) (c*64+atL l i-128):=fun i c=>rfl
  have bt:∀{b:Bool},∀{α:Type} {x y:α},b=true→(if b=true then x else y)=x:=fun h=>if_pos h
  have bf:∀{b:Bool},∀{α:Type} {x y:α},b=false→(if b=true then x else y)=y:=fun {b} {α} {x y} h=>if_neg (by rw[h];decide)
  have h32:(atL l 0 / 32==6)=true:=beq_iff_eq.2 (by omega)
  have h16:(atL l 0 / 16==14)=false:=beq_eq_false_iff_ne.2 (by omega)
  have h8:(atL l 0 / 8==30)=false:=beq_eq_false_iff_ne.2 (by omega)
  unfold refM
  by_cases k1:1<l.length∧128≤atL l 1∧atL l 1≤191
  · rw[if_neg (by omega),show 2-1=1 from rfl,C1,if_neg (by omega)]
    try simp only
    rw[if_neg (by omega)]
    have e:dk l=((atL l 0 % 32)*64+atL l 1 % 64,2):=by
      unfold dk dkN
      rw[if_neg c1,h32,(ct 1).2 k1,Bool.and_self,bt rfl,if_pos (by omega)]
    rw[←good _ _ e (by omega) (by omega)]
    exact Prod.ext (by simp only;omega) rfl
  · rw[←bad (by
      unfold dk dkN
      rw[if_neg c1,ctf 1 k1,h16,h8]
      simp only[Bool.and_false,Bool.false_and,Bool.false_eq_true,if_false])]
    by_cases q:(l.length:Int)<(2:Nat)
    · rw[if_pos q]
    · rw[if_neg q,show 2-1=1 from rfl,C1,if_pos (by omega)]
theorem refL3 (l:List UInt8) (d3:224≤atL l 0∧atL l 0≤239) (bad:dk l=(65533,1)→((-1:Int),(1:Int))=(vl l,((dk l).2:Int))) (good:∀c n,dk l=(c,n)→c≠65533→c<1114112→((c:Int),(n:Int))=(vl l,((dk l).2:Int))):refM l (atL l 0-224) 3 2048=(vl l,((dk l).2:Int)):=by
  have h0:=at_lt l 0;have h1:=at_lt l 1;have h2:=at_lt l 2;have h3:=at_lt l 3
  have ct:∀k,ctL l k=true↔(k<l.length∧128≤atL l k∧atL l k≤191):=ct_iff l
  have ctf:∀k,¬(k<l.length∧128≤atL l k∧atL l k≤191)→ctL l k=false:=ct_no l
  have c1:¬atL l 0<128:=by omega
  have C1:∀i (c:Int),refC l 1 i c=if (atL l i:Int)<128∨191<(atL l i:Int) then none else some (c*64+atL l i-128):=fun i c=>rfl
  have C2:∀i (c:Int),refC l 2 i c=if (atL l i:Int)<128∨191<(atL l i:Int) then none else refC l 1 (i+1) (c*64+atL l i-128):=fun i c=>rfl
  have C3:∀i (c:Int),refC l 3 i c=if (atL l i:Int)<128∨191<(atL l i:Int) then none else refC l 2 (i+1) (c*64+atL l i-128):=fun i c=>rfl
  have bt:∀{b:Bool},∀{α:Type} {x y:α},b=true→(if b=true then x else y)=x:=fun h=>if_pos h
  have bf:∀{b:Bool},∀{α:Type} {x y:α},b=false→(if b=true then x else y)=y:=fun {b} {α} {x y} h=>if_neg (by rw[h];decide)
  have h32:(atL l 0 / 32==6)=false:=beq_eq_false_iff_ne.2 (by omega)
  have h16:(atL l 0 / 16==14)=true:=beq_iff_eq.2 (by omega)
  have h8:(atL l 0 / 8==30)=false:=beq_eq_false_iff_ne.2 (by omega)
  unfold refM
  by_cases k1:(1<l.length∧128≤atL l 1∧atL l 1≤191)∧(2<l.length∧128≤atL l 2∧atL l 2≤191)
  · rw[if_neg (by omega),show 3-1=2 from rfl,C2,if_neg (by omega),C1,if_neg (by
      show ¬((atL l 2:Int)<128∨191<(atL l 2:Int));omega)]
    try simp only
    have e0:dk l=if (decide ((atL l 0 % 16)*4096+(atL l 1 % 64)*64+atL l 2 % 64 ≥ 0x800)&&Utf8.valid ((atL l 0 % 16)*4096+(atL l 1 % 64)*64+atL l 2 % 64:Nat))=true then((atL l 0 % 16)*4096+(atL l 1 % 64)*64+atL l 2 % 64,3) else(65533,1):=by
      unfold dk dkN
      rw[if_neg c1,h32,h16,(ct 1).2 k1.1,(ct 2).2 k1.2]
      rfl
    obtain⟨v,hv⟩:∃v,(atL l 0 % 16)*4096+(atL l 1 % 64)*64+atL l 2 % 64=v:=⟨_,rfl⟩
    rw[hv] at e0
    rw[show ((((atL l 0:Int)-224)*64+(atL l 1:Int)-128)*64+((atL l (1+1):Nat):Int)-128)=(v:Int) by
      show ((((atL l 0:Int)-224)*64+(atL l 1:Int)-128)*64+((atL l 2:Nat):Int)-128)=(v:Int)
      omega]
    by_cases q:(v:Int)<2048∨1114111<(v:Int)∨(55296≤(v:Int)∧(v:Int)≤57343)
    · rw[if_pos q]
      refine bad (e0.trans (bf ?_))
      unfold Utf8.valid
      by_cases q1:v ≥ 0x800
      · rw[decide_eq_true q1,Bool.true_and,decide_eq_false (show ¬(v:Int)<0xD800 by omega),decide_eq_false (show ¬0xE000≤(v:Int) by omega),Bool.and_false,Bool.false_and];rfl
      · rw[decide_eq_false q1,Bool.false_and]
    · rw[if_neg q]
      have e:dk l=(v,3):=e0.trans (bt (by
        unfold Utf8.valid
        rw[decide_eq_true (show v ≥ 0x800 by omega),Bool.true_and,decide_eq_true (show (0:Int)≤(v:Int) by omega),Bool.true_and]
        by_cases q1:(v:Int)<0xD800
        · rw[decide_eq_true q1];rfl
        · rw[decide_eq_false q1,decide_eq_true (show 0xE000≤(v:Int) by omega),decide_eq_true (show (v:Int)≤0x10FFFF by omega)];rfl))
      by_cases w:v=65533
      · have hp:hpL l=true:=hp_of l (by omega) (by omega) (by omega) (by omega)
        rw[w] at e ⊢
        rw[vl_fffd e hp,e];rfl
      · exact good v 3 e w (by omega)
  · rw[←bad (by
      have:(ctL l 1&&ctL l 2)=false:=by
        by_cases k2:1<l.length∧128≤atL l 1∧atL l 1≤191
        · rw[ctf 2 (fun q=>k1 ⟨k2,q⟩),Bool.and_false]
        · rw[ctf 1 k2,Bool.false_and]
      unfold dk dkN
      rw[if_neg c1,h32,h16,h8]
      simp only[Bool.true_and,this,Bool.and_false,Bool.false_and,Bool.false_eq_true,if_false])]
    by_cases q:(l.length:Int)<(3:Nat)
    · rw[if_pos q]
    · rw[if_neg q,show 3-1=2 from rfl,C2]
      by_cases q1:(atL l 1:Int)<128∨191<(atL l 1:Int)
      · rw[if_pos q1]
      · rw[if_neg q1,C1,if_pos (by
          show (atL l 2:Int)<128∨191<(atL l 2:Int)
          omega)]
theorem refL4 (l:List UInt8) (d4:240≤atL l 0∧atL l 0≤244) (bad:dk l=(65533,1)→((-1:Int),(1:Int))=(vl l,((dk l).2:Int))) (good:∀c n,dk l=(c,n)→c≠65533→c<1114112→((c:Int),(n:Int))=(vl l,((dk l).2:Int))):refM l (atL l 0-240) 4 65536=(vl l,((dk l).2:Int)):=by
  have h0:=at_lt l 0;have h1:=at_lt l 1;have h2:=at_lt l 2;have h3:=at_lt l 3
  have ct:∀k,ctL l k=true↔(k<l.length∧128≤atL l k∧atL l k≤191):=ct_iff l
  have ctf:∀k,¬(k<l.length∧128≤atL l k∧atL l k≤191)→ctL l k=false:=ct_no l
  have c1:¬atL l 0<128:=by omega
  have C1:∀i (c:Int),refC l 1 i c=if (atL l i:Int)<128∨191<(atL l i:Int) then none else some (c*64+atL l i-128):=fun i c=>rfl
  have C2:∀i (c:Int),refC l 2 i c=if (atL l i:Int)<128∨191<(atL l i:Int) then none else refC l 1 (i+1) (c*64+atL l i-128):=fun i c=>rfl
  have C3:∀i (c:Int),refC l 3 i c=if (atL l i:Int)<128∨191<(atL l i:Int) then none else refC l 2 (i+1) (c*64+atL l i-128):=fun i c=>rfl
  have bt:∀{b:Bool},∀{α:Type} {x y:α},b=true→(if b=true then x else y)=x:=fun h=>if_pos h
  have bf:∀{b:Bool},∀{α:Type} {x y:α},b=false→(if b=true then x else y)=y:=fun {b} {α} {x y} h=>if_neg (by rw[h];decide)
  have h32:(atL l 0 / 32==6)=false:=beq_eq_false_iff_ne.2 (by omega)
  have h16:(atL l 0 / 16==14)=false:=beq_eq_false_iff_ne.2 (by omega)
  have h8:(atL l 0 / 8==30)=true:=beq_iff_eq.2 (by omega)
  unfold refM
  by_cases k1:(1<l.length∧128≤atL l 1∧atL l 1≤191)∧(2<l.length∧128≤atL l 2∧atL l 2≤191)∧(3<l.length∧128≤atL l 3∧atL l 3≤191)
  · rw[if_neg (by omega),show 4-1=3 from rfl,C3,if_neg (by omega),C2,if_neg (by
      show ¬((atL l 2:Int)<128∨191<(atL l 2:Int));omega),C1,if_neg (by
      show ¬((atL l 3:Int)<128∨191<(atL l 3:Int));omega)]
    try simp only
    have e0:dk l=if (decide ((atL l 0 % 8)*262144+(atL l 1 % 64)*4096+(atL l 2 % 64)*64+atL l 3 % 64 ≥ 0x10000)&&Utf8.valid ((atL l 0 % 8)*262144+(atL l 1 % 64)*4096+(atL l 2 % 64)*64+atL l 3 % 64:Nat))=true then((atL l 0 % 8)*262144+(atL l 1 % 64)*4096+(atL l 2 % 64)*64+atL l 3 % 64,4) else(65533,1):=by
      unfold dk dkN
      rw[if_neg c1,h32,h16,h8,(ct 1).2 k1.1,(ct 2).2 k1.2.1,(ct 3).2 k1.2.2]
      rfl
    obtain⟨v,hv⟩:∃v,(atL l 0 % 8)*262144+(atL l 1 % 64)*4096+(atL l 2 % 64)*64+atL l 3 % 64=v:=⟨_,rfl⟩
    rw[hv] at e0
    rw[show (((((atL l 0:Int)-240)*64+(atL l 1:Int)-128)*64+((atL l (1+1):Nat):Int)-128)*64+((atL l (1+1+1):Nat):Int)-128)=(v:Int) by
      show (((((atL l 0:Int)-240)*64+(atL l 1:Int)-128)*64+((atL l 2:Nat):Int)-128)*64+((atL l 3:Nat):Int)-128)=(v:Int)
      omega]
    by_cases q:(v:Int)<65536∨1114111<(v:Int)∨(55296≤(v:Int)∧(v:Int)≤57343)
    · rw[if_pos q]
      refine bad (e0.trans (bf ?_))
      unfold Utf8.valid
      by_cases q1:v ≥ 0x10000
      · rw[decide_eq_true q1,Bool.true_and,decide_eq_false (show ¬(v:Int)<0xD800 by omega),decide_eq_false (show ¬(v:Int)≤0x10FFFF by omega),Bool.and_false,Bool.and_false];rfl
      · rw[decide_eq_false q1,Bool.false_and]
    · rw[if_neg q]
      have e:dk l=(v,4):=e0.trans (bt (by
        unfold Utf8.valid
        rw[decide_eq_true (show v ≥ 0x10000 by omega),Bool.true_and,decide_eq_true (show 0xE000≤(v:Int) by omega),decide_eq_true (show (v:Int)≤0x10FFFF by omega),Bool.and_self,Bool.or_true]))
      exact good v 4 e (by omega) (by omega)
  · rw[←bad (by
      have:(ctL l 1&&ctL l 2&&ctL l 3)=false:=by
        by_cases k2:1<l.length∧128≤atL l 1∧atL l 1≤191
        · by_cases k3:2<l.length∧128≤atL l 2∧atL l 2≤191
          · rw[ctf 3 (fun q=>k1 ⟨k2,k3,q⟩),Bool.and_false]
          · rw[ctf 2 k3,Bool.and_false,Bool.false_and]
        · rw[ctf 1 k2,Bool.false_and,Bool.false_and]
      unfold dk dkN
      rw[if_neg c1,h32,h16,h8]
      simp only[Bool.true_and,this,Bool.and_false,Bool.false_and,Bool.false_eq_true,if_false])]
    by_cases q:(l.length:Int)<(4:Nat)
    · rw[if_pos q]
    · rw[if_neg q,show 4-1=3 from rfl,C3]
      by_cases q1:(atL l 1:Int)<128∨191<(atL l 1:Int)
      · rw[if_pos q1]
      · rw[if_neg q1,C2]
        by_cases q2:((atL l (1+1):Nat):Int)<128∨191<((atL l (1+1):Nat):Int)
        · rw[if_pos q2]
        · have q2':¬((atL l 2:Int)<128∨191<(atL l 2:Int)):=q2
          rw[if_neg q2,C1,if_pos (by
            show (atL l 3:Int)<128∨191<(atL l 3:Int)
            omega)]
theorem refL5 (l:List UInt8) (c1:¬atL l 0<128) (d2:¬(194≤atL l 0∧atL l 0≤223)) (d3:¬(224≤atL l 0∧atL l 0≤239)) (d4:¬(240≤atL l 0∧atL l 0≤244)) (bad:dk l=(65533,1)→((-1:Int),(1:Int))=(vl l,((dk l).2:Int))):((-1:Int),(1:Int))=(vl l,((dk l).2:Int)):=by
  have h0:=at_lt l 0;have h1:=at_lt l 1;have h2:=at_lt l 2;have h3:=at_lt l 3
  refine bad ?_
  unfold dk dkN
  rw[if_neg c1]
  by_cases z1:atL l 0<194
  · have h16:(atL l 0 / 16==14)=false:=beq_eq_false_iff_ne.2 (by omega)
    have h8:(atL l 0 / 8==30)=false:=beq_eq_false_iff_ne.2 (by omega)
    rw[h16,h8]
    simp only[Bool.false_and,Bool.false_eq_true,if_false]
    split
    · rename_i w
      rw[Bool.and_eq_true,beq_iff_eq] at w
      rw[if_neg (by omega)]
    · rfl
  · have h32:(atL l 0 / 32==6)=false:=beq_eq_false_iff_ne.2 (by omega)
    have h16:(atL l 0 / 16==14)=false:=beq_eq_false_iff_ne.2 (by omega)
    rw[h32,h16]
    simp only[Bool.false_and,Bool.false_eq_true,if_false]
    split
    · rename_i w
      rw[Bool.and_eq_true,Bool.and_eq_true,Bool.and_eq_true,beq_iff_eq] at w
      rw[if_neg]
      intro w2
      unfold Utf8.valid at w2
      rw[decide_eq_false (show ¬(((atL l 0 % 8)*262144+(atL l 1 % 64)*4096+(atL l 2 % 64)*64+atL l 3 % 64:Nat):Int)<0xD800 by omega),decide_eq_false (show ¬(((atL l 0 % 8)*262144+(atL l 1 % 64)*4096+(atL l 2 % 64)*64+atL l 3 % 64:Nat):Int)≤0x10FFFF by omega)] at w2
      simp at w2
    · rfl
theorem refL_eq (l:List UInt8):refL l=(vl l,((dk l).2:Int)):=by
  have h0:=at_lt l 0
  have bad:dk l=(65533,1)→((-1:Int),(1:Int))=(vl l,((dk l).2:Int)):=fun h=>by rw[vl_bad h,h];rfl
  have good:∀c n,dk l=(c,n)→c≠65533→c<1114112→((c:Int),(n:Int))=(vl l,((dk l).2:Int)):=fun c n h a b=>by rw[vl_good h a b,h]
  unfold refL
  by_cases c1:atL l 0<128
  · rw[if_pos c1]
    refine good (atL l 0) 1 ?_ (by omega) (by omega)
    unfold dk dkN
    rw[if_pos c1]
  rw[if_neg c1]
  by_cases d2:194≤atL l 0∧atL l 0≤223
  · rw[if_pos d2];exact refL2 l d2 bad good
  rw[if_neg d2]
  by_cases d3:224≤atL l 0∧atL l 0≤239
  · rw[if_pos d3];exact refL3 l d3 bad good
  rw[if_neg d3]
  by_cases d4:240≤atL l 0∧atL l 0≤244
  · rw[if_pos d4];exact refL4 l d4 bad good
  rw[if_neg d4]
  exact refL5 l c1 d2 d3 d4 bad
theorem rLetter_eq (N : Nat) (hN : 1000 ≤ N) (l : List UInt8) (hl : l ≠ []) (hlen : l.length ≤ 1000) : W_aO N l = some (vl l, ((dk l).2 : Int)) := by
  rw[←refL_eq]
  have hl0:0<l.length:=List.length_pos_iff.2 hl
  have h0:=at_lt l 0
  have e0:wr .i64 ((List.getD l 0 (0:UInt8)).toNat:Int)=(atL l 0:Int):=wr_m (by omega) (by have:(List.getD l 0 (0:UInt8)).toNat=atL l 0:=rfl;omega)
  obtain⟨M,rfl⟩:∃M,N=M+4:=⟨N-4,by omega⟩
  unfold W_aO V_aO
  rw[dT (Int.le_refl (0:Int)),dT (show (0:Int)<l.length by omega),Bool.and_self,cnd_t]
  simp only[e0]
  unfold refL
  by_cases c1:atL l 0<128
  · rw[dT (show (atL l 0:Int)<128 by omega),cnd_t,obind_s,selim_r,if_pos c1]
  rw[dF (show ¬(atL l 0:Int)<128 by omega),cnd_f,if_neg c1]
  have key : ∀ (c : Int) (n : Nat) (least : Int), 0 ≤ c → c ≤ 63 → 2 ≤ n → n ≤ 4 → (cnd (decide ((l.length : Int) < (n : Int))) (some ((-1 : Int), (1 : Int))) (obind (loopN (M + 4) (fun (v : Int × Int) =>
                cnd (decide (Prod.snd v<(n:Int)))
                  (cnd (decide ((0 : Int) ≤ Prod.snd v) && decide (Prod.snd v < (↑(List.length l) : Int)))
                    (cnd (decide ((↑(UInt8.toNat (List.getD l (Int.toNat (Prod.snd v)) (0 : UInt8))) : Int) < (128 : Int)))
                      (some (Sum.inr (Sum.inr ((-1:Int),(1:Int)))))
                      (cnd (decide ((0 : Int) ≤ Prod.snd v) && decide (Prod.snd v < (↑(List.length l) : Int)))
                        (cnd (decide ((191 : Int) < (↑(UInt8.toNat (List.getD l (Int.toNat (Prod.snd v)) (0 : UInt8))) : Int)))
                          (some (Sum.inr (Sum.inr ((-1:Int),(1:Int)))))
                          (cnd (decide ((0 : Int) ≤ Prod.snd v) && decide (Prod.snd v < (↑(List.length l) : Int)))
                            (some
                              (Sum.inl
                                (wr IntKind.i64
                                    (wr IntKind.i64
                                        (wr IntKind.i64 (Prod.fst v*(64:Int)) +
                                          wr IntKind.i64
                                            (↑(UInt8.toNat (List.getD l (Int.toNat (Prod.snd v)) (0:UInt8))):Int)) -
                                      (128:Int)),
                                  wr IntKind.i64 (Prod.snd v+(1:Int)))))
                            none))
                        none))
                    none)
                  (some (Sum.inr (Sum.inl (Prod.fst v))))) (c,(1:Int))) fun(b_1:Int⊕Int×Int)=>
            selim
              (fun (b_2 : Int) =>
                obind (cnd (decide (b_2<least)) (some true) (some (decide ((1114111:Int)<b_2))))
                  fun(b_3:Bool)=>
                  cnd b_3 (some ((-1:Int),(1:Int)))
                    (cnd (decide ((55296:Int)≤b_2))
                      (cnd (decide (b_2≤(57343:Int))) (some ((-1:Int),(1:Int)))
                        (some (b_2,(n:Int))))
                      (some (b_2,(n:Int)))))
              (fun(c:Int×Int)=>some (Prod.fst c,Prod.snd c)) b_1))=some (refM l c n least):=fun c n least hc0 hc1 hn2 hn4=>by
    unfold refM
    by_cases q:(l.length:Int)<(n:Int)
    · rw[dT q,cnd_t,if_pos q]
    rw[dF q,cnd_f,if_neg q]
    generalize hF:(fun(v:Int×Int)=>_)=F
    have step:∀(i:Nat) (c:Int),i<n→0≤c→c≤2147483648→F (c,(i:Int))=if (atL l i:Int)<128∨191<(atL l i:Int) then some (.inr (.inr (-1,1))) else some (.inl (c*64+atL l i-128,((i+1:Nat):Int))):=fun i c hi a b=>by
      subst hF
      have hb:=at_lt l i
      have eb:((UInt8.toNat (List.getD l i (0:UInt8)):Nat):Int)=(atL l i:Int):=rfl
      simp only[Int.toNat_natCast,eb]
      rw[dT (show (i:Int)<(n:Int) by omega),cnd_t,dT (show (0:Int)≤(i:Int) by omega),dT (show (i:Int)<(l.length:Int) by omega),Bool.and_self,cnd_t]
      by_cases k1:(atL l i:Int)<128
      · rw[dT k1,cnd_t,if_pos (.inl k1)]
      rw[dF k1,cnd_f,cnd_t]
      by_cases k2:191<(atL l i:Int)
      · rw[dT k2,cnd_t,if_pos (.inr k2)]
      rw[dF k2,cnd_f,cnd_t,if_neg (by omega),wr_m (z:=c*64) (by omega) (by omega),wr_m (z:=((atL l i:Nat):Int)) (by omega) (by omega),wr_m (z:=c*64+(atL l i:Int)) (by omega) (by omega),wr_m (z:=c*64+(atL l i:Int)-128) (by omega) (by omega),wr_m (z:=(i:Int)+1) (by omega) (by omega)]
      rfl
    have stop:∀(c:Int),F (c,(n:Int))=some (.inr (.inl c)):=fun c=>by
      subst hF
      try simp only
      rw[dF (show ¬(n:Int)<(n:Int) by omega),cnd_f]
    have run:∀(k:Nat) (i:Nat) (c:Int) (m:Nat),i+k=n→k≤3→0≤c→(k=3→c≤63)→(k=2→c≤4095)→(k=1→c≤262143)→loopN (m+k+1) F (c,(i:Int))=some (match refC l k i c with | none=>.inr (-1,1) | some v=>.inl v):=fun k=>by
      induction k with
      | zero=>
        intro i c m hi hk a b1 b2 b3
        have:i=n:=by omega
        subst this
        rw[loop_inr (stop c)]
        rfl
      | succ k ih=>
        intro i c m hi hk a b1 b2 b3
        have hst:=step i c (by omega) a (by omega)
        have hb:=at_lt l i
        have er:refC l (k+1) i c=if (atL l i:Int)<128∨191<(atL l i:Int) then none else refC l k (i+1) (c*64+atL l i-128):=rfl
        rw[er]
        by_cases w:(atL l i:Int)<128∨191<(atL l i:Int)
        · rw[if_pos w] at hst ⊢
          rw[loop_inr hst]
        · rw[if_neg w] at hst ⊢
          rw[show m+(k+1)+1=(m+k+1)+1 by omega,loop_inl hst]
          exact ih (i+1) _ m (by omega) (by omega) (by omega) (by omega) (by omega) (by omega)
    have r:=run (n-1) 1 c (M+4-n) (by omega) (by omega) hc0 (by omega) (by omega) (by omega)
    rw[show M+4-n+(n-1)+1=M+4 by omega] at r
    refine(congrArg (fun o=>obind o _) r).trans ?_
    rw[obind_s]
    cases hr:refC l (n-1) 1 c with
    | none=>rfl
    | some v=>
      try simp only
      rw[selim_l]
      by_cases w1:v<least
      · rw[dT w1,cnd_t,obind_s,cnd_t,if_pos (.inl w1)]
      rw[dF w1,cnd_f,obind_s]
      by_cases w2:1114111<v
      · rw[dT w2,cnd_t,if_pos (.inr (.inl w2))]
      rw[dF w2,cnd_f]
      by_cases w3:55296≤v
      · rw[dT w3,cnd_t]
        by_cases w4:v≤57343
        · rw[dT w4,cnd_t,if_pos (.inr (.inr ⟨w3,w4⟩))]
        · rw[dF w4,cnd_f,if_neg (by omega)]
      · rw[dF w3,cnd_f,if_neg (by omega)]
  have s2:∀z:Int,0≤z→z≤255→wr .i64 z=z:=fun z a b=>wr_m (by omega) (by omega)
  by_cases d2:194≤atL l 0∧atL l 0≤223
  · rw[dT (show (194:Int)≤(atL l 0:Int) by omega),cnd_t,dT (show (atL l 0:Int)≤223 by omega),cnd_t,obind_s,selim_l,if_pos d2,s2 _ (by omega) (by omega)]
    exact key (atL l 0-192) 2 128 (by omega) (by omega) (by omega) (by omega)
  rw[if_neg d2]
  by_cases d3:224≤atL l 0∧atL l 0≤239
  · rw[dT (show (194:Int)≤(atL l 0:Int) by omega),cnd_t,dF (show ¬(atL l 0:Int)≤223 by omega),cnd_f,dT (show (224:Int)≤(atL l 0:Int) by omega),cnd_t,dT (show (atL l 0:Int)≤239 by omega),cnd_t,obind_s,selim_l,if_pos d3,s2 _ (by omega) (by omega)]
    exact key (atL l 0-224) 3 2048 (by omega) (by omega) (by omega) (by omega)
  rw[if_neg d3]
  by_cases d4:240≤atL l 0∧atL l 0≤244
  · rw[dT (show (194:Int)≤(atL l 0:Int) by omega),cnd_t,dF (show ¬(atL l 0:Int)≤223 by omega),cnd_f,dT (show (224:Int)≤(atL l 0:Int) by omega),cnd_t,dF (show ¬(atL l 0:Int)≤239 by omega),cnd_f,dT (show (240:Int)≤(atL l 0:Int) by omega),cnd_t,dT (show (atL l 0:Int)≤244 by omega),cnd_t,obind_s,selim_l,if_pos d4,s2 _ (by omega) (by omega)]
    exact key (atL l 0-240) 4 65536 (by omega) (by omega) (by omega) (by omega)
  rw[if_neg d4]
  by_cases z1:194≤atL l 0
  · rw[dT (show (194:Int)≤(atL l 0:Int) by omega),cnd_t,dF (show ¬(atL l 0:Int)≤223 by omega),cnd_f,dT (show (224:Int)≤(atL l 0:Int) by omega),cnd_t,dF (show ¬(atL l 0:Int)≤239 by omega),cnd_f,dT (show (240:Int)≤(atL l 0:Int) by omega),cnd_t,dF (show ¬(atL l 0:Int)≤244 by omega),cnd_f,obind_s,selim_r]
  · rw[dF (show ¬(194:Int)≤(atL l 0:Int) by omega),cnd_f,dF (show ¬(224:Int)≤(atL l 0:Int) by omega),cnd_f,dF (show ¬(240:Int)≤(atL l 0:Int) by omega),cnd_f,obind_s,selim_r]
theorem LL_le (l:List UInt8):(LL l).length≤l.length:=by
  refine list_ind (p:=fun l=>(LL l).length≤l.length) (by simp[LL_nil]) ?_ l
  intro l hn ih
  have:=drop_lt l hn
  rw[LL_cons l hn,List.length_cons]
  omega
theorem rLetters_eq (N:Nat) (hN:2000≤N) (x:List UInt8) (hx:x.length≤1000):W_aE N x=some (LL x):=by
  unfold W_aE V_aE
  refine loop_post (σ:=List UInt8×List Int) (ρ:=List Int) (β:=List Int) (fun o=>o=some (LL x)) (fun v=>v.2++LL v.1=LL x∧v.1.length≤x.length) (fun v=>v.1.length) (fun r=>r=LL x) ⟨rfl,Nat.le_refl _⟩ (by simp only;omega) (fun r h=>by rw[h]) ?_
  rintro⟨s,acc⟩ ⟨h1,h2⟩
  simp only at h1 h2 ⊢
  by_cases c:(0:Int)<s.length
  case neg=>
    right
    have:s=[]:=List.eq_nil_of_length_eq_zero (by omega)
    subst this
    rw[dF c,cnd_f]
    rw[LL_nil,List.append_nil] at h1
    exact⟨_,rfl,h1⟩
  left
  have hn:s≠[]:=fun e=>by rw[e] at c;simp at c
  have hw:=dk_w s
  have hl:=dk_len s hn
  have hlx:=LL_le x
  have ha:acc.length≤x.length:=by
    have:=congrArg List.length h1
    rw[List.length_append] at this
    omega
  rw[dT c,cnd_t,rLetter_eq N (by omega) s hn (by omega),obind_s]
  try simp only
  rw[dT (show (acc.length+[vl s].length)*8≤140737488355328 by rw[List.length_singleton];omega),cnd_t,dT (show (0:Int)≤((dk s).2:Int) by omega),dT (show ((dk s).2:Int)≤s.length by omega),Bool.and_self,cnd_t,Int.toNat_natCast,List.take_length]
  refine⟨_,rfl,⟨?_,?_⟩,?_⟩
  · simp only
    rw[←h1,LL_cons s hn,List.append_assoc];rfl
  · simp only[List.length_drop];omega
  · simp only[List.length_drop];omega
def okc (c:Int):Prop:=¬(c<33∨(127≤c∧c≤159))
open Classical in
def nameM (L:List Int):Bool:=decide ((∀c∈L,okc c)∧1≤L.length∧L.length≤8)
open Classical in
theorem rName_eq (N:Nat) (hN:2000≤N) (x:List UInt8) (hx:x.length≤1000):W_as N x=some (nameM (LL x)):=by
  have hlx:=LL_le x
  unfold W_as V_as
  rw[rLetters_eq N hN x hx,obind_s]
  generalize LL x=L at hlx ⊢
  refine loop_post (σ:=Int) (ρ:=Unit⊕Bool) (β:=Bool) (fun o=>o=some (nameM L)) (fun v=>∃i:Nat,v=i∧i≤L.length∧∀j,j<i→okc (L.getD j 0)) (fun v=>L.length-v.toNat) (fun r=>(r=.inl ()∧∀c∈L,okc c)∨(r=.inr false∧∃c∈L,¬okc c)) ⟨0,rfl,by omega,fun j hj=>by omega⟩ (by simp;omega) ?_ ?_
  · rintro r (⟨rfl,h⟩ | ⟨rfl,c,hc,h⟩)
    · rw[selim_l]
      unfold nameM
      by_cases c1:1≤L.length
      · rw[dT (show (1:Int)≤L.length by omega),cnd_t]
        by_cases c2:L.length≤8
        · rw[dT (show (L.length:Int)≤8 by omega),decide_eq_true (show (∀c∈L,okc c)∧1≤L.length∧L.length≤8 from⟨h,c1,c2⟩)]
        · rw[dF (show ¬(L.length:Int)≤8 by omega),decide_eq_false (fun q:(∀c∈L,okc c)∧1≤L.length∧L.length≤8=>c2 q.2.2)]
      · rw[dF (show ¬(1:Int)≤L.length by omega),cnd_f,decide_eq_false (fun q:(∀c∈L,okc c)∧1≤L.length∧L.length≤8=>c1 q.2.1)]
    · rw[selim_r]
      unfold nameM
      rw[decide_eq_false (fun q:(∀c∈L,okc c)∧1≤L.length∧L.length≤8=>h (q.1 c hc))]
  rintro v ⟨i,rfl,hi,ha⟩
  by_cases c:(i:Int)<L.length
  case neg=>
    right
    rw[dF c,cnd_f]
    refine⟨_,rfl,.inl ⟨rfl,fun d hd=>?_⟩⟩
    obtain⟨j,hj,e⟩:=List.getElem_of_mem hd
    have:=ha j (by omega)
    rw[List.getD_eq_getElem?_getD,List.getElem?_eq_getElem hj] at this
    rw[←e];exact this
  have hm:L.getD i 0∈L:=by
    rw[List.getD_eq_getElem?_getD,List.getElem?_eq_getElem (show i<L.length by omega)];exact List.getElem_mem _
  have dc:(decide ((0:Int)≤(i:Int))&&decide ((i:Int)<(L.length:Int)))=true:=by rw[dT (show (0:Int)≤(i:Int) by omega),dT c];rfl
  simp only[dc,dT c,cnd_t,Int.toNat_natCast]
  by_cases k1:L.getD i 0<33
  · right
    rw[dT k1,cnd_t]
    exact⟨_,rfl,.inr ⟨rfl,_,hm,fun q=>q (.inl k1)⟩⟩
  rw[dF k1,cnd_f]
  have go:okc (L.getD i 0)→∀j,j<i+1→okc (L.getD j 0):=fun q j hj=>by
    by_cases e:j=i
    · subst e;exact q
    · exact ha j (by omega)
  by_cases k2:127≤L.getD i 0
  · rw[dT k2,cnd_t]
    by_cases k3:L.getD i 0≤159
    · right
      rw[dT k3,cnd_t]
      exact⟨_,rfl,.inr ⟨rfl,_,hm,fun q=>q (.inr ⟨k2,k3⟩)⟩⟩
    · left
      rw[dF k3,cnd_f,wr_m (by omega) (by omega)]
      exact⟨_,rfl,⟨i+1,by omega,by omega,go fun q=>by omega⟩,by omega⟩
  · left
    rw[dF k2,cnd_f,wr_m (by omega) (by omega)]
    exact⟨_,rfl,⟨i+1,by omega,by omega,go fun q=>by omega⟩,by omega⟩
structure Wt (B:Int) (t:TT):Prop where
  b:Tb B t
  k:∀k∈t.2.2.2.2.2.2.2.2.2.2.2.2,0≤k.2.2∧k.2.2≤B
theorem Wt.of {B B':Int} {t u:TT} (h:Wt B t) (hu:Tb B' u) (hB:B≤B') (hs:∀k∈u.2.2.2.2.2.2.2.2.2.2.2.2,k∈t.2.2.2.2.2.2.2.2.2.2.2.2∨k.2.2=t.2.2.1):Wt B' u:=by
  refine⟨hu,fun k hk=>?_⟩
  rcases hs k hk with q | q
  · have:=h.k k q;omega
  · have hb:=h.b
    obtain⟨id,inc,now,par,pinc,grd,path,ep,born,ask,unt,stp,kids⟩:=t
    obtain⟨h1,h2,h3⟩:=hb
    simp only at q
    omega
theorem Wt.mono {B B':Int} {t:TT} (h:Wt B t) (hB:B≤B'):Wt B' t:=h.of (h.b.mono hB) hB fun k hk=>.inl hk
theorem tick1_kids (t:TT):∀k∈(tick1 t).2.2.2.2.2.2.2.2.2.2.2.2,k∈t.2.2.2.2.2.2.2.2.2.2.2.2:=by
  obtain⟨id,inc,now,par,pinc,grd,path,ep,born,ask,unt,stp,kids⟩:=t
  rw[tick1_def]
  split
  · exact fun k hk=>(List.mem_filter.1 hk).1
  · exact fun k hk=>(List.mem_filter.1 hk).1
theorem tick2_kids (t:TT):(tick2 t).2.2.2.2.2.2.2.2.2.2.2.2=t.2.2.2.2.2.2.2.2.2.2.2.2:=by
  unfold tick2
  split<;>rfl
theorem tick3_kids (t:TT):(tick3 t).1.2.2.2.2.2.2.2.2.2.2.2.2=t.2.2.2.2.2.2.2.2.2.2.2.2:=by
  unfold tick3
  split
  · obtain⟨id,inc,now,par,pinc,grd,path,ep,born,ask,unt,stp,kids⟩:=t
    unfold seekM
    try simp only
    repeat' split
    all_goals rfl
  · rfl
theorem Wt.tick {B:Int} {t:TT} (h:Wt B t):Wt (B+2) (tickM t).2:=by
  have a:=(h.b.t1.t2).t3.1
  rw[show B+1+1=B+2 by omega] at a
  refine h.of a (by omega) fun k hk=>?_
  rw[show (tickM t).2=(tick3 (tick2 (tick1 t))).1 from rfl,tick3_kids,tick2_kids] at hk
  exact .inl (tick1_kids t k hk)
theorem hear_kids (l:List Kd) (x:Kd):∀k∈hearM l x,k∈l∨k=x:=by
  intro k hk
  unfold hearM at hk
  split at hk
  · exact .inl hk
  · rcases putK_mem _ _ _ hk with rfl | hk
    · exact .inr rfl
    · exact .inl hk
theorem disp_kids (t:TT) (m:Ms) (lo:Int):∀k∈(dispM t m lo).2.2.2.2.2.2.2.2.2.2.2.2.2,k∈t.2.2.2.2.2.2.2.2.2.2.2.2∨k.2.2=t.2.2.1:=by
  intro k hk
  have hh:k∈(withK t (hearM t.2.2.2.2.2.2.2.2.2.2.2.2 (m.2.1,m.2.2.2.1,t.2.2.1))).2.2.2.2.2.2.2.2.2.2.2.2→k∈t.2.2.2.2.2.2.2.2.2.2.2.2∨k.2.2=t.2.2.1:=fun q=>by
    rcases hear_kids t.2.2.2.2.2.2.2.2.2.2.2.2 (m.2.1,m.2.2.2.1,t.2.2.1) k q with q | rfl
    · exact .inl q
    · exact .inr rfl
  unfold dispM at hk
  split at hk
  · unfold attachM at hk
    split at hk
    · exact .inl hk
    · exact hh hk
  split at hk
  · unfold acceptM at hk
    repeat' split at hk
    all_goals exact .inl hk
  split at hk
  · simp only[refuseM] at hk
    repeat' split at hk
    all_goals exact .inl hk
  split at hk
  · unfold beatUpM at hk
    split at hk
    · exact .inl hk
    · exact hh hk
  split at hk
  · unfold beatDnM at hk
    repeat' split at hk
    all_goals exact .inl hk
  split at hk
  · exact .inl (List.mem_filter.1 (show k∈(t.2.2.2.2.2.2.2.2.2.2.2.2.filter fun k=>!decide (k.1=m.2.1)) from hk)).1
  · exact .inl hk
theorem Wt.comes {B:Int} {t:TT} (h:Wt B t) (h1B:1≤B) (m:Ms) (hm:Mb m) (lo:Int):Wt (B+1) (comesT t m lo).2:=by
  unfold comesT
  split
  · exact h.mono (by omega)
  split
  · split
    · exact h.mono (by omega)
    · split
      · exact h.of ((h.b.off (s:=0) ⟨by omega,by omega⟩).disp m hm lo h1B) (by omega) fun k hk=>disp_kids (letgo t 0) m lo k hk
      · exact h.of (h.b.disp m hm lo h1B) (by omega) fun k hk=>disp_kids t m lo k hk
  · exact h.of (h.b.disp m hm lo h1B) (by omega) fun k hk=>disp_kids t m lo k hk
theorem Wt.rTick {B:Int} {t:TT} (h:Wt B t) (N:Nat) (hN:2000≤N) (hB:B≤1000000):W_am N t=some (tickM t):=
  rTick_eq N hN t h.b hB fun k hk=>by have:=h.k k hk;omega
theorem Wt.new (id inc g:Int) (hi:1≤id∧id≤8) (hg:0≤g∧g≤8):Wt 1 (if id=1 then(id,inc,0,0,0,g,[1],0,0,0,0,0,[]) else(id,inc,0,0,0,g,[],0,0,0,0,0,[])):=by
  split
  · exact⟨⟨hi,by omega,by omega,by omega,by omega,by omega,by simp,trivial,by omega⟩,fun k hk=>by simp at hk⟩
  · exact⟨⟨hi,by omega,by omega,by omega,by omega,by omega,by simp,trivial,by omega⟩,fun k hk=>by simp at hk⟩
abbrev Nd:=Bool×Int×List UInt8×TT×Fd×Int
abbrev tD:TT:=(0,0,0,0,0,0,[],0,0,0,0,0,[])
abbrev ndD:Nd:=(false,0,[],tD,z7,0)
def joinN (n:Nd) (id:Int) (x:List UInt8) (g:Int):Bool×Nd:=
  if n.1=true∨nameM (LL x)=false∨id<1∨8<id∨1073741824≤n.2.1 then(false,n)
  else(true,true,n.2.1+1,x,(if id=1 then(id,n.2.1+1,0,0,0,g,[1],0,0,0,0,0,[]) else(id,n.2.1+1,0,0,0,g,[],0,0,0,0,0,[])),z7,0)
theorem rCrash_eq (N:Nat) (n:Nd):W_z N n=some (if n.1=true then(false,n.2.1,[],tD,z7,n.2.2.2.2.2) else n):=by
  unfold W_z V_z
  obtain⟨on,inc,nm,t,f,bad⟩:=n
  cases on<;>rfl
theorem rOffN_eq (N:Nat) (hN:2000≤N) {B:Int} (n:Nd) (h:n.1=true→Tb B n.2.2.2.1):W_ar N n=some (if n.1=true then(leaveM n.2.2.2.1,false,n.2.1,[],tD,z7,n.2.2.2.2.2) else([],n)):=by
  unfold W_ar V_ar
  obtain⟨on,inc,nm,t,f,bad⟩:=n
  cases on
  · rfl
  · simp only[rCrash_eq,rLeave_eq N hN t (h rfl),obind_s]
    rfl
def Ol (n:Nat) (l:List Ms):Prop:=l.length≤n∧∀m∈l,m.2.2.2.2.2.2.1.length≤900
theorem Ol.nil (n:Nat):Ol n []:=⟨by simp,by simp⟩
theorem Ol.mono {n n':Nat} {l:List Ms} (h:Ol n l) (hn:n≤n'):Ol n' l:=⟨by have:=h.1;omega,h.2⟩
theorem Ol.snoc {n:Nat} {l:List Ms} {m:Ms} (h:Ol n l) (hm:m.2.2.2.2.2.2.1.length≤900):Ol (n+1) (l++[m]):=by
  refine⟨by rw[List.length_append,List.length_singleton];have:=h.1;omega,fun x hx=>?_⟩
  rcases List.mem_append.1 hx with hx | hx
  · exact h.2 x hx
  · rw[List.mem_singleton.1 hx];exact hm
theorem Ol.app {n n':Nat} {l l':List Ms} (h:Ol n l) (h':Ol n' l'):Ol (n+n') (l++l'):=by
  refine⟨by rw[List.length_append];have:=h.1;have:=h'.1;omega,fun x hx=>?_⟩
  rcases List.mem_append.1 hx with hx | hx
  · exact h.2 x hx
  · exact h'.2 x hx
theorem say_path (t:TT) (k to:Int):(sayM t k to).2.2.2.2.2.2.1.length≤900:=by
  rw[show (sayM t k to).2.2.2.2.2.2.1=[] from rfl];simp
theorem wi {k:Nat} (h:k<140000000000000):wr .i64 ((k:Int)+1)=((k+1:Nat):Int):=by
  rw[wr_s (by omega) (by omega)];omega
theorem down_ex (N:Nat) (hN:30000000≤N) (t:TT) (l:List Ev) (hk:t.2.2.2.2.2.2.2.2.2.2.2.2.length≤8) (hl:l.length≤20000000):∃o,W_p N (t,l)=some o∧Ol (8*l.length) o:=by
  unfold W_p V_p
  try simp only
  refine loop_G (N:=N) (fun r=>∃o,r=some o∧Ol (8*l.length) o) (fun k (v:Int×TT×List Ms)=>v.1=k∧v.2.1=t∧Ol (8*k) v.2.2∧k≤l.length) l.length (fun r:List Ms=>Ol (8*l.length) r) ⟨rfl,rfl,Ol.nil _,by omega⟩ (by omega) (fun r h=>⟨r,rfl,h⟩) (fun k x h=>h.2.2.2) ?_
  rintro k ⟨i,t',o⟩ ⟨h1,h2,h3,h4⟩
  simp only at h1 h2 h3
  subst h1 h2
  by_cases c:k<l.length
  · left
    try simp only
    have c1:decide ((k:Int)<(l.length:Int))=true:=decide_eq_true (by omega)
    have c2:decide ((0:Int)≤(k:Int))=true:=decide_eq_true (by omega)
    simp only[c1,c2,cnd_t,Bool.and_self]
    have w1:=wi (k:=k) (by omega)
    refine loop_G (N:=N) (fun r=>∃y:Int×TT×List Ms,r=some (Sum.inl y)∧y.1=((k+1:Nat):Int)∧y.2.1=t'∧Ol (8*(k+1)) y.2.2∧k+1≤l.length) (fun j (v:Int×TT×List Ms)=>v.1=j∧v.2.1=t'∧Ol (8*k+j) v.2.2∧j≤t'.2.2.2.2.2.2.2.2.2.2.2.2.length) t'.2.2.2.2.2.2.2.2.2.2.2.2.length (fun r:TT×List Ms=>r.1=t'∧Ol (8*k+8) r.2) ⟨rfl,rfl,h3,by omega⟩ (by omega) ?_ (fun k x h=>h.2.2.2) ?_
    · intro r h
      refine⟨_,rfl,?_,h.1,?_,by omega⟩
      · simp only[w1]
      · rw[show 8*(k+1)=8*k+8 by omega];exact h.2
    rintro j ⟨i,t'',o'⟩ ⟨g1,g2,g3,g4⟩
    simp only at g1 g2 g3
    subst g1 g2
    have hol:=g3.1
    by_cases d:j<t''.2.2.2.2.2.2.2.2.2.2.2.2.length
    · left
      have d1:decide ((j:Int)<(t''.2.2.2.2.2.2.2.2.2.2.2.2.length:Int))=true:=decide_eq_true (by omega)
      have w2:=wi (k:=j) (by omega)
      have d2:decide ((0:Int)≤(j:Int))=true:=decide_eq_true (by omega)
      have d3:decide ((o'.length+1)*104≤140737488355328)=true:=decide_eq_true (by omega)
      simp only[d1,d2,d3,cnd_t,Bool.and_self,rSays_eq,obind_s]
      rcases Bool.eq_false_or_eq_true (decide ((l.getD (Int.toNat (k:Int)) ((0:Int),(0:Int),(0:Int),([]:List UInt8),(0:Int))).1=(2:Int))) with e | e
      · simp only[e,cnd_t]
        exact⟨_,rfl,by simp only[w2],rfl,g3.snoc (Nat.zero_le 900),by omega⟩
      · simp only[e,cnd_f]
        exact⟨_,rfl,by simp only[w2],rfl,g3.snoc (Nat.zero_le 900),by omega⟩
    · right
      have d1:decide ((j:Int)<(t''.2.2.2.2.2.2.2.2.2.2.2.2.length:Int))=false:=decide_eq_false (by omega)
      simp only[d1,cnd_f]
      exact⟨_,rfl,rfl,g3.mono (by omega)⟩
  · right
    have c1:decide ((k:Int)<(l.length:Int))=false:=decide_eq_false (by omega)
    simp only[c1,cnd_f]
    exact⟨_,rfl,h3.mono (by omega)⟩
theorem full_path (t:TT) (k to lo:Int):(fullM t k to lo).2.2.2.2.2.2.1=t.2.2.2.2.2.2.1:=rfl
theorem tick_ol {B:Int} {t:TT} (h:Tb B t):Ol 10 (tickM t).1:=by
  have ha:=(h.t1.t2).t3
  have h3:Ol 1 (tick3 (tick2 (tick1 t))).2:=by
    refine⟨ha.2,fun m hm=>?_⟩
    revert hm
    generalize tick2 (tick1 t)=u
    obtain⟨id,inc,now,par,pinc,grd,path,ep,born,ask,unt,stp,kids⟩:=u
    unfold tick3 seekM
    try simp only
    repeat' split
    all_goals intro hm
    all_goals simp only[List.mem_singleton,List.not_mem_nil] at hm
    all_goals (subst hm;exact Nat.zero_le 900)
  have hb:Ol 9 (beatM (tick3 (tick2 (tick1 t))).1):=by
    have hk:=ha.1.kl
    have hp:=ha.1.pl
    revert hk hp
    generalize (tick3 (tick2 (tick1 t))).1=u
    intro hk hp
    unfold beatM
    refine Ol.app (n:=1) (n':=8) ?_ ?_
    · split
      · exact⟨by simp,fun m hm=>by rw[List.mem_singleton.1 hm];exact Nat.zero_le 900⟩
      · exact Ol.nil _
    · split
      · refine⟨by rw[List.length_map];exact hk,fun m hm=>?_⟩
        obtain⟨k,_,rfl⟩:=List.mem_map.1 hm
        rw[full_path];omega
      · exact Ol.nil _
  unfold tickM
  try simp only
  split
  · exact(h3.app hb).mono (by omega)
  · exact h3.mono (by omega)
abbrev Nd.T (n:Nd):TT:=n.2.2.2.1
abbrev Nd.F (n:Nd):Fd:=n.2.2.2.2.1
theorem getD_ol {n:Nat} {l:List Ms} (h:Ol n l) {k:Nat} (hk:k<l.length):(l.getD k ((0:Int),(0:Int),(0:Int),(0:Int),(0:Int),(0:Int),[],(0:Int),(0:Int),[])).2.2.2.2.2.2.1.length≤900:=by
  rw[List.getD_eq_getElem?_getD,List.getElem?_eq_getElem hk];exact h.2 _ (List.getElem_mem hk)
theorem TickN_ex (N:Nat) (hN:200000000≤N) {B c:Int} (t:TT) (f:Fd) (inc bad:Int) (nm:List UInt8) (ht:Wt B t) (hB:B≤900000) (hf:FI 1000000 c f):
    ∃o,W_ae N (true,inc,nm,t,f,bad)=some (o,true,inc,nm,(tickM t).2,(if (tickM t).2.2.2.2.1=0 then f else(tickM_2 f (tickM t).2.2.2.1).2.1),bad)∧Ol 100000000 o:=by
  have htk:=ht.tick
  have hol:=tick_ol ht.b
  unfold W_ae V_ae
  simp only[Bool.not_true,cnd_f,ht.rTick N (by omega) (by omega),obind_s]
  generalize (tickM t).1=l at hol ⊢
  generalize (tickM t).2=u at htk ⊢
  have hll:=hol.1
  refine loop_G (N:=N) (fun r=>∃o,r=some (o,true,inc,nm,u,(if u.2.2.2.1=0 then f else(tickM_2 f u.2.2.1).2.1),bad)∧Ol 100000000 o) (fun k (v:Int×Nd×Nd×TT×List Ms)=>v.1=k∧v.2.1=(true,inc,nm,t,f,bad)∧v.2.2.2.1=u∧Ol k v.2.2.2.2∧k≤l.length) l.length (fun r:Nd×Nd×TT×List Ms=>r.1=(true,inc,nm,t,f,bad)∧r.2.2.1=u∧Ol 10 r.2.2.2) ⟨rfl,rfl,rfl,Ol.nil _,by omega⟩ (by omega) ?_ (fun k x h=>h.2.2.2.2) ?_
  · rintro⟨a,b,u',o⟩ ⟨h1,h2,h3⟩
    simp only at h1 h2 h3
    subst h1 h2
    have hnow:0≤u'.2.2.1∧u'.2.2.1≤B+2:=by
      have hb:=htk.b
      obtain⟨id,inc,now,par,pinc,grd,path,ep,born,ask,unt,stp,kids⟩:=u'
      obtain⟨h1,h2,_⟩:=hb
      exact h2
    have h3l:=h3.1
    by_cases c0:u'.2.2.2.1=0
    · have e0:decide (u'.2.2.2.1=(0:Int))=true:=decide_eq_true c0
      simp only[e0,cnd_t,if_pos c0]
      exact⟨o,rfl,h3.mono (by omega)⟩
    · have e0:decide (u'.2.2.2.1=(0:Int))=false:=decide_eq_false c0
      have hT:=rTick_eq_2 N (by omega) hf (by omega) u'.2.2.1 (by omega) (by omega)
      have hI:=hf.tick u'.2.2.1
      obtain⟨_,_,e,he⟩:=tick_Le f u'.2.2.1
      have hlen:=(hI.lens (by omega)).2.2
      simp only[e0,cnd_f,if_neg c0,hT,obind_s]
      generalize tickM_2 f u'.2.2.1=q at hI he hlen ⊢
      obtain⟨qb,qf,qlo,qhi⟩:=q
      simp only at hI he hlen ⊢
      have hle:f.2.2.2.2.1.length≤qf.2.2.2.2.1.length:=by rw[he,List.length_append];omega
      have g1:decide ((0:Int)≤(f.2.2.2.2.1.length:Int))=true:=decide_eq_true (by omega)
      have g2:decide ((f.2.2.2.2.1.length:Int)≤(qf.2.2.2.2.1.length:Int))=true:=decide_eq_true (by omega)
      obtain⟨o2,ho2,hl2⟩:=down_ex N (by omega) u' (List.drop (Int.toNat (f.2.2.2.2.1.length:Int)) (List.take qf.2.2.2.2.1.length qf.2.2.2.2.1)) htk.b.kl (by rw[List.length_drop,List.length_take];omega)
      have hl2':Ol 80000100 o2:=hl2.mono (by rw[List.length_drop,List.length_take];omega)
      have hl2l:=hl2'.1
      cases qb with
      | true=>
        have g3:decide ((o.length+1)*104≤140737488355328)=true:=decide_eq_true (by omega)
        have g4:∀m:Ms,decide (((o++[m]).length+o2.length)*104≤140737488355328)=true:=fun m=>decide_eq_true (by rw[List.length_append,List.length_singleton];omega)
        simp only[cnd_t,rSays_eq,obind_s,List.length_singleton,g3,g1,g2,Bool.and_self,ho2,g4]
        refine⟨_,rfl,Ol.mono (n:=11+80000100) (Ol.app (n:=11) (n':=80000100) (Ol.snoc (n:=10) h3 ?_) hl2') (by omega)⟩
        exact Nat.zero_le 900
      | false=>
        have g4:decide ((o.length+o2.length)*104≤140737488355328)=true:=decide_eq_true (by omega)
        simp only[cnd_f,cnd_t,obind_s,g1,g2,Bool.and_self,ho2,g4]
        exact⟨_,rfl,(h3.app hl2').mono (by omega)⟩
  · rintro k ⟨i,a,b,u',o⟩ ⟨h1,h2,h3,h4,h5⟩
    simp only at h1 h2 h3 h4
    subst h1 h2 h3
    have h4l:=h4.1
    by_cases d:k<l.length
    · left
      have w1:=wi (k:=k) (by omega)
      have d1:decide ((k:Int)<(l.length:Int))=true:=decide_eq_true (by omega)
      have d2:decide ((0:Int)≤(k:Int))=true:=decide_eq_true (by omega)
      have d3:decide ((o.length+1)*104≤140737488355328)=true:=decide_eq_true (by omega)
      have hp:=getD_ol hol d
      simp only[d1,d2,d3,cnd_t,Bool.and_self,Int.toNat_natCast]
      rcases Bool.eq_false_or_eq_true (decide ((l.getD k ((0:Int),(0:Int),(0:Int),(0:Int),(0:Int),(0:Int),[],(0:Int),(0:Int),[])).1=(5:Int))) with e | e
      · simp only[e,cnd_t]
        exact⟨_,rfl,by simp only[w1],rfl,rfl,h4.snoc hp,by omega⟩
      · simp only[e,cnd_f]
        exact⟨_,rfl,by simp only[w1],rfl,rfl,h4.snoc hp,by omega⟩
    · right
      have d1:decide ((k:Int)<(l.length:Int))=false:=decide_eq_false (by omega)
      simp only[d1,cnd_f]
      exact⟨_,rfl,rfl,rfl,h4.mono (by omega)⟩
theorem rNew_eq (N:Nat) (id inc now g:Int):W_aY N (id,inc,now,g)=some (if id=1 then(id,inc,now,0,0,g,[1],0,now,0,0,0,[]) else(id,inc,now,0,0,g,[],0,0,0,0,0,[])):=by
  unfold W_aY V_aY
  by_cases h:id=1
  · simp only[h,decide_true,cnd_t,if_true]
  · rw[decide_eq_false (by exact h),cnd_f,if_neg h]
theorem rJoinN_eq (N:Nat) (hN:2000≤N) (n:Nd) (id:Int) (x:List UInt8) (g:Int) (hx:x.length≤1000) (hi:0≤n.2.1∧n.2.1≤1073741824):W_D N (n,id,x,g)=some (joinN n id x g):=by
  obtain⟨on,inc,nm,t,f,bad⟩:=n
  simp only at hi
  have hw:wr .i64 (inc+1)=inc+1:=wr_s (by omega) (by omega)
  unfold W_D V_D joinN
  cases on with
  | true=>simp only[cnd_t,cnd_f,obind_s,true_or,if_true]
  | false=>
    simp only[cnd_f,rName_eq N hN x hx,obind_s,rNew_eq,hw]
    cases nameM (LL x) with
    | false=>simp only[Bool.not_false,cnd_t,cnd_f,obind_s,or_true,true_or,if_true]
    | true=>
      by_cases c1:id<1
      · simp[c1,cnd_t,cnd_f,obind_s]
      by_cases c2:8<id
      · simp[c1,c2,cnd_t,cnd_f,obind_s]
      by_cases c3:1073741824≤inc
      · simp[c1,c2,c3,cnd_t,cnd_f,obind_s]
      · simp[c1,c2,c3,cnd_t,cnd_f,obind_s,hw,z7]
theorem serves_ex (N:Nat) (hN:2000≤N) {c:Int} {f:Fd} (hf:FI 1000000 c f) (lo hi:Int) (h1:1≤lo∧lo≤1000000):∃it no,W_9 N (f,lo,hi)=some (it,no)∧it.length≤8∧no.length≤8:=by
  have hn:=hf.nx (by omega)
  by_cases q:1≤f.1
  · refine⟨_,_,rServes N f lo hi hN (hf.lens (by omega)).1 q hn.2 h1.1 (by omega),?_,?_⟩
    · have:=itF_len f.2.2.1 lo (cnt f lo hi);unfold cnt at this ⊢;omega
    · have:=(noF_ok (R:=f.2.2.1) h1.1 (cnt f lo hi) (by unfold cnt;omega)).2.2;unfold cnt at this ⊢;omega
  · have e:f.1=0:=by omega
    refine⟨[],[],?_,by simp,by simp⟩
    unfold W_9 V_9
    try simp only
    refine loop_G (N:=N) (fun r=>r=some ([],[])) (fun k v=>v=(([]:List Sp),(0:Int),f,([]:List It))∧k=0) 0 (fun r=>r=(([]:List It),([]:List Sp))) ⟨rfl,rfl⟩ (by omega) (fun r h=>by rw[h]) (fun k x h=>by omega) ?_
    rintro k _ ⟨rfl,_⟩
    right
    rw[dT (show (0:Int)<8 by omega),cnd_t,dT e,cnd_t,obind_s,cnd_t]
    exact⟨_,rfl,rfl⟩
theorem served_ex (N:Nat) (hN:2000≤N) {c:Int} (t:TT) {f:Fd} (hf:FI 1000000 c f) (m:Ms) (h1:1≤m.2.2.2.2.2.2.2.1∧m.2.2.2.2.2.2.2.1≤1000000):∃o,W_aD N (t,f,m)=some o∧Ol 16 o:=by
  obtain⟨it,no,e,l1,l2⟩:=serves_ex N hN hf m.2.2.2.2.2.2.2.1 m.2.2.2.2.2.2.2.2.1 h1
  unfold W_aD V_aD
  simp only[e,obind_s,List.length_singleton]
  refine loop_G (N:=N) (fun r=>∃o,r=some o∧Ol 16 o) (fun k (v:Int×TT×Ms×List Ms)=>v.1=k∧v.2.1=t∧v.2.2.1=m∧Ol k v.2.2.2∧k≤it.length) it.length (fun r:TT×Ms×List Ms=>r.1=t∧r.2.1=m∧Ol 8 r.2.2) ⟨rfl,rfl,rfl,Ol.nil _,by omega⟩ (by omega) ?_ (fun k x h=>h.2.2.2.2) ?_
  · rintro⟨t',m',o⟩ ⟨r1,r2,h3⟩
    simp only at r1 r2 h3
    subst r1 r2
    refine loop_G (N:=N) (fun r=>∃o,r=some o∧Ol 16 o) (fun k (v:Int×TT×Ms×List Ms)=>v.1=k∧v.2.1=t'∧v.2.2.1=m'∧Ol (8+k) v.2.2.2∧k≤no.length) no.length (fun r:List Ms=>Ol 16 r) ⟨rfl,rfl,rfl,h3,by omega⟩ (by omega) (fun r h=>⟨r,rfl,h⟩) (fun k x h=>h.2.2.2.2) ?_
    rintro k ⟨i,a,b,o⟩ ⟨g1,g2,g3,g4,g5⟩
    simp only at g1 g2 g3 g4
    subst g1 g2 g3
    have hol:=g4.1
    by_cases d:k<no.length
    · left
      have w1:=wi (k:=k) (by omega)
      have d1:decide ((k:Int)<(no.length:Int))=true:=decide_eq_true (by omega)
      have d2:decide ((0:Int)≤(k:Int))=true:=decide_eq_true (by omega)
      have d3:decide ((o.length+1)*104≤140737488355328)=true:=decide_eq_true (by omega)
      simp only[d1,d2,d3,cnd_t,Bool.and_self,rSays_eq,obind_s]
      exact⟨_,rfl,by simp only[w1],rfl,rfl,g4.snoc (Nat.zero_le 900),by omega⟩
    · right
      have d1:decide ((k:Int)<(no.length:Int))=false:=decide_eq_false (by omega)
      simp only[d1,cnd_f]
      exact⟨_,rfl,g4.mono (by omega)⟩
  · rintro k ⟨i,a,b,o⟩ ⟨g1,g2,g3,g4,g5⟩
    simp only at g1 g2 g3 g4
    subst g1 g2 g3
    have hol:=g4.1
    by_cases d:k<it.length
    · left
      have w1:=wi (k:=k) (by omega)
      have d1:decide ((k:Int)<(it.length:Int))=true:=decide_eq_true (by omega)
      have d2:decide ((0:Int)≤(k:Int))=true:=decide_eq_true (by omega)
      have d3:decide ((o.length+1)*104≤140737488355328)=true:=decide_eq_true (by omega)
      simp only[d1,d2,d3,cnd_t,Bool.and_self,rSays_eq,obind_s]
      exact⟨_,rfl,by simp only[w1],rfl,rfl,g4.snoc (Nat.zero_le 900),by omega⟩
    · right
      have d1:decide ((k:Int)<(it.length:Int))=false:=decide_eq_false (by omega)
      simp only[d1,cnd_f]
      exact⟨_,rfl,rfl,rfl,g4.mono (by omega)⟩
theorem ob_post {α β:Type} {X:Option α} {K:α→Option β} (Q:Option β→Prop) (P:α→Prop) (h:∃a,X=some a∧P a) (hk:∀a,P a→Q (K a)):Q (obind X K):=by
  obtain⟨a,rfl,p⟩:=h;exact hk a p
theorem cnd_exb {β:Type} {c:Bool} {a b:β} {P:β→Prop} (h:c=true→P a) (h2:P b):∃z,cnd c (some a) (some b)=some z∧P z:=by
  cases c
  · exact⟨_,rfl,h2⟩
  · exact⟨_,rfl,h rfl⟩
theorem withK_id (t:TT) (l:List Kd):(withK t l).1=t.1:=by obtain⟨id,r⟩:=t;rfl
theorem letgo_id (t:TT) (s:Int):(letgo t s).1=t.1:=by obtain⟨id,r⟩:=t;rfl
theorem vain_id (t:TT):(vainM t).1=t.1:=by obtain⟨id,r⟩:=t;rfl
theorem disp_ol {B:Int} {t:TT} (h:Tb B t) (m:Ms) (lo:Int):Ol 1 (dispM t m lo).1∧(dispM t m lo).2.1=t.1:=by
  have hp:=h.pl
  have s:∀k to,Ol 1 [sayM t k to]:=fun k to=>⟨by simp,fun x hx=>by rw[List.mem_singleton.1 hx];exact say_path t k to⟩
  unfold dispM attachM acceptM beatUpM beatDnM refuseM
  repeat' split
  all_goals refine⟨?_,?_⟩
  all_goals first
    | exact s _ _
    | exact Ol.nil _
    | exact⟨by simp,fun x hx=>by rw[List.mem_singleton.1 hx,full_path];omega⟩
    | rfl
    | exact withK_id _ _
    | exact letgo_id _ _
    | exact vain_id _
theorem comes_ol {B:Int} {t:TT} (h:Tb B t) (m:Ms) (lo:Int):Ol 1 (comesT t m lo).1∧(comesT t m lo).2.1=t.1:=by
  unfold comesT
  split
  · exact⟨Ol.nil _,rfl⟩
  split
  · split
    · exact⟨Ol.nil _,rfl⟩
    · split
      · have:=disp_ol (h.off (s:=0) ⟨by omega,h.b0⟩) m lo
        exact⟨this.1,this.2.trans (letgo_id _ _)⟩
      · exact disp_ol h m lo
  · exact disp_ol h m lo
theorem may_lo {m:Ms} (h:MayP m) (k:m.1=8):1≤m.2.2.2.2.2.2.2.1∧m.2.2.2.2.2.2.2.1≤1000000:=by
  have hf:=h.2.2.2.2.2.2
  unfold Fits at hf
  rw[if_neg (by omega),if_neg (by omega),if_pos (by omega)] at hf
  omega
theorem may_tx {m:Ms} (h:MayP m):m.2.2.2.2.2.2.2.2.2.length≤12:=by
  have e:=h.2.2.2.2.2.1
  have hf:=h.2.2.2.2.2.2
  unfold Fits at hf
  by_cases c:m.1=7
  · rw[if_neg (by omega),if_pos c] at hf;omega
  · have:m.2.2.2.2.2.2.2.2.2=[]:=by
      rw[e]
      unfold ownF
      rw[if_neg c]
      repeat' split
      all_goals rfl
    rw[this];simp
def Bd (b:Int):Prop:=0≤b∧b≤1073741824
theorem Bd.min {b:Int} (h:Bd b):wr .i64 (b+1)=b+1∧Bd (min (b+1) 1073741824):=by
  unfold Bd at *
  exact⟨wr_s (by omega) (by omega),by omega,by omega⟩
theorem le_len {f g:Fd} (h:Le f g):f.2.2.2.2.1.length≤g.2.2.2.2.1.length:=by
  obtain⟨_,_,e,he⟩:=h
  rw[he,List.length_append];omega
def Rt (t:TT):Prop:=t.2.2.2.1=0∧t.2.2.2.2.2.2.2.2.2.1=0
theorem Rt.comes {t:TT} (h:Rt t) (m:Ms) (lo:Int):Rt (comesT t m lo).2:=by
  have hw:∀l,Rt (withK t l):=fun l=>by obtain⟨id,inc,now,par,r⟩:=t;exact h
  have nu:¬isUp t m:=fun q=>q.1 h.1
  have na:¬isAsk t m:=fun q=>q.1 h.2
  unfold comesT
  rw[if_neg nu]
  split
  · exact h
  unfold dispM attachM acceptM beatUpM beatDnM refuseM
  simp only[if_neg nu,if_neg (show ¬(isAsk t m∧t.2.2.2.1=0) from fun q=>na q.1),if_neg na]
  repeat' split
  all_goals first | exact h | exact hw _
abbrev B7:=Bool×Nd×Nd×Ms×TT×List Ms×Fd
theorem ComesN_ex2 (N:Nat) (hN:200000000≤N) {B c:Int} (t:TT) (f:Fd) (inc bad:Int) (nm:List UInt8) (ht:Wt B t) (hB:1≤B∧B≤900000) (hf:FI 1000000 c f) (hbad:Bd bad) (b:List Int) (hbl:b.length≤300) (hU:U8 b):
    ∃o u g bq c',W_7 N ((true,inc,nm,t,f,bad),b)=some (o,true,inc,nm,u,g,bq)∧Ol 100000000 o∧Wt (B+1) u∧u.1=t.1∧FI 1000000 c' g∧Bd bq∧(u.2.2.2.1=0→g=f)∧(Rt t→Rt u):=by
  obtain⟨ok,x,e,h1,h2⟩:=rTake_any N (by omega) hbl hU
  unfold W_7 V_7
  simp only[Bool.not_true,cnd_f,obind_s,selim_l,e,hbad.min.1]
  cases ok with
  | false=>
    simp only[Bool.not_false,cnd_t]
    exact⟨_,_,_,_,_,rfl,Ol.nil _,ht.mono (by omega),rfl,hf,hbad.min.2,fun _=>rfl,fun q=>q⟩
  | true=>
    obtain⟨w,hw,rfl⟩:=h1 rfl
    rw[rTake_good N (by omega) hw] at e
    obtain rfl:w=x:=(Prod.mk.inj (Option.some.inj e)).2
    clear h1 h2 e hbl hU
    simp only[Bool.not_true,cnd_f]
    by_cases q:w.2.2.1≠t.1
    · rw[cnd_T q]
      exact⟨_,_,_,_,_,rfl,Ol.nil _,ht.mono (by omega),rfl,hf,hbad.min.2,fun _=>rfl,fun q=>q⟩
    rw[cnd_F q,rComes_eq N (by omega) t ht.b (by omega) w (Mb.of hw),obind_s,obind_s]
    have hrt:Rt t→Rt (comesT t w (max f.1 1)).2:=fun q=>q.comes _ _
    have hu:=ht.comes hB.1 w (Mb.of hw) (max f.1 1)
    obtain⟨hol,hid⟩:=comes_ol ht.b w (max f.1 1)
    generalize comesT t w (max f.1 1)=p at hu hol hid hrt ⊢
    obtain⟨l,u⟩:=p
    simp only at hu hol hid hrt ⊢
    let Q:Option (List Ms×Nd)→Prop:=fun r=>∃o u g bq c',r=some (o,true,inc,nm,u,g,bq)∧Ol 100000000 o∧Wt (B+1) u∧u.1=t.1∧FI 1000000 c' g∧Bd bq∧(u.2.2.2.1=0→g=f)∧(Rt t→Rt u)
    let P:B7→Prop:=fun b=>b.2=((true,inc,nm,u,f,bad),ndD,w,u,l,f)∧(u.2.2.2.1=0→b.1=false)
    change Q _
    refine ob_post Q P ?_ ?_
    · refine ob_post (fun(r:Option B7)=>∃a,r=some a∧P a) P (cnd_exb (fun q=>⟨rfl,fun q2=>absurd q2 (of_decide_eq_true q)⟩) ⟨rfl,fun _=>rfl⟩) ?_
      rintro⟨b,_⟩ ⟨rfl,hq⟩
      exact cnd_exb (fun q=>⟨rfl,fun q2=>by rw[hq q2] at q;cases q⟩) ⟨rfl,fun _=>rfl⟩
    rintro⟨up,_⟩ ⟨rfl,hup⟩
    try simp only
    refine ob_post Q (fun b=>∃o g c',b=((true,inc,nm,u,f,bad),ndD,u,o,g)∧Ol 20 o∧FI 1000000 c' g∧f.2.2.2.2.1.length≤g.2.2.2.2.1.length∧(u.2.2.2.1=0→g=f)) ?_ ?_
    · let Q2:Option (Nd×Nd×TT×List Ms×Fd)→Prop:=fun r=>∃b,r=some b∧∃o g c',b=((true,inc,nm,u,f,bad),ndD,u,o,g)∧Ol 20 o∧FI 1000000 c' g∧f.2.2.2.2.1.length≤g.2.2.2.2.1.length∧(u.2.2.2.1=0→g=f)
      have z:∀g c',FI 1000000 c' g→Le f g→(u.2.2.2.1=0→g=f)→Q2 (some ((true,inc,nm,u,f,bad),ndD,u,l,g)):=fun g c' h1 h2 h3=>⟨_,rfl,_,_,_,rfl,hol.mono (by omega),h1,le_len h2,h3⟩
      have p9:∀n:Int,n≤1000000→n≤1000000:=fun n h=>h
      have hlo:w.2.2.2.2.2.2.2.1≤1000000∧0≤w.2.2.2.2.2.2.2.1:=by
        have e:=hw.2.2.2.2.2.1
        have hf:=hw.2.2.2.2.2.2
        unfold Fits at hf
        by_cases c1:w.1=2∨w.1=5
        · rw[if_pos c1] at hf;omega
        by_cases c2:w.1=7
        · rw[if_neg c1,if_pos c2] at hf;omega
        by_cases c3:w.1=8∨w.1=9
        · rw[if_neg c1,if_neg c2,if_pos c3] at hf;omega
        · unfold ownF at e
          rw[if_neg (by omega),if_neg (by omega),if_neg (by omega),if_neg (by omega)] at e
          rw[e];simp
      change Q2 _
      refine ob_post Q2 P ?_ ?_
      · refine ob_post (fun(r:Option B7)=>∃a,r=some a∧P a) P (cnd_exb (fun _=>⟨rfl,hup⟩) ⟨rfl,fun _=>rfl⟩) ?_
        rintro⟨b,_⟩ ⟨rfl,hq⟩
        exact cnd_exb (fun q=>⟨rfl,fun q2=>by rw[hq q2] at q;cases q⟩) ⟨rfl,fun _=>rfl⟩
      rintro⟨b1,_⟩ ⟨rfl,hb1⟩
      cases b1 with
      | true=>
        simp only[cnd_t]
        rw[rBegin_eq N f _ (fun _=>wr_pre hf.tp.1 (by omega) (by omega)),obind_s,rKnows_eq,obind_s]
        obtain⟨c',g1,_⟩:=hf.begins w.2.2.2.2.2.2.2.1 (fun _=>by omega) (fun _=>by omega)
        exact z _ _ (g1.knows _ (p9 _)).1 ((begin_Le _ _ hf.n0).trans (knows_Le _ _)) (fun q=>absurd (hb1 q) (by simp))
      | false=>
      simp only[cnd_f]
      refine ob_post Q2 P (cnd_exb (fun _=>⟨rfl,hup⟩) ⟨rfl,fun _=>rfl⟩) ?_
      rintro⟨b1,_⟩ ⟨rfl,hb1⟩
      cases b1 with
      | true=>
        simp only[cnd_t]
        rw[rKnows_eq,obind_s]
        exact z _ _ (hf.knows _ (p9 _)).1 (knows_Le _ _) (fun q=>absurd (hb1 q) (by simp))
      | false=>
      simp only[cnd_f]
      refine ob_post Q2 P (cnd_exb (fun _=>⟨rfl,hup⟩) ⟨rfl,fun _=>rfl⟩) ?_
      rintro⟨b1,_⟩ ⟨rfl,hb1⟩
      cases b1 with
      | true=>
        simp only[cnd_t]
        rw[rComes_eq_2 N (by omega) hf (by omega) (w.2.2.2.2.2.2.2.1,w.2.2.2.2.2.2.2.2.2) (p9 _) (may_tx hw),obind_s]
        exact z _ _ (hf.comes (w.2.2.2.2.2.2.2.1,w.2.2.2.2.2.2.2.2.2) (p9 _) (may_tx hw)) (comes_Le _ _) (fun q=>absurd (hb1 q) (by simp))
      | false=>
      simp only[cnd_f]
      refine ob_post Q2 P (cnd_exb (fun _=>⟨rfl,hup⟩) ⟨rfl,fun _=>rfl⟩) ?_
      rintro⟨b1,_⟩ ⟨rfl,hb1⟩
      cases b1 with
      | true=>
        simp only[cnd_t]
        rw[rNotes_eq N (by omega) hf (by omega) _ _ (p9 _),obind_s]
        exact z _ _ (hf.notes _ _ (p9 _)) (notes_Le _ _ _) (fun q=>absurd (hb1 q) (by simp))
      | false=>
      simp only[cnd_f]
      by_cases k8:w.1=8
      · rw[cnd_T k8,rFind_eq N (by omega) _ _ (by have:=hu.b.kl;omega),obind_s,obind_s]
        have zz:=z f c hf (Le.refl f) (fun _=>rfl)
        cases (findK u.2.2.2.2.2.2.2.2.2.2.2.2 w.2.1).1 with
        | false=>simp only[cnd_f];exact zz
        | true=>
          simp only[cnd_t]
          by_cases k9:(findK u.2.2.2.2.2.2.2.2.2.2.2.2 w.2.1).2.2.1=w.2.2.2.1
          · obtain⟨so,he,hs⟩:=served_ex N (by omega) u hf w (may_lo hw k8)
            have a1:=hol.1
            have a2:=hs.1
            rw[cnd_T k9,he,obind_s,cnd_T (by omega)]
            exact⟨_,rfl,_,_,_,rfl,(hol.app hs).mono (by omega),hf,Nat.le_refl _,fun _=>rfl⟩
          · rw[cnd_F k9];exact zz
      · rw[cnd_F k8];exact z f c hf (Le.refl f) (fun _=>rfl)
    rintro _ ⟨o,g,c',rfl,ho,hg,hl,hgf⟩
    have hlen:=(hg.lens (by omega)).2.2
    obtain⟨o2,ho2,hl2⟩:=down_ex N (by omega) u (List.drop (Int.toNat (f.2.2.2.2.1.length:Int)) (List.take g.2.2.2.2.1.length g.2.2.2.2.1)) hu.b.kl (by rw[List.length_drop,List.length_take];omega)
    have hl2':Ol 80000100 o2:=hl2.mono (by rw[List.length_drop,List.length_take];omega)
    have a1:=ho.1
    have a2:=hl2'.1
    try simp only
    rw[dT (show (0:Int)≤(f.2.2.2.2.1.length:Int) by omega),dT (show (f.2.2.2.2.1.length:Int)≤(g.2.2.2.2.1.length:Int) by omega),Bool.and_self,cnd_t,ho2,obind_s,cnd_T (by omega)]
    exact⟨_,_,_,_,_,rfl,(ho.app hl2').mono (by omega),hu,hid,hg,hbad,hgf,hrt⟩
theorem Rt.tick {t:TT} (h:Rt t) (h1:t.1=1):Rt (tickM t).2∧(tickM t).2.1=t.1:=by
  obtain⟨id,inc,now,par,pinc,grd,path,ep,born,ask,unt,stp,kids⟩:=t
  obtain⟨rfl,rfl⟩:par=0∧ask=0:=h
  obtain rfl:id=1:=h1
  have e:(tickM (1,inc,now,0,pinc,grd,path,ep,born,0,unt,stp,kids)).2=(tick3 (tick2 (tick1 (1,inc,now,0,pinc,grd,path,ep,born,0,unt,stp,kids)))).1:=rfl
  rw[e,tick1_def]
  split
  · exact⟨⟨rfl,rfl⟩,rfl⟩
  · exact⟨⟨rfl,rfl⟩,rfl⟩
theorem tick_id (t:TT):(tickM t).2.1=t.1:=by
  obtain⟨id,inc,now,par,pinc,grd,path,ep,born,ask,unt,stp,kids⟩:=t
  have e:(tickM (id,inc,now,par,pinc,grd,path,ep,born,ask,unt,stp,kids)).2=(tick3 (tick2 (tick1 (id,inc,now,par,pinc,grd,path,ep,born,ask,unt,stp,kids)))).1:=rfl
  have h1:(tick1 (id,inc,now,par,pinc,grd,path,ep,born,ask,unt,stp,kids)).1=id:=by rw[tick1_def];split<;>rfl
  rw[e]
  generalize tick1 (id,inc,now,par,pinc,grd,path,ep,born,ask,unt,stp,kids)=u at h1
  have h2:(tick2 u).1=id:=by unfold tick2;split;exact(letgo_id u 0).trans h1;exact h1
  generalize tick2 u=v at h2
  unfold tick3 seekM
  obtain⟨id',inc,now,par,pinc,grd,path,ep,born,ask,unt,stp,kids⟩:=v
  simp only at h2 ⊢
  repeat' split
  all_goals exact h2
structure NI (B id:Int) (n:Nd):Prop where
  inc:0≤n.2.1∧n.2.1≤B
  bad:Bd n.2.2.2.2.2
  on:n.1=true→Wt B n.2.2.2.1∧n.2.2.2.1.1=id∧∃c,FI 1000000 c n.2.2.2.2.1
  rt:id=1→n.1=true∧Rt n.2.2.2.1∧n.2.2.2.2.1.2.2.2.1=[]
  off:n.1=false→n.2.2.2.2.1=z7
theorem NI.mono {B B' id:Int} {n:Nd} (h:NI B id n) (hB:B≤B'):NI B' id n:=
  ⟨⟨h.inc.1,by have:=h.inc.2;omega⟩,h.bad,fun q=>⟨(h.on q).1.mono hB,(h.on q).2⟩,h.rt,h.off⟩
theorem FI0 (c:Int):FI 1000000 c z7:=⟨by decide,by decide,fun h=>absurd h (by decide),by decide,fun _=>⟨rfl,rfl,rfl⟩⟩
theorem NI.tick (N:Nat) (hN:200000000≤N) {B id:Int} {n:Nd} (h:NI B id n) (ho:n.1=true) (hB:B≤900000):∃o m,W_ae N n=some (o,m)∧Ol 100000000 o∧NI (B+2) id m:=by
  obtain⟨on,inc,nm,t,f,bad⟩:=n
  obtain rfl:on=true:=ho
  obtain⟨h1,h2,c,h3⟩:=h.on rfl
  obtain⟨o,e,hl⟩:=TickN_ex N hN t f inc bad nm h1 hB h3
  refine⟨_,_,e,hl,⟨⟨h.inc.1,by have:=h.inc.2;simp only at this ⊢;omega⟩,h.bad,fun _=>⟨h1.tick,(tick_id t).trans h2,c,?_⟩,fun q=>?_,fun q=>by cases q⟩⟩
  · simp only
    split
    · exact h3
    · exact h3.tick _
  · obtain⟨_,r1,r2⟩:=h.rt q
    have r3:=(Rt.tick r1 (h2.trans q)).1
    refine⟨rfl,r3,?_⟩
    try simp only
    rw[if_pos r3.1]
    exact r2
theorem NI.comes (N:Nat) (hN:200000000≤N) {B id:Int} {n:Nd} (h:NI B id n) (hB:1≤B∧B≤900000) (b:List Int) (hbl:b.length≤300) (hU:U8 b):∃o m,W_7 N (n,b)=some (o,m)∧Ol 100000000 o∧NI (B+1) id m:=by
  by_cases ho:n.1=true
  · obtain⟨on,inc,nm,t,f,bad⟩:=n
    obtain rfl:on=true:=ho
    obtain⟨h1,h2,c,h3⟩:=h.on rfl
    obtain⟨o,u,g,bq,c',e,hl,k1,k2,k3,k4,k5,k6⟩:=ComesN_ex2 N hN t f inc bad nm h1 hB h3 h.bad b hbl hU
    refine⟨_,_,e,hl,⟨⟨h.inc.1,by have:=h.inc.2;simp only at this ⊢;omega⟩,k4,fun _=>⟨k1,k2.trans h2,c',k3⟩,fun q=>?_,fun q=>by cases q⟩⟩
    obtain⟨_,r1,r2⟩:=h.rt q
    have r3:=k6 r1
    exact⟨rfl,r3,by simp only;rw[k5 r3.1];exact r2⟩
  · refine⟨[],n,?_,Ol.nil _,h.mono (by omega)⟩
    unfold W_7 V_7
    simp only[ho,Bool.not_false,cnd_t,obind_s,selim_r]
theorem say_FI {c:Int} {f:Fd} (h:FI 1000000 c f) (hw:f.2.2.2.1=[]) (hn:max f.1 1≤1000000) (x:List UInt8) (hx:x.length≤12):∃c',FI 1000000 c' (max f.1 1+1,max f.1 1,addR f.2.2.1 (max f.1 1,x),f.2.2.2.1,f.2.2.2.2.1++[(1,max f.1 1,max f.1 1,x,0)],f.2.2.2.2.2):=by
  have h0:=h.n0
  obtain⟨c',hp⟩:∃c',Fp 1000000 c' (max f.1 1) f.2.2.1 [(max f.1 1,x)] f.2.2.2.2.1:=by
    by_cases q:1≤f.1
    · have hp:=h.p q
      rw[show max f.1 1=f.1 by omega] at hn ⊢
      exact⟨c,hp.nx,hp.rk,hp.rl,⟨Int.le_refl _,⟨by simp only;omega,hx⟩,trivial⟩,hp.ch,hp.c0⟩
    · have hz:=h.z (by omega)
      rw[show max f.1 1=1 by omega,hz.1,hz.2.2]
      exact⟨1,⟨by omega,by omega⟩,trivial,by simp,⟨Int.le_refl _,⟨by simp only;omega,hx⟩,trivial⟩,rfl,by omega⟩
  have ht:=hp.tell rfl
  refine⟨c',⟨by simp only;omega,⟨by simp only;omega,hn⟩,fun _=>?_,h.ask,fun q=>by simp only at q;omega⟩⟩
  rw[hw]
  exact ht
theorem NI.say (N:Nat) (hN:200000000≤N) {B:Int} {n:Nd} (h:NI B 1 n) (x:List UInt8):∃o ok m,W_aZ N (n,x)=some (o,ok,m)∧Ol 100000000 o∧(ok=true→NI B 1 m):=by
  obtain⟨on,inc,nm,t,f,bad⟩:=n
  obtain⟨r0,r1,r2⟩:=h.rt rfl
  obtain rfl:on=true:=r0
  obtain⟨h1,h2,c,h3⟩:=h.on rfl
  simp only at h1 h2 h3 r1 r2
  have h0:=h3.n0
  have hln:=h3.lens (by omega)
  unfold W_aZ V_aZ W_bc V_bc
  simp only[Bool.not_true,cnd_f,obind_s]
  by_cases c1:(12:Int)<(x.length:Int)
  · rw[cnd_T c1,obind_s,cnd_F (fun q=>q h2)]
    exact⟨_,_,_,rfl,Ol.nil _,fun q=>by cases q⟩
  by_cases c2:(1000000:Int)<max f.1 1
  · rw[cnd_F c1,cnd_T c2,obind_s,cnd_F (fun q=>q h2)]
    exact⟨_,_,_,rfl,Ol.nil _,fun q=>by cases q⟩
  have ha:=rAdd_eq_2 N f.2.2.1 (max f.1 1,x) hln.1 (fun q=>by
    by_cases q1:1≤f.1
    · have:=(h3.p q1).rk.last q;simp only;omega
    · rw[(h3.z (by omega)).1] at q;simp at q)
  simp only at ha
  rw[cnd_F c1,cnd_F c2,rTell N _ _ _ (by omega),obind_s,ha,obind_s,wr_s (by omega) (by omega),obind_s]
  simp only[Bool.not_true,cnd_f]
  obtain⟨c',hg⟩:=say_FI h3 r2 (by omega) x (by omega)
  have hgl:=(hg.lens (by omega)).2.2
  simp only at hgl
  obtain⟨o2,ho2,hl2⟩:=down_ex N (by omega) t (List.drop (Int.toNat (f.2.2.2.2.1.length:Int)) (List.take (f.2.2.2.2.1++[(1,max f.1 1,max f.1 1,x,0)]).length (f.2.2.2.2.1++[(1,max f.1 1,max f.1 1,x,0)]))) h1.b.kl (by rw[List.length_drop,List.length_take];omega)
  have hle:(f.2.2.2.2.1.length:Int)≤((f.2.2.2.2.1++[((1:Int),max f.1 1,max f.1 1,x,(0:Int))]).length:Int):=by rw[List.length_append];omega
  rw[cnd_F (fun q=>q h2),dT (show (0:Int)≤(f.2.2.2.2.1.length:Int) by omega),dT hle,Bool.and_self,cnd_t,ho2,obind_s]
  refine⟨_,_,_,rfl,hl2.mono (by rw[List.length_drop,List.length_take];omega),fun _=>⟨h.inc,h.bad,fun _=>⟨h1,h2,c',hg⟩,fun _=>⟨rfl,r1,r2⟩,fun q=>by cases q⟩⟩
theorem Ask_ex (N:Nat) (hN:1000≤N) {D:List (List Int)} {k:Int} {L:Lv} (h:Hw N D k L) (id:Int):∃a,W_a1 N ((k,D,L),id)=some a∧0≤a∧a≤8:=by
  obtain⟨b1,b2⟩:=h.b
  unfold W_a1 V_a1
  refine loop_G (N:=N) (fun r=>∃a,r=some a∧0≤a∧a≤8) (fun j (v:Int×Hr)=>v=((j:Int),k,D,L)∧j≤L.length) L.length (fun r:PUnit⊕Int=>∀a,r=.inr a→0≤a∧a≤8) ⟨rfl,by omega⟩ (by omega) ?_ (fun k x h=>h.2) ?_
  · rintro(r | a) hr
    · exact⟨0,rfl,by omega,by omega⟩
    · exact⟨a,rfl,hr a rfl⟩
  rintro j _ ⟨rfl,hj⟩
  try simp only
  by_cases d:j<L.length
  · have hmem:L.getD j []∈L:=by
      rw[List.getD_eq_getElem?_getD,List.getElem?_eq_getElem d];exact List.getElem_mem _
    obtain⟨l8,lC,_⟩:=b2 _ hmem
    rw[dT (show (j:Int)<(L.length:Int) by omega),cnd_t,dT (show (0:Int)≤(j:Int) by omega),Bool.and_self,cnd_t,Int.toNat_natCast]
    by_cases q:∃i,i<(L.getD j []).length∧id∈((L.getD j []).getD i cD).1
    · obtain⟨i,hi,hx⟩:=q
      rw[Home_at N lC (by omega) hi hx hN,obind_s,cnd_F (show ¬(i:Int)<0 by omega),dT (show (0:Int)≤(i:Int) by omega),dT (show (i:Int)<((L.getD j []).length:Int) by omega),Bool.and_self,cnd_t,Int.toNat_natCast]
      by_cases e:((L.getD j []).getD i cD).2≠id
      · right
        have hm:=getD_memC hi
        have:=(lC.v _ hm).1.s _ (lead_in lC hm)
        rw[cnd_T e]
        exact⟨_,rfl,fun a ha=>by cases ha;exact⟨Int.le_trans (by decide) this.1,this.2⟩⟩
      · left
        rw[cnd_F e,wi (by omega)]
        exact⟨_,rfl,rfl,by omega⟩
    · right
      rw[Home_no N lC (by omega) (fun i hi hx=>q ⟨i,hi,hx⟩) hN,obind_s,cnd_T (by omega)]
      exact⟨_,rfl,fun a ha=>by cases ha;omega⟩
  · right
    rw[dF (show ¬(j:Int)<(L.length:Int) by omega),cnd_f]
    exact⟨_,rfl,fun a ha=>by cases ha⟩
abbrev Wd:=List Nd×List Gr×List (List UInt8)×Hr
def FlOk (l:List Gr):Prop:=l.length≤60∧∀g∈l,(1≤g.1∧g.1≤8)∧g.2.1.length≤300
theorem pm_ok (m:Ms):pm m=[]∨MayP m∧U8 (pm m)∧(pm m).length≤300∧0<(pm m).length:=by
  unfold pm
  by_cases q:MayP m
  · rw[if_pos q]
    have hB:=bd_U8 q.rg
    refine .inr ⟨q,U8_app hB.1 (sm_U8 _),?_,?_⟩
    all_goals
      rw[List.length_append,show (sm (bd m)).length=4 from rfl]
      omega
  · rw[if_neg q];exact .inl rfl
theorem with_ex (N:Nat) (hN:200000000≤N) (w:Wd) (h8:w.1.length=8) (hf:FlOk w.2.1) (i:Nat) (hi:i<8) (n:Nd) (l:List Ms) (hl:Ol 100000000 l):∃fl,W_l N (w,(i:Int),n,l)=some (w.1.set i n,fl,w.2.2)∧FlOk fl:=by
  have hll:=hl.1
  unfold W_l V_l
  simp only[h8,Int.toNat_natCast]
  rw[putL_set n (by omega),cnd_T (by omega),dT (show (0:Int)≤(i:Int) by omega),dT (show (i:Int)<((8:Nat):Int) by omega),Bool.and_self,cnd_t]
  refine loop_G (N:=N) (fun r=>∃fl,r=some (w.1.set i n,fl,w.2.2)∧FlOk fl) (fun k (v:Int×Wd×Wd)=>v.1=k∧v.2.1.1=w.1.set i n∧FlOk v.2.1.2.1∧v.2.1.2.2=w.2.2∧k≤l.length) l.length (fun r:Wd×Wd=>r.1.1=w.1.set i n∧FlOk r.1.2.1∧r.1.2.2=w.2.2) ⟨rfl,rfl,hf,rfl,by omega⟩ (by omega) ?_ (fun k x h=>h.2.2.2.2) ?_
  · rintro⟨⟨a,b,c⟩,d⟩ ⟨h1,h2,h3⟩
    simp only at h1 h2 h3
    subst h1 h3
    exact⟨b,rfl,h2⟩
  · rintro k ⟨j,⟨a,b,c⟩,d⟩ ⟨h1,h2,h3,h4,h5⟩
    simp only at h1 h2 h3 h4
    subst h1 h2 h4
    by_cases q:k<l.length
    · left
      have w1:=wi (k:=k) (by omega)
      have hp:=getD_ol hl q
      try simp only
      rw[dT (show (k:Int)<(l.length:Int) by omega),cnd_t,dT (show (0:Int)≤(k:Int) by omega),Bool.and_self,cnd_t,Int.toNat_natCast,rPut_eq2 N (by omega) _ hp,obind_s]
      rcases pm_ok (l.getD k zM) with e | ⟨e1,e2,e3,e4⟩
      · have e':pm (l.getD k ((0:Int),(0:Int),(0:Int),(0:Int),(0:Int),(0:Int),[],(0:Int),(0:Int),[]))=[]:=e
        rw[e',cnd_F (by simp),w1]
        exact⟨_,rfl,rfl,rfl,h3,rfl,by omega⟩
      · change U8 (pm (l.getD k ((0:Int),(0:Int),(0:Int),(0:Int),(0:Int),(0:Int),[],(0:Int),(0:Int),[]))) at e2
        change (pm (l.getD k ((0:Int),(0:Int),(0:Int),(0:Int),(0:Int),(0:Int),[],(0:Int),(0:Int),[]))).length≤300 at e3
        change 0<(pm (l.getD k ((0:Int),(0:Int),(0:Int),(0:Int),(0:Int),(0:Int),[],(0:Int),(0:Int),[]))).length at e4
        rw[cnd_T (by omega),U8_all e2,cnd_t,rSend_eq N _ _ (by have:=h3.1;omega),obind_s,w1]
        refine⟨_,rfl,rfl,rfl,?_,rfl,by omega⟩
        try simp only
        split
        · exact h3
        · refine⟨by rw[List.length_append,List.length_singleton];omega,fun g hg=>?_⟩
          rcases List.mem_append.1 hg with hg | hg
          · exact h3.2 g hg
          · rw[List.mem_singleton.1 hg]
            exact⟨e1.2.2.1,by simp only[bytesI,List.length_map];exact e3⟩
    · right
      try simp only
      rw[cnd_F (show ¬(k:Int)<(l.length:Int) by omega)]
      exact⟨_,rfl,rfl,h3,rfl⟩
structure WI (N:Nat) (B:Int) (w:Wd):Prop where
  n8:w.1.length=8
  ns:∀i:Nat,i<8→NI B ((i:Int)+1) (w.1.getD i ndD)
  fl:FlOk w.2.1
  sd:(w.2.2.1.length:Int)≤B
  h:∃D k L,w.2.2.2=(k,D,L)∧GD D∧Z0 D∧(1≤k∧k≤3)∧Hw N D k L
theorem WI.mono {N:Nat} {B B':Int} {w:Wd} (h:WI N B w) (hB:B≤B'):WI N B' w:=
  ⟨h.n8,fun i hi=>(h.ns i hi).mono hB,h.fl,by have:=h.sd;omega,h.h⟩
theorem WI.set {N:Nat} {B B':Int} {w:Wd} (h:WI N B w) (hB:B≤B') {i:Nat} (hi:i<8) {n:Nd} (hn:NI B' ((i:Int)+1) n) {fl:List Gr} (hf:FlOk fl):WI N B' (w.1.set i n,fl,w.2.2):=by
  have h8:=h.n8
  refine⟨by simp only[List.length_set];exact h8,fun j hj=>?_,hf,by have:=h.sd;simp only;omega,h.h⟩
  try simp only
  by_cases q:j=i
  · subst q
    rw[List.getD_eq_getElem?_getD,List.getElem?_set_self (by omega)]
    exact hn
  · rw[List.getD_eq_getElem?_getD,List.getElem?_set_ne (fun e=>q e.symm),←List.getD_eq_getElem?_getD]
    exact(h.ns j hj).mono hB
theorem WI.hier {N:Nat} {B:Int} {w:Wd} (h:WI N B w) {H:Hr} (hh:∃D k L,H=(k,D,L)∧GD D∧Z0 D∧(1≤k∧k≤3)∧Hw N D k L):WI N B (w.1,w.2.1,w.2.2.1,H):=
  ⟨h.n8,h.ns,h.fl,h.sd,hh⟩
theorem WI.fly {N:Nat} {B:Int} {w:Wd} (h:WI N B w) {fl:List Gr} (hf:FlOk fl):WI N B (w.1,fl,w.2.2):=
  ⟨h.n8,h.ns,hf,h.sd,h.h⟩
theorem come_ex (N:Nat) (hN:200000000≤N) {B:Int} {w:Wd} (h:WI N B w) (hB:1≤B∧B≤900000) (g:Gr) (h1:1≤g.1∧g.1≤8) (h2:g.2.1.length≤300):∃w',W_aS N (w,g)=some w'∧WI N (B+1) w':=by
  have h8:=h.n8
  obtain⟨i,hi,he⟩:∃i:Nat,i<8∧g.1=(i:Int)+1:=⟨(g.1-1).toNat,by omega,by omega⟩
  have w0:wr .i64 ((i:Int)+1-1)=i:=by rw[wr_m (by omega) (by omega)];omega
  obtain⟨o,m,e,ho,hm⟩:=(h.ns i hi).comes N hN hB (by8 g.2.1) (by unfold by8;rw[List.length_map];exact h2) (by8_U8 _)
  obtain⟨fl,e2,hf⟩:=with_ex N hN w h8 h.fl i hi m o ho
  unfold by8 at e
  unfold W_aS V_aS
  simp only[he,w0,h8,Int.toNat_natCast]
  rw[cnd_F (by omega),cnd_F (by omega),dT (show (0:Int)≤(i:Int) by omega),dT (show (i:Int)<((8:Nat):Int) by omega),Bool.and_self,cnd_t,e,obind_s,e2,obind_s]
  exact⟨_,rfl,h.set (by omega) hi hm hf⟩
theorem NI.crash {B id:Int} {n:Nd} (h:NI B id n) (hi:id≠1) (T:TT):NI B id (false,n.2.1,[],T,z7,n.2.2.2.2.2):=
  ⟨h.inc,h.bad,fun q=>by (cases q),fun q=>absurd q hi,fun _=>rfl⟩
theorem leave_ol {B:Int} {t:TT} (h:Tb B t):Ol 100 (leaveM t):=by
  have hk:=h.kl
  unfold leaveM
  refine Ol.mono (n:=1+8) (Ol.app (n:=1) (n':=8) ?_ ?_) (by omega)
  · split
    · exact⟨by simp,fun m hm=>by rw[List.mem_singleton.1 hm];exact say_path _ _ _⟩
    · exact Ol.nil _
  · refine⟨by rw[List.length_map];exact hk,fun m hm=>?_⟩
    obtain⟨k,_,rfl⟩:=List.mem_map.1 hm
    exact say_path _ _ _
theorem NI.join {B id:Int} {n:Nd} (h:NI B id n) (hi:1≤id∧id≤8) (hB:1≤B) (x:List UInt8) (g:Int) (hg:0≤g∧g≤8) (hj:(joinN n id x g).1=true) (ho:n.1=false):NI (B+2) id (joinN n id x g).2:=by
  have hinc:=h.inc
  unfold joinN at hj ⊢
  split at hj
  · cases hj
  rename_i q
  rw[if_neg q]
  have hr:id≠1:=fun q=>by rw[(h.rt q).1] at ho;cases ho
  rw[if_neg hr]
  have hw:=Wt.new id (n.2.1+1) g hi hg
  rw[if_neg hr] at hw
  refine⟨by simp only;omega,⟨Int.le_refl (0:Int),show (0:Int)≤1073741824 by decide⟩,fun _=>⟨hw.mono (by omega),rfl,0,FI0 0⟩,fun q=>absurd q hr,fun _=>rfl⟩
theorem of_ex (N:Nat) (hN:200000000≤N) {B:Int} {w:Wd} (h:WI N B w) (hB:1≤B∧B≤900000) (kd:Int) (i:Nat) (hi:i<8) (a b:Int) (x:List UInt8) (hx:x.length≤1000):∃e w',W_a5 N (w,kd,(i:Int)+1,a,b,x)=some (e,w')∧WI N (B+2) w':=by
  have h8:=h.n8
  have hni:=h.ns i hi
  have w0:wr .i64 ((i:Int)+1-1)=i:=by rw[wr_m (by omega) (by omega)];omega
  have hm:=h.mono (B':=B+2) (by omega)
  obtain⟨D,k,L,eH,hD,h0,hk,hL⟩:=h.h
  unfold W_a5 V_a5
  simp only[w0,h8,Int.toNat_natCast,eH]
  change ∃e w',cnd _ (cnd _ (cnd (List.getD w.1 i ndD).1 _ _) (cnd (!(List.getD w.1 i ndD).1) _ _)) _=_∧_
  rw[dT (show (0:Int)≤(i:Int) by omega),dT (show (i:Int)<((8:Nat):Int) by omega),Bool.and_self,cnd_t]
  by_cases k1:kd=1
  · rw[cnd_T k1]
    by_cases on:(List.getD w.1 i ndD).1=true
    · rw[on,cnd_t];exact⟨_,_,rfl,hm⟩
    have on':(List.getD w.1 i ndD).1=false:=by simpa using on
    obtain⟨L',eJ,hL'⟩:=Join7 N hD h0 hk (by omega) hL ((i:Int)+1)
    obtain⟨q,eA,hq⟩:=Ask_ex N (by omega) hL' ((i:Int)+1)
    have hJ:=rJoinN_eq N (by omega) (List.getD w.1 i ndD) ((i:Int)+1) x q hx (by have:=hni.inc;omega)
    have hJ':W_D N ((List.getD w.1 i ((false,(0:Int),[],((0:Int),(0:Int),(0:Int),(0:Int),(0:Int),(0:Int),[],(0:Int),(0:Int),(0:Int),(0:Int),(0:Int),[]),((0:Int),(0:Int),[],[],[],(0:Int),(0:Int)),(0:Int)):Nd)),(i:Int)+1,x,q)=_:=hJ
    rw[on',cnd_f,eJ,obind_s,eA,obind_s,hJ',obind_s]
    have hn2:=fun z=>hni.join (by omega) hB.1 x q hq z on'
    generalize joinN (List.getD w.1 i ndD) ((i:Int)+1) x q=p at hn2 ⊢
    obtain⟨ok,n2⟩:=p
    cases ok with
    | false=>
      simp only[Bool.not_false,cnd_t]
      exact⟨_,_,rfl,hm⟩
    | true=>
      have hh:WI N (B+2) (w.1,w.2.1,w.2.2.1,(k,D,L')):=hm.hier ⟨D,k,L',rfl,hD,h0,hk,hL'⟩
      obtain⟨fl,e2,hf⟩:=with_ex N hN (w.1,w.2.1,w.2.2.1,(k,D,L')) h8 h.fl i hi n2 [] (Ol.nil _)
      simp only[Bool.not_true,cnd_f]
      rw[e2,obind_s]
      exact⟨_,_,rfl,hh.set (Int.le_refl _) hi (hn2 rfl) hf⟩
  rw[cnd_F k1]
  by_cases on:(List.getD w.1 i ndD).1=true
  case neg=>
    have on':(List.getD w.1 i ndD).1=false:=by simpa using on
    rw[on',Bool.not_false,cnd_t]
    exact⟨_,_,rfl,hm⟩
  rw[on,Bool.not_true,cnd_f]
  by_cases k5:kd=5
  · obtain⟨o,m,e,ho,hn⟩:=hni.tick N hN on hB.2
    obtain⟨fl,e2,hf⟩:=with_ex N hN w h8 h.fl i hi m o ho
    change W_ae N (List.getD w.1 i ((false,(0:Int),[],((0:Int),(0:Int),(0:Int),(0:Int),(0:Int),(0:Int),[],(0:Int),(0:Int),(0:Int),(0:Int),(0:Int),[]),((0:Int),(0:Int),[],[],[],(0:Int),(0:Int)),(0:Int)):Nd))=_ at e
    rw[cnd_T k5,e,obind_s,e2,obind_s]
    exact⟨_,_,rfl,h.set (by omega) hi hn hf⟩
  rw[cnd_F k5]
  by_cases i0:(i:Int)=0
  · rw[cnd_T i0];exact⟨_,_,rfl,hm⟩
  rw[cnd_F i0]
  have hi1:(i:Int)+1≠1:=by omega
  by_cases k3:kd=3
  · have e:=rCrash_eq N (List.getD w.1 i ndD)
    rw[if_pos on] at e
    obtain⟨fl,e2,hf⟩:=with_ex N hN w h8 h.fl i hi (false,(List.getD w.1 i ndD).2.1,[],tD,z7,(List.getD w.1 i ndD).2.2.2.2.2) [] (Ol.nil _)
    change W_z N (List.getD w.1 i ((false,(0:Int),[],((0:Int),(0:Int),(0:Int),(0:Int),(0:Int),(0:Int),[],(0:Int),(0:Int),(0:Int),(0:Int),(0:Int),[]),((0:Int),(0:Int),[],[],[],(0:Int),(0:Int)),(0:Int)):Nd))=_ at e
    rw[cnd_T k3,e,obind_s,e2,obind_s]
    exact⟨_,_,rfl,h.set (by omega) hi ((hni.crash hi1 _).mono (by omega)) hf⟩
  have e:=rOffN_eq N (by omega) (B:=B) (List.getD w.1 i ndD) fun _=>(hni.on on).1.b
  rw[if_pos on] at e
  obtain⟨L',eL,hL'⟩:=Leave7 N hD h0 hk (by omega) hL ((i:Int)+1)
  have hh:WI N (B+2) (w.1,w.2.1,w.2.2.1,(k,D,L')):=hm.hier ⟨D,k,L',rfl,hD,h0,hk,hL'⟩
  obtain⟨fl,e2,hf⟩:=with_ex N hN (w.1,w.2.1,w.2.2.1,(k,D,L')) h8 h.fl i hi (false,(List.getD w.1 i ndD).2.1,[],tD,z7,(List.getD w.1 i ndD).2.2.2.2.2) (leaveM (List.getD w.1 i ndD).2.2.2.1) ((leave_ol (hni.on on).1.b).mono (by omega))
  change W_ar N (List.getD w.1 i ((false,(0:Int),[],((0:Int),(0:Int),(0:Int),(0:Int),(0:Int),(0:Int),[],(0:Int),(0:Int),(0:Int),(0:Int),(0:Int),[]),((0:Int),(0:Int),[],[],[],(0:Int),(0:Int)),(0:Int)):Nd))=_ at e
  rw[cnd_F k3,e,obind_s,eL,obind_s,e2,obind_s]
  exact⟨_,_,rfl,hh.set (Int.le_refl _) hi ((hni.crash hi1 _).mono (by omega)) hf⟩
theorem cnd_exn {β:Type} {c:Bool} {a:β} {Y:Option β} {P:β→Prop} (h:P a) (h2:∃z,Y=some z∧P z):∃z,cnd c (some a) Y=some z∧P z:=by
  cases c
  · exact h2
  · exact⟨_,rfl,h⟩
theorem FlOk.sub {l m:List Gr} (h:FlOk l) (hl:m.length≤l.length) (hm:∀g∈m,g∈l):FlOk m:=⟨by have:=h.1;omega,fun g hg=>h.2 g (hm g hg)⟩
theorem FlOk.gone {l:List Gr} (h:FlOk l) (k:Nat):FlOk (l.take k++l.drop (k+1)):=by
  refine h.sub (by rw[List.length_append,List.length_take,List.length_drop];omega) fun g hg=>?_
  rcases List.mem_append.1 hg with q | q
  · exact List.mem_of_mem_take q
  · exact List.mem_of_mem_drop q
theorem getD_gr {l:List Gr} {k:Nat} (hk:k<l.length):l.getD k gD∈l:=by
  rw[List.getD_eq_getElem?_getD,List.getElem?_eq_getElem hk];exact List.getElem_mem hk
theorem FlOk.gone_ex (N:Nat) {l:List Gr} (h:FlOk l) (I:Int):∃m ok g,W_0 N (l,I)=some (m,ok,g)∧FlOk m∧(ok=true→(1≤g.1∧g.1≤8)∧g.2.1.length≤300):=by
  by_cases q:0≤I∧I<l.length
  · obtain⟨k,rfl⟩:∃k:Nat,I=k:=⟨I.toNat,by omega⟩
    exact⟨_,_,_,Gone_yes N l k (by have:=h.1;omega) (by omega),h.gone k,fun _=>h.2 _ (getD_gr (by omega))⟩
  · exact⟨_,_,_,Gone_no N l I q,h,fun q=>by cases q⟩
theorem FlOk.twice_ex (N:Nat) {l:List Gr} (h:FlOk l) (I:Int):∃m ok,W_3 N (l,I)=some (m,ok)∧FlOk m:=by
  by_cases q:(0≤I∧I<l.length)∧l.length<60
  · obtain⟨k,rfl⟩:∃k:Nat,I=k:=⟨I.toNat,by omega⟩
    refine⟨_,_,rTwice_yes N l k (by omega) q.2,by rw[List.length_append,List.length_singleton];omega,fun g hg=>?_⟩
    rcases List.mem_append.1 hg with hg | hg
    · exact h.2 g hg
    · rw[List.mem_singleton.1 hg];exact h.2 _ (getD_gr (by omega))
  · exact⟨_,_,rTwice_no N l I (by omega),h⟩
theorem FlOk.turned_ex (N:Nat) {l:List Gr} (h:FlOk l) (I to:Int) (ht:to≤9223372036854775807):∃m ok,W_1 N (l,I,to)=some (m,ok)∧FlOk m:=by
  by_cases q:NoT l I to
  · exact⟨_,_,rTurned_no N l I to q,h⟩
  · refine⟨_,_,rTurned_yes N l I to (by have:=h.1;omega) ht q,by rw[List.length_set];exact h.1,fun g hg=>?_⟩
    rcases List.mem_or_eq_of_mem_set hg with hg | rfl
    · exact h.2 g hg
    · unfold NoT at q
      have:=h.2 _ (getD_gr (l:=l) (k:=I.toNat) (by omega))
      exact⟨this.1,by simp only[tg,List.length_set];exact this.2⟩
theorem Do_ex (N:Nat) (hN:200000000≤N) {B:Int} {w:Wd} (h:WI N B w) (hB:1≤B∧B≤900000) (kd R I to:Int) (x:List UInt8) (hx:x.length≤1000) (ht:to≤9223372036854775807):∃e w',W_i N (w,kd,R,I,to,x)=some (e,w')∧WI N (B+2) w':=by
  have h8:=h.n8
  have hm:=h.mono (B':=B+2) (by omega)
  unfold W_i V_i
  rw[cnd_F (show ¬((w.1.length:Int)≠8) by rw[h8];decide)]
  refine ob_post (fun r=>∃e w',r=some (e,w')∧WI N (B+2) w') (fun(b:Bool×Wd×(Int×Int×Int×Int×List UInt8)×Wd)=>b.2.1=w∧b.2.2.1=(kd,R,I,to,x)) (cnd_exn ⟨rfl,rfl⟩ (cnd_exn ⟨rfl,rfl⟩ (cnd_exn ⟨rfl,rfl⟩ ⟨_,rfl,rfl,rfl⟩))) ?_
  rintro⟨q,w',s,z⟩ ⟨e1,e2⟩
  simp only at e1 e2
  subst e1 e2
  cases q with
  | true=>
    simp only[cnd_t]
    by_cases c1:R<1
    · rw[cnd_T c1];exact⟨_,_,rfl,hm⟩
    by_cases c2:(w'.1.length:Int)<R
    · rw[cnd_F c1,cnd_T c2];exact⟨_,_,rfl,hm⟩
    obtain⟨i,hi,rfl⟩:∃i:Nat,i<8∧R=(i:Int)+1:=⟨(R-1).toNat,by omega,by omega⟩
    obtain⟨e,v,he,hv⟩:=of_ex N hN h hB kd i hi I to x hx
    rw[cnd_F c1,cnd_F c2,he,obind_s]
    exact⟨_,_,rfl,hv⟩
  | false=>
  simp only[cnd_f]
  by_cases k4:kd=4
  · have hr:NI B 1 (w'.1.getD 0 ndD):=h.ns 0 (by omega)
    obtain⟨o,ok,m,e,ho,hn⟩:=hr.say N hN x
    rw[cnd_T k4,dT (show (0:Int)≤0 by omega),dT (show (0:Int)<(w'.1.length:Int) by omega),Bool.and_self,cnd_t,e,obind_s]
    cases ok with
    | false=>simp only[Bool.not_false,cnd_t];exact⟨_,_,rfl,hm⟩
    | true=>
      obtain⟨fl,e2,hf⟩:=with_ex N hN w' h8 h.fl 0 (by omega) m o ho
      have e3:W_l N (w',0,m,o)=some (w'.1.set 0 m,fl,w'.2.2):=e2
      have hw:=h.set (B':=B+2) (i:=0) (by omega) (by omega) ((hn rfl).mono (by omega)) hf
      have hs:=h.sd
      simp only[Bool.not_true,cnd_f]
      rw[e3,obind_s,cnd_T (by simp only;omega),cnd_T (by simp only[List.length_singleton];omega)]
      exact⟨_,_,rfl,hw.n8,hw.ns,hw.fl,by simp only[List.length_append,List.length_singleton];omega,hw.h⟩
  rw[cnd_F k4]
  by_cases k6:kd=6
  · obtain⟨m,ok,g,e,hf,hg⟩:=h.fl.gone_ex N I
    rw[cnd_T k6,e,obind_s]
    cases ok with
    | false=>simp only[Bool.not_false,cnd_t];exact⟨_,_,rfl,hm⟩
    | true=>
      obtain⟨v,e2,hv⟩:=come_ex N hN (h.fly hf) hB g (hg rfl).1 (hg rfl).2
      simp only[Bool.not_true,cnd_f]
      rw[e2,obind_s]
      exact⟨_,_,rfl,hv.mono (by omega)⟩
  rw[cnd_F k6]
  refine ob_post (fun r=>∃e w',r=some (e,w')∧WI N (B+2) w') (fun(b:(List Gr×Bool×Wd×Wd)⊕Int×Wd)=>(∃m ok y,b=.inl (m,ok,w',y)∧FlOk m)∨b=.inr (1,w')) ?_ ?_
  · by_cases k7:kd=7
    · obtain⟨m,ok,g,e,hf,_⟩:=h.fl.gone_ex N I
      rw[cnd_T k7,e,obind_s]
      exact⟨_,rfl,.inl ⟨_,_,_,rfl,hf⟩⟩
    by_cases k8:kd=8
    · obtain⟨m,ok,e,hf⟩:=h.fl.twice_ex N I
      rw[cnd_F k7,cnd_T k8,e,obind_s]
      exact⟨_,rfl,.inl ⟨_,_,_,rfl,hf⟩⟩
    by_cases k9:kd=9
    · obtain⟨m,ok,e,hf⟩:=h.fl.turned_ex N I to ht
      rw[cnd_F k7,cnd_F k8,cnd_T k9,e,obind_s]
      exact⟨_,rfl,.inl ⟨_,_,_,rfl,hf⟩⟩
    rw[cnd_F k7,cnd_F k8,cnd_F k9]
    exact⟨_,rfl,.inr rfl⟩
  · rintro _ (⟨m,ok,y,rfl,hf⟩ | rfl)
    · rw[selim_l]
      cases ok with
      | false=>simp only[Bool.not_false,cnd_t];exact⟨_,_,rfl,hm⟩
      | true=>simp only[Bool.not_true,cnd_f];exact⟨_,_,rfl,hm.fly hf⟩
    · rw[selim_r];exact⟨_,_,rfl,hm⟩
theorem Round_ex (N:Nat) (hN:200000000≤N) {B:Int} {w:Wd} (h:WI N B w) (hB:1≤B∧B≤890000):∃w',W_A N w=some w'∧WI N (B+4020) w':=by
  unfold W_A V_A
  refine loop_G (N:=N) (fun r=>∃w',r=some w'∧WI N (B+4020) w') (fun k (v:Int×Wd×Wd)=>v.1=k∧WI N (B+2*k) v.2.1∧k≤8) 8 (fun r:Wd×Wd=>WI N (B+16) r.1) ⟨rfl,by simpa using h,by omega⟩ (by omega) ?_ (fun k x h=>h.2.2) ?_
  · rintro⟨w1,y⟩ h1
    simp only at h1
    refine loop_G (N:=N) (fun r=>∃w',r=some w'∧WI N (B+4020) w') (fun k (v:Int×Wd×Wd)=>v.1=k∧WI N (B+16+2*k) v.2.1∧k≤2000) 2000 (fun r:Wd×Wd=>WI N (B+4020) r.1) ⟨rfl,by simpa using h1,by omega⟩ (by omega) (fun r hr=>⟨_,rfl,hr⟩) (fun k x h=>h.2.2) ?_
    rintro k ⟨j,w2,y2⟩ ⟨e1,h2,h3⟩
    simp only at e1 h2
    subst e1
    by_cases c:k<2000
    · simp only
      rw[dT (show (k:Int)<2000 by omega),cnd_t]
      by_cases d:(0:Int)<(w2.2.1.length:Int)
      · left
        obtain⟨e,w3,he,hw⟩:=Do_ex N hN h2 (by omega) 6 0 0 0 [] (by simp) (by omega)
        rw[cnd_T d,he,obind_s,wi (by omega)]
        exact⟨_,rfl,rfl,hw.mono (by omega),by omega⟩
      · right
        rw[cnd_F d]
        exact⟨_,rfl,h2.mono (by omega)⟩
    · right
      try simp only
      rw[dF (show ¬(k:Int)<2000 by omega),cnd_f]
      exact⟨_,rfl,h2.mono (by omega)⟩
  · rintro k ⟨j,w2,y2⟩ ⟨e1,h2,h3⟩
    simp only at e1 h2
    subst e1
    have h8:=h2.n8
    by_cases c:k<8
    · left
      try simp only
      rw[dT (show (k:Int)<(w2.1.length:Int) by omega),cnd_t,dT (show (0:Int)≤(k:Int) by omega),Bool.and_self,cnd_t]
      obtain⟨e,w3,he,hw⟩:=Do_ex N hN h2 (by omega) 5 ((k:Int)+1) 0 0 [] (by simp) (by omega)
      have w1:=wi (k:=k) (by omega)
      rw[w1,show ((k+1:Nat):Int)=(k:Int)+1 by omega]
      rcases Bool.eq_false_or_eq_true (List.getD w2.1 (Int.toNat (k:Int)) ndD).1 with q | q
      · rw[q,cnd_t,he,obind_s]
        exact⟨_,rfl,rfl,hw.mono (by omega),by omega⟩
      · rw[q,cnd_f]
        exact⟨_,rfl,rfl,h2.mono (by omega),by omega⟩
    · right
      try simp only
      rw[dF (show ¬(k:Int)<(w2.1.length:Int) by omega),cnd_f]
      exact⟨_,rfl,h2.mono (by omega)⟩
theorem New7_ex (N:Nat) (hN:200000000≤N) {D:List (List Int)} (hD:GD D) (h0:Z0 D) (k:Int) (hk:1≤k∧k≤3):W_a0 N (D,k)=some (true,k,D,[]):=by
  have hl:=hD.len
  unfold W_a0 V_a0
  simp only[rMay_eq N hD h0 (by omega),obind_s,Bool.not_true,cnd_f]
  rw[dF (show ¬k<1 by omega),cnd_f,cnd_F (by omega)]
  refine obind_rec [] D (fun i (o:List (List Int))=>(i,((0:Int),([]:List (List Int)),([]:Lv)),k,([]:Lv),o)) (fun l o=>(((0:Int),([]:List (List Int)),([]:Lv)),k,([]:Lv),o++l)) (fun o r=>(∀e∈r,e.length≤8)∧o.length+r.length≤8) [] rfl (by omega) ⟨fun e he=>?_,by simp;omega⟩ rfl ?_ ?_
  · obtain⟨i,hi,rfl⟩:=List.mem_iff_getElem.1 he
    have:=hD.row i (by omega)
    rw[List.getD_eq_getElem?_getD,List.getElem?_eq_getElem hi] at this
    exact Nat.le_of_eq this
  · rintro o _
    try simp only
    rw[cnd_F (by omega),List.append_nil]
  · rintro i e r o hi hg ⟨g1,g2⟩
    left
    have he:=g1 e (by simp)
    simp only[List.length_cons] at g2
    try simp only
    rw[dT (show (i:Int)<(D.length:Int) by omega),cnd_t,dT (show (0:Int)≤(i:Int) by omega),Bool.and_self,cnd_t,Int.toNat_natCast,hg,cnd_T (by omega),cnd_T (by omega),wr_s (by omega) (by omega)]
    exact⟨_,rfl,by simp,fun e he=>g1 e (by simp[he]),by simp;omega⟩
theorem root_ok:nameM (LL [(114:UInt8),111,111,116])=true:=by
  have h:=rName_eq 2000 (by omega) [(114:UInt8),111,111,116] (by simp)
  have e:W_as 2000 [(114:UInt8),111,111,116]=some true:=by decide +kernel
  rw[e] at h
  exact(Option.some.inj h).symm
theorem nd0_ok (id:Int) (h:id≠1):NI 1 id ndD:=⟨⟨by simp,by simp⟩,⟨Int.le_refl (0:Int),show (0:Int)≤1073741824 by decide⟩,fun q=>(by cases q),fun q=>absurd q h,fun _=>rfl⟩
theorem New21_ex (N:Nat) (hN:200000000≤N) {D:List (List Int)} (hD:GD D) (h0:Z0 D) (k:Int) (hk:1≤k∧k≤3):∃w,W_S N (D,k)=some (true,w)∧WI N 1 w:=by
  obtain⟨L,eJ,hL⟩:=Join7 N hD h0 hk (by omega) (.inl rfl) 1
  have hj:=rJoinN_eq N (by omega) ndD 1 [(114:UInt8),111,111,116] 0 (by simp) (by simp)
  have hn:joinN ndD 1 [(114:UInt8),111,111,116] 0=(true,true,1,[(114:UInt8),111,111,116],(1,1,0,0,0,0,[1],0,0,0,0,0,[]),z7,0):=by
    unfold joinN
    rw[root_ok]
    rfl
  rw[hn] at hj
  unfold W_S V_S
  rw[New7_ex N hN hD h0 k hk,obind_s]
  simp only[Bool.not_true,cnd_f]
  rw[eJ,obind_s,hj,obind_s]
  have hw:=Wt.new 1 1 0 (by omega) (by omega)
  refine⟨_,rfl,rfl,fun i hi=>?_,⟨by simp,fun g hg=>by cases hg⟩,by simp,D,k,L,rfl,hD,h0,hk,hL⟩
  have hr:NI 1 1 (true,1,[(114:UInt8),111,111,116],(1,1,0,0,0,0,[1],0,0,0,0,0,[]),z7,0):=
    ⟨⟨by simp,by simp⟩,⟨Int.le_refl (0:Int),show (0:Int)≤1073741824 by decide⟩,fun _=>⟨hw,rfl,0,FI0 0⟩,fun _=>⟨rfl,⟨rfl,rfl⟩,rfl⟩,fun q=>by cases q⟩
  rcases Nat.eq_zero_or_pos i with rfl | hi0
  · exact hr
  · have hid:(i:Int)+1≠1:=by omega
    have e:[((true,1,[(114:UInt8),111,111,116],(1,1,0,0,0,0,[1],0,0,0,0,0,[]),z7,0):Nd),ndD,ndD,ndD,ndD,ndD,ndD,ndD].getD i ndD=ndD:=by
      obtain⟨j,rfl⟩:∃j,i=j+1:=⟨i-1,by omega⟩
      show (List.replicate 7 ndD).getD j ndD=ndD
      rw[List.getD_eq_getElem?_getD,List.getElem?_replicate]
      split<;>rfl
    have h:=nd0_ok _ hid
    rw[←e] at h
    exact h
theorem World_ex (N:Nat) (hN:200000000≤N) (l:List Int) (n:Int) (hU:U8 l) (hl:l.length≤1000) (h0:0≤n∧n≤l.length):∃n' w,W_aN N (l,n)=some ((l,n'),w)∧(0≤n'∧n'≤l.length)∧WI N 1 w:=by
  obtain⟨D,n1,e1,hD,hZ,r1,r2⟩:=Dist_spec0 N l n hU hl h0.1 h0.2
  obtain⟨v,n2,e2,p1,p2,p3,p4⟩:=Num_spec N 3 l n1 hU hl r1 r2 (by omega) (by omega)
  obtain⟨w,e3,hw⟩:=New21_ex N hN hD hZ (1+v) (by omega)
  unfold W_aN V_aN
  rw[e1,obind_s,e2,obind_s,wr_s (by omega) (by omega),e3,obind_s]
  exact⟨_,_,rfl,⟨p3,p4⟩,hw⟩
theorem Text_ex (N:Nat) (l:List Int) (n:Int) (hU:U8 l) (hl:l.length≤1000) (h0:0≤n∧n≤l.length):∃n' x,W_aR N (l,n)=some (x,l,n')∧(0≤n'∧n'≤l.length)∧x.length≤1000:=by
  obtain⟨v,n2,e2,p1,p2,p3,p4⟩:=Num_spec N 5 l n hU hl h0.1 h0.2 (by omega) (by omega)
  unfold W_aR V_aR
  rw[e2,obind_s,dT p1,cnd_t,dT (show v<((5:Nat):Int) from p2),cnd_t]
  refine⟨_,_,rfl,⟨p3,p4⟩,?_⟩
  obtain⟨j,hj,rfl⟩:∃j:Nat,j<5∧v=j:=⟨v.toNat,by omega,by omega⟩
  rw[Int.toNat_natCast]
  exact(by decide:∀j,j<5→(List.getD [[],[(97:UInt8)],[(98:UInt8),(99:UInt8)],[(104:UInt8),(101:UInt8),(108:UInt8),(108:UInt8),(111:UInt8)],[(116:UInt8),(119:UInt8),(101:UInt8),(108:UInt8),(118:UInt8),(101:UInt8),(32:UInt8),(98:UInt8),(121:UInt8),(116:UInt8),(101:UInt8),(115:UInt8)]] j []).length≤1000) j hj
theorem Step_ex (N:Nat) {B:Int} {w:Wd} (h:WI N B w) (l:List Int) (n:Int) (hU:U8 l) (hl:l.length≤1000) (h0:0≤n∧n≤l.length):∃n' kd R I to x,W_aP N (w,l,n)=some ((l,n'),kd,R,I,to,x)∧(0≤n'∧n'≤l.length)∧x.length≤1000∧to≤9223372036854775807:=by
  have hf:=h.fl.1
  obtain⟨r,n1,e1,p1,p2,p3,p4⟩:=Num_spec N 8 l n hU hl h0.1 h0.2 (by omega) (by omega)
  obtain⟨v,n2,e2,q1,q2,q3,q4⟩:=Num_spec N 24 l n1 hU hl p3 p4 (by omega) (by omega)
  obtain⟨g,n3,e3,g1,g2,g3,g4⟩:=Num_spec N (min (w.2.1.length:Int) 200+1) l n2 hU hl q3 q4 (by omega) (by omega)
  have hw:wr .i64 (min (w.2.1.length:Int) 200+1)=min (w.2.1.length:Int) 200+1:=wr_s (by omega) (by omega)
  unfold W_aP V_aP
  simp only[e1,obind_s,e2,hw,e3]
  by_cases c1:v<3
  · obtain⟨u,n4,e4,s1,s2,s3,s4⟩:=Num_spec N 4 l n2 hU hl q3 q4 (by omega) (by omega)
    rw[cnd_T c1,e4,obind_s,dT s1,cnd_t,dT (show u<((4:Nat):Int) from s2),cnd_t]
    refine⟨_,_,_,_,_,_,rfl,⟨s3,s4⟩,?_,by omega⟩
    obtain⟨j,hj,rfl⟩:∃j:Nat,j<4∧u=j:=⟨u.toNat,by omega,by omega⟩
    rw[Int.toNat_natCast]
    exact(by decide:∀j,j<4→(List.getD [[(97:UInt8),(110:UInt8),(110:UInt8)],[(98:UInt8),(195:UInt8),(182:UInt8),(98:UInt8)],[(230:UInt8),(151:UInt8),(165:UInt8),(230:UInt8),(156:UInt8),(172:UInt8)],[]] j []).length≤1000) j hj
  rw[cnd_F c1]
  have z:([]:List UInt8).length≤1000:=by simp
  have z0:(0:Int)≤9223372036854775807:=by omega
  by_cases c2:v=3
  · rw[cnd_T c2];exact⟨_,_,_,_,_,_,rfl,⟨q3,q4⟩,z,z0⟩
  by_cases c3:v=4
  · rw[cnd_F c2,cnd_T c3];exact⟨_,_,_,_,_,_,rfl,⟨q3,q4⟩,z,z0⟩
  rw[cnd_F c2,cnd_F c3]
  by_cases c4:v<7
  · obtain⟨n4,x,e4,hn,hx⟩:=Text_ex N l n2 hU hl ⟨q3,q4⟩
    rw[cnd_T c4,e4,obind_s];exact⟨_,_,_,_,_,_,rfl,hn,hx,z0⟩
  by_cases c5:v<13
  · rw[cnd_F c4,cnd_T c5];exact⟨_,_,_,_,_,_,rfl,⟨q3,q4⟩,z,z0⟩
  by_cases c6:v<20
  · rw[cnd_F c4,cnd_F c5,cnd_T c6];exact⟨_,_,_,_,_,_,rfl,⟨g3,g4⟩,z,z0⟩
  rw[cnd_F c4,cnd_F c5,cnd_F c6]
  by_cases c7:v=20
  · rw[cnd_T c7];exact⟨_,_,_,_,_,_,rfl,⟨g3,g4⟩,z,z0⟩
  by_cases c8:v=21
  · rw[cnd_F c7,cnd_T c8];exact⟨_,_,_,_,_,_,rfl,⟨g3,g4⟩,z,z0⟩
  rw[cnd_F c7,cnd_F c8]
  by_cases c9:v=22
  · obtain⟨u,n4,e4,s1,s2,s3,s4⟩:=Num_spec N 40 l n3 hU hl g3 g4 (by omega) (by omega)
    obtain⟨t,n5,e5,t1,t2,t3,t4⟩:=Num_spec N 255 l n4 hU hl s3 s4 (by omega) (by omega)
    rw[cnd_T c9,e4,obind_s,e5,obind_s]
    exact⟨_,_,_,_,_,_,rfl,⟨t3,t4⟩,z,by rw[wr_s (z:=u*256) (by omega) (by omega),wr_s (z:=u*256+1) (by omega) (by omega),wr_s (by omega) (by omega)];omega⟩
  · rw[cnd_F c9];exact⟨_,_,_,_,_,_,rfl,⟨q3,q4⟩,z,z0⟩
theorem wi2 {k:Nat} (h:k<1000):wr .i64 ((k:Int)+2+1)=((k+1:Nat):Int)+2:=by rw[wr_s (by omega) (by omega)];omega
theorem Peopled_ex (N:Nat) (hN:200000000≤N) (l:List Int) (n:Int) (hU:U8 l) (hl:l.length≤1000) (h0:0≤n∧n≤l.length):∃n' w,W_az N (l,n)=some ((l,n'),w)∧(0≤n'∧n'≤l.length)∧WI N 60000 w:=by
  obtain⟨n1,w1,e1,hn1,hw1⟩:=World_ex N hN l n hU hl h0
  unfold W_az V_az
  rw[e1,obind_s]
  let Q:Option ((List Int×Int)×Wd)→Prop:=fun r=>∃n' w,r=some ((l,n'),w)∧(0≤n'∧n'≤l.length)∧WI N 60000 w
  change Q _
  refine loop_G (N:=N) Q (fun k (v:Int×(List Int×Int)×Wd×Wd)=>v.1=(k:Int)+2∧v.2.1.1=l∧(0≤v.2.1.2∧v.2.1.2≤l.length)∧WI N (1+4022*(k:Int)) v.2.2.2∧k≤7) 7 (fun r:(List Int×Int)×Wd×Wd=>r.1.1=l∧(0≤r.1.2∧r.1.2≤l.length)∧WI N 30000 r.2.2) ⟨rfl,rfl,hn1,by simpa using hw1,by omega⟩ (by omega) ?_ (fun k x h=>h.2.2.2.2) ?_
  · rintro⟨⟨l',n2⟩,y,w2⟩ ⟨h1,h2,h3⟩
    simp only at h1 h2 h3
    subst h1
    obtain⟨v,n3,e3,p1,p2,p3,p4⟩:=Num_spec N 8 l' n2 hU hl h2.1 h2.2 (by omega) (by omega)
    try simp only
    rw[e3,obind_s]
    obtain⟨j,hj,rfl⟩:∃j:Nat,j<8∧v=j:=⟨v.toNat,by omega,by omega⟩
    refine loop_G (N:=N) Q (fun k (v:Int×(List Int×Int)×Wd×Wd)=>v.1=(j:Int)-k∧v.2.1=(l',n3)∧WI N (30000+4022*k) v.2.2.2∧k≤j) j (fun r:(List Int×Int)×Wd×Wd=>r.1=(l',n3)∧WI N 60000 r.2.2) ⟨by simp,rfl,by simpa using h3,by omega⟩ (by omega) ?_ (fun k x h=>h.2.2.2) ?_
    · rintro⟨a,y,w⟩ ⟨g1,g2⟩
      simp only at g1 g2
      subst g1
      exact⟨_,_,rfl,⟨p3,p4⟩,g2⟩
    · rintro k ⟨i,a,y,w⟩ ⟨g1,g2,g3,g4⟩
      simp only at g1 g2 g3
      subst g1 g2
      by_cases c:k<j
      · left
        obtain⟨w',e,hw'⟩:=Round_ex N hN g3 (by omega)
        try simp only
        rw[dT (show (0:Int)<(j:Int)-k by omega),cnd_t,e,obind_s,wr_m (by omega) (by omega)]
        exact⟨_,rfl,by simp only;omega,rfl,hw'.mono (by omega),by omega⟩
      · right
        try simp only
        rw[dF (show ¬(0:Int)<(j:Int)-k by omega),cnd_f]
        exact⟨_,rfl,rfl,g3.mono (by omega)⟩
  · rintro k ⟨i,⟨l',n2⟩,y,w⟩ ⟨g1,g2,g3,g4,g5⟩
    simp only at g1 g2 g3 g4
    subst g1 g2
    by_cases c:k<7
    · left
      obtain⟨v,n3,e3,p1,p2,p3,p4⟩:=Num_spec N 3 l' n2 hU hl g3.1 g3.2 (by omega) (by omega)
      obtain⟨u,n4,e4,s1,s2,s3,s4⟩:=Num_spec N 3 l' n3 hU hl p3 p4 (by omega) (by omega)
      try simp only
      rw[dT (show (k:Int)+2≤8 by omega),cnd_t,e3,obind_s]
      let Q2:Option ((Int×(List Int×Int)×Wd×Wd)⊕((List Int×Int)×Wd×Wd))→Prop:=fun r=>∃z,r=some (.inl z)∧z.1=((k+1:Nat):Int)+2∧z.2.1.1=l'∧(0≤z.2.1.2∧z.2.1.2≤l'.length)∧WI N (1+4022*((k+1:Nat):Int)) z.2.2.2∧k+1≤7
      change Q2 _
      refine ob_post Q2 (fun(b:(List Int×Int)×Wd×Wd)=>b.1=(l',n3)∧WI N (1+4022*k+2) b.2.2) ?_ ?_
      · by_cases d:0<v
        · obtain⟨e,w',he,hw'⟩:=Do_ex N hN g4 (by omega) 1 ((k:Int)+2) 0 0 [(110:UInt8)] (by simp) (by omega)
          try simp only
          rw[cnd_T d,he,obind_s]
          exact⟨_,rfl,rfl,hw'⟩
        · rw[cnd_F d];exact⟨_,rfl,rfl,g4.mono (by omega)⟩
      · rintro⟨a,y2,w2⟩ ⟨f1,f2⟩
        simp only at f1 f2
        subst f1
        try simp only
        rw[e4,obind_s,wi2 (by omega)]
        by_cases d:u=0
        · obtain⟨w',e,hw'⟩:=Round_ex N hN f2 (by omega)
          rw[cnd_T d,e,obind_s]
          exact⟨_,rfl,rfl,rfl,⟨s3,s4⟩,hw'.mono (by omega),by omega⟩
        · rw[cnd_F d]
          exact⟨_,rfl,rfl,rfl,⟨s3,s4⟩,f2.mono (by omega),by omega⟩
    · right
      try simp only
      rw[dF (show ¬((k:Int)+2)≤8 by omega),cnd_f]
      exact⟨_,rfl,rfl,g3,g4.mono (by omega)⟩
theorem Run_ex (N:Nat) (hN:200000000≤N) {B:Int} {w:Wd} (h:WI N B w) (most:Nat) (hm:most≤100) (hB:1≤B∧B≤400000) (l:List Int) (n:Int) (hU:U8 l) (hl:l.length≤1000) (h0:0≤n∧n≤l.length):∃n' w',W_aq N (w,(most:Int),l,n)=some ((l,n'),w')∧(0≤n'∧n'≤l.length)∧WI N (B+4022*most) w':=by
  unfold W_aq V_aq
  let Q:Option ((List Int×Int)×Wd)→Prop:=fun r=>∃n' w',r=some ((l,n'),w')∧(0≤n'∧n'≤l.length)∧WI N (B+4022*most) w'
  change Q _
  refine loop_G (N:=N) Q (fun k (v:Int×(List Int×Int)×Wd×Wd)=>v.1=(k:Int)∧v.2.1.1=l∧(0≤v.2.1.2∧v.2.1.2≤l.length)∧WI N (B+4022*k) v.2.2.1∧k≤most) most (fun r:(List Int×Int)×Wd×Wd=>r.1.1=l∧(0≤r.1.2∧r.1.2≤l.length)∧WI N (B+4022*most) r.2.1) ⟨rfl,rfl,h0,by simpa using h,by omega⟩ (by omega) ?_ (fun k x h=>h.2.2.2.2) ?_
  · rintro⟨⟨l',n2⟩,w2,y⟩ ⟨h1,h2,h3⟩
    simp only at h1 h2 h3
    subst h1
    exact⟨_,_,rfl,h2,h3⟩
  · rintro k ⟨i,⟨l',n2⟩,w2,y⟩ ⟨g1,g2,g3,g4,g5⟩
    simp only at g1 g2 g3 g4
    subst g1 g2
    by_cases c:k<most
    · unfold W_ba V_ba
      try simp only
      rw[dT (show (k:Int)<(most:Int) by omega),cnd_t,obind_s]
      by_cases d:(l'.length:Int)≤n2
      · right
        try simp only
        rw[dT d,Bool.not_true,cnd_f]
        exact⟨_,rfl,rfl,g3,g4.mono (by omega)⟩
      · left
        obtain⟨v,n3,e3,p1,p2,p3,p4⟩:=Num_spec N 9 l' n2 hU hl g3.1 g3.2 (by omega) (by omega)
        have w1:=wi (k:=k) (by omega)
        try simp only
        rw[dF d,Bool.not_false,cnd_t,e3,obind_s,w1]
        by_cases d:v=0
        · obtain⟨w',e,hw'⟩:=Round_ex N hN g4 (by omega)
          rw[cnd_T d,e,obind_s]
          exact⟨_,rfl,rfl,rfl,⟨p3,p4⟩,hw'.mono (by omega),by omega⟩
        · obtain⟨n4,kd,R,I,to,x,e4,hn,hx,ht⟩:=Step_ex N g4 l' n3 hU hl ⟨p3,p4⟩
          obtain⟨e,w',he,hw'⟩:=Do_ex N hN g4 (by omega) kd R I to x hx ht
          rw[cnd_F d,e4,obind_s]
          try simp only
          rw[he,obind_s]
          exact⟨_,rfl,rfl,rfl,hn,hw'.mono (by omega),by omega⟩
    · right
      try simp only
      rw[dF (show ¬(k:Int)<(most:Int) by omega),cnd_f]
      exact⟨_,rfl,rfl,g3,g4.mono (by omega)⟩
def Cov (o:List Sp) (x:Int):Prop:=∃h∈o,h.1≤x∧x≤h.2
theorem Cov.app {o p:List Sp} {x:Int}:Cov (o++p) x↔Cov o x∨Cov p x:=by
  unfold Cov
  constructor
  · rintro⟨h,hm,q⟩
    rcases List.mem_append.1 hm with hm | hm
    · exact .inl ⟨h,hm,q⟩
    · exact .inr ⟨h,hm,q⟩
  · rintro(⟨h,hm,q⟩ | ⟨h,hm,q⟩)
    · exact⟨h,List.mem_append.2 (.inl hm),q⟩
    · exact⟨h,List.mem_append.2 (.inr hm),q⟩
theorem Cov.one {s:Sp} {x:Int}:Cov [s] x↔s.1≤x∧x≤s.2:=by
  unfold Cov
  simp
def GapAt (l:List Ev) (x:Int):Prop:=∃e∈l,e.1=2∧e.2.1≤x∧x≤e.2.2.1
theorem GapAt.snoc {l:List Ev} {e:Ev} {x:Int}:GapAt (l++[e]) x↔GapAt l x∨(e.1=2∧e.2.1≤x∧x≤e.2.2.1):=by
  unfold GapAt
  constructor
  · rintro⟨h,hm,q⟩
    rcases List.mem_append.1 hm with hm | hm
    · exact .inl ⟨h,hm,q⟩
    · rw[List.mem_singleton.1 hm] at q;exact .inr q
  · rintro(⟨h,hm,q⟩ | q)
    · exact⟨h,List.mem_append.2 (.inl hm),q⟩
    · exact⟨e,List.mem_append.2 (.inr (by simp)),q⟩
theorem Ch.mem:∀{L:List Ev} {n m:Int},Ch n L m→∀e∈L,n≤e.2.1∧e.2.2.1<m∧e.2.1≤e.2.2.1
  | [],_,_,_,e,he=>by cases he
  | x::r,n,m,h,e,he=>by
    have h1:=h.1;have h2:=h.2.1.1
    rcases List.mem_cons.1 he with rfl | he
    · have:=h.2.2.le;omega
    · have:=h.2.2.mem e he;omega
theorem Ch.at_:∀{L:List Ev} {n m:Int},Ch n L m→∀x,n≤x→x<m→((∃e∈L,e.1=1∧e.2.1=x)∧¬GapAt L x)∨(¬(∃e∈L,e.1=1∧e.2.1=x)∧GapAt L x)
  | [],n,m,h,x,h1,h2=>by have h':_=_:=h;omega
  | y::r,n,m,h,x,h1,h2=>by
    have g1:=h.1;have g2:=h.2.1.1
    by_cases c:x≤y.2.2.1
    · have no:∀e∈r,¬(e.2.1≤x):=fun e he=>by have:=h.2.2.mem e he;omega
      rcases h.2.1.2.1 with q | q
      · left
        refine⟨⟨y,by simp,q.1,by omega⟩,?_⟩
        rintro⟨e,he,k,a,b⟩
        rcases List.mem_cons.1 he with rfl | he
        · omega
        · exact no e he a
      · right
        refine⟨?_,y,by simp,q,by omega,c⟩
        rintro⟨e,he,k,a⟩
        rcases List.mem_cons.1 he with rfl | he
        · omega
        · exact no e he (by omega)
    · have ih:=h.2.2.at_ x (by omega) h2
      have e1:(∃e∈y::r,e.1=1∧e.2.1=x)↔∃e∈r,e.1=1∧e.2.1=x:=by
        constructor
        · rintro⟨e,he,k,a⟩
          rcases List.mem_cons.1 he with rfl | he
          · omega
          · exact⟨e,he,k,a⟩
        · rintro⟨e,he,q⟩;exact⟨e,by simp[he],q⟩
      have e2:GapAt (y::r) x↔GapAt r x:=by
        constructor
        · rintro⟨e,he,k,a⟩
          rcases List.mem_cons.1 he with rfl | he
          · omega
          · exact⟨e,he,k,a⟩
        · rintro⟨e,he,q⟩;exact⟨e,by simp[he],q⟩
      rw[e1,e2];exact ih
theorem NI.log {B id:Int} {n:Nd} (h:NI B id n):∃c m,Ch c n.2.2.2.2.1.2.2.2.2.1 m∧(n.2.2.2.2.1.2.2.2.2.1=[]∨m=n.2.2.2.2.1.1)∧n.2.2.2.2.1.2.2.2.2.1.length≤10000001∧(n.2.2.2.2.1.2.2.2.2.1≠[]→1≤c∧m≤1000001):=by
  have off:n.2.2.2.2.1.2.2.2.2.1=[]→∃c m,Ch c n.2.2.2.2.1.2.2.2.2.1 m∧(n.2.2.2.2.1.2.2.2.2.1=[]∨m=n.2.2.2.2.1.1)∧n.2.2.2.2.1.2.2.2.2.1.length≤10000001∧(n.2.2.2.2.1.2.2.2.2.1≠[]→1≤c∧m≤1000001):=fun e=>by
    rw[e];exact⟨0,0,rfl,.inl rfl,by simp,fun q=>absurd rfl q⟩
  rcases Bool.eq_false_or_eq_true n.1 with q | q
  · obtain⟨_,_,c,hf⟩:=h.on q
    by_cases q1:1≤n.2.2.2.2.1.1
    · have hp:=hf.p q1
      exact⟨c,_,hp.ch,.inr rfl,(hf.lens (by omega)).2.2,fun _=>⟨hp.c0,hp.nx.2⟩⟩
    · exact off (hf.z (by have:=hf.n0;omega)).2.2
  · exact off (by rw[h.off q])
theorem getD_putI (l:List Int) (p j:Nat) (v:Int) (hp:p<l.length):(putL l [v] p).getD j 0=if j=p then v else l.getD j 0:=by
  have e:putL l [v] p=l.set p v:=putL_set v hp
  rw[e]
  simp only[List.getD_eq_getElem?_getD,List.getElem?_set]
  by_cases h:p=j
  · subst h;simp[hp]
  · rw[if_neg h,if_neg (fun q=>h q.symm)]
theorem putI_len (l:List Int) (p:Nat) (v:Int) (hp:p<l.length):(putL l [v] p).length=l.length:=putL_length (by simp;omega)
theorem nodup_le:∀(n:Nat) (l:List Int),l.Nodup→(∀x∈l,1≤x∧x≤n)→l.length≤n
  | 0,[],_,_=>by simp
  | 0,x::l,_,h=>by have:=h x (by simp);omega
  | n+1,l,hd,h=>by
    by_cases hm:((n+1:Nat):Int)∈l
    · have:=nodup_le n (l.erase ((n+1:Nat):Int)) (hd.erase _) (fun x hx=>by
        rw[hd.mem_erase_iff] at hx
        have:=h x hx.2
        omega)
      rw[List.length_erase_of_mem hm] at this
      omega
    · have:=nodup_le n l hd (fun x hx=>by
        have h1:=h x hx
        have h2:x≠((n+1:Nat):Int):=fun e=>hm (e▸hx)
        omega)
      omega
def Iu (u:List Int) (v:Int):Prop:=1≤v∧v≤u.length
instance (u:List Int) (v:Int):Decidable (Iu u v):=inferInstanceAs (Decidable (_∧_))
def nu (u:List Int) (v:Int):Int:=if Iu u v then u.getD (v-1).toNat 0 else v
def it (u:List Int):Nat→Int→Int
  | 0,v=>v
  | k+1,v=>it u k (nu u v)
theorem it_succ (u:List Int):∀(k:Nat) (v:Int),it u (k+1) v=nu u (it u k v)
  | 0,_=>rfl
  | k+1,v=>it_succ u k (nu u v)
theorem it_add (u:List Int):∀(a b:Nat) (v:Int),it u (a+b) v=it u b (it u a v)
  | 0,b,v=>by rw[Nat.zero_add];rfl
  | a+1,b,v=>by rw[show a+1+b=(a+b)+1 by omega];exact it_add u a b (nu u v)
def pth (u:List Int) (k:Nat) (v:Int):List Int:=(List.range k).map fun i=>it u i v
theorem pth_succ (u:List Int) (k:Nat) (v:Int):pth u (k+1) v=pth u k v++[it u k v]:=by
  unfold pth;rw[List.range_succ,List.map_append];rfl
theorem pth_len (u:List Int) (k:Nat) (v:Int):(pth u k v).length=k:=by simp[pth]
theorem pth_get {u:List Int} {k:Nat} {v:Int} {j:Nat} (h:j<k):(pth u k v).getD j 0=it u j v:=by
  unfold pth
  rw[List.getD_eq_getElem?_getD,List.getElem?_map,List.getElem?_range h];rfl
theorem mem_pth {u:List Int} {k:Nat} {v x:Int}:x∈pth u k v↔∃j,j<k∧it u j v=x:=by
  unfold pth
  rw[List.mem_map]
  constructor
  · rintro⟨j,h,e⟩;exact⟨j,List.mem_range.1 h,e⟩
  · rintro⟨j,h,e⟩;exact⟨j,List.mem_range.2 h,e⟩
theorem step_in (N:Nat) {u:List Int} {v:Int} (hu:u.length≤1000) (h:Iu u v):W_ac N (u,v)=some (.inl (nu u v)):=by
  unfold W_ac V_ac
  try simp only
  have h1:=h.1;have h2:=h.2
  rw[dF (by omega),cnd_f,dF (by omega),cnd_f,wr_m (by omega) (by omega),dT (by omega),dT (by omega),Bool.and_self,cnd_t,nu,if_pos h]
theorem step_out (N:Nat) {u:List Int} {v:Int} (h:¬Iu u v):W_ac N (u,v)=some (.inr ()):=by
  unfold W_ac V_ac
  try simp only
  by_cases c:v<1
  · rw[dT c,cnd_t]
  · rw[dF c,cnd_f,dT (by unfold Iu at h;omega),cnd_t]
theorem cut_some (n:Nat) (i:Int) (l:List Int) (h:l.length=n):List.drop ((0:Nat)+(cutT (0:Nat) n n (some i) none).2.1) (List.take ((0:Nat)+(cutT (0:Nat) n n (some i) none).2.1+((cutT (0:Nat) n n (some i) none).2.2-(cutT (0:Nat) n n (some i) none).2.1)) l)=l.drop i.toNat:=by
  subst h
  simp only[cutT,Option.getD_some,Option.getD_none]
  by_cases c:i.toNat≤l.length
  · rw[show 0+i.toNat+(l.length-i.toNat)=l.length by omega,List.take_length,Nat.zero_add]
  · rw[List.drop_eq_nil_of_le (by rw[List.length_take];omega),List.drop_eq_nil_of_le (by omega)]
theorem sub_inj {a b:Int} (ha:1≤a) (hb:1≤b):((a-1).toNat=(b-1).toNat)↔a=b:=by omega
theorem round_all {u:List Int} {v:Int} {j k:Nat} (hj:j<k) (he:it u k v=it u j v) (hin:∀i,i<k→Iu u (it u i v)):∀m,Iu u (it u m v):=by
  intro m
  induction m using Nat.strongRecOn with
  | _ m ih=>
    by_cases c:m<k
    · exact hin m c
    · have h:=ih (m-(k-j)) (by omega)
      rw[show m=k+(m-k) by omega,it_add,he,←it_add,show j+(m-k)=m-(k-j) by omega]
      exact h
def LpU (u:List Int) (v:Int) (r:List Int):Prop:=(r=[]∧∃k,¬Iu u (it u k v))∨∃j k,j<k∧it u k v=it u j v∧(∀i,i<k→Iu u (it u i v))∧(pth u k v).Nodup∧r=(pth u k v).drop j
theorem pth_ne {u:List Int} {v:Int} {k i j:Nat} (h:(pth u k v).Nodup) (hi:i<j) (hj:j<k):it u i v≠it u j v:=by
  unfold pth at h
  rw[List.nodup_iff_pairwise_ne,List.pairwise_map] at h
  exact List.pairwise_iff_getElem.1 h i j (by simpa using (by omega:i<k)) (by simpa using hj) hi |> fun q=>by simpa using q
theorem LpU_one {u:List Int} {v:Int} {a b:List Int} (ha:LpU u v a) (hb:LpU u v b):a=b:=by
  rcases ha with⟨rfl,k,hk⟩ | ⟨j,k,h1,h2,h3,h4,rfl⟩
  · rcases hb with⟨rfl,_⟩ | ⟨j,k',h1,h2,h3,h4,rfl⟩
    · rfl
    · exact absurd (round_all h1 h2 h3 k) hk
  · rcases hb with⟨rfl,k',hk⟩ | ⟨j',k',g1,g2,g3,g4,rfl⟩
    · exact absurd (round_all h1 h2 h3 k') hk
    · have hk:k=k':=by
        rcases Nat.lt_trichotomy k k' with q | q | q
        · exact absurd h2.symm (pth_ne g4 h1 q)
        · exact q
        · exact absurd g2.symm (pth_ne h4 g1 q)
      subst hk
      have hj:j=j':=by
        have e:=h2.symm.trans g2
        rcases Nat.lt_trichotomy j j' with q | q | q
        · exact absurd e (pth_ne h4 q g1)
        · exact q
        · exact absurd e.symm (pth_ne h4 q h1)
      rw[hj]
theorem Loop_pr (N:Nat) (hN:2000≤N) {u:List Int} {v:Int} (hu:u.length≤1000):∃r,W_ad N (u,v)=some r∧LpU u v r:=by
  unfold W_ad V_ad
  try simp only
  rw[dT (by omega),cnd_t,dT (by omega),cnd_t,dT (by omega),cnd_t,dT (by omega),cnd_t,Int.toNat_natCast]
  refine loop_post (fun o=>∃d,o=some d∧LpU u v d) (fun x:Int×List Int×List Int=>∃k:Nat,k≤u.length∧x.1=it u k v∧x.2.1=pth u k v∧x.2.2.length=u.length∧(pth u k v).Nodup∧(∀i,i<k→Iu u (it u i v))∧
      (∀y,Iu u y→y∉pth u k v→x.2.2.getD (y-1).toNat 0=0)∧∀i:Nat,i<k→x.2.2.getD (it u i v-1).toNat 0=i+1) (fun x=>u.length-x.2.1.length) (fun r=>LpU u v r) ⟨0,by omega,rfl,rfl,by simp,by simp[pth],fun i hi=>by omega,fun y hy _=>?_,fun i hi=>by omega⟩ (by simp;omega) ?_ ?_
  · have:=hy.1;have:=hy.2
    simp only[List.getD_eq_getElem?_getD,List.getElem?_replicate]
    rw[if_pos (by omega)];rfl
  · intro r h
    exact⟨r,rfl,h⟩
  · rintro⟨x,met,pl⟩ ⟨k,hk,e1,e2,hl,hd,hin,hz,hi⟩
    simp only at e1 e2 hl hz hi ⊢
    subst e1 e2
    by_cases hx:Iu u (it u k v)
    case neg=>
      right
      rw[step_out N hx,obind_s,selim_r]
      exact⟨_,rfl,.inl ⟨rfl,k,hx⟩⟩
    have hx1:=hx.1;have hx2:=hx.2
    rw[step_in N hu hx,obind_s,selim_l,wr_m (by omega) (by omega),hl,dT (by omega),dT (by omega),Bool.and_self,cnd_t,pth_len]
    by_cases hm:it u k v∈pth u k v
    · right
      obtain⟨j,hj,he⟩:=mem_pth.1 hm
      have hp:=hi j hj
      rw[he] at hp
      rw[hp,dT (by omega),cnd_t,wr_m (by omega) (by omega)]
      simp only[Option.getD_some]
      rw[dT (by omega),cnd_t,dT (by omega),cnd_t,cut_some k _ _ (pth_len u k v),show ((j:Int)+1-1).toNat=j by omega]
      exact⟨_,rfl,.inr ⟨j,k,hj,he.symm,hin,hd,rfl⟩⟩
    · left
      have hkl:k<u.length:=by
        have:=nodup_le u.length (pth u (k+1) v) (by
          rw[pth_succ,List.nodup_append]
          exact⟨hd,by simp,fun a ha b hb e=>hm (by rw[←List.mem_singleton.1 hb,←e];exact ha)⟩) (fun y hy=>by
          obtain⟨j,hj,rfl⟩:=mem_pth.1 hy
          by_cases c:j=k
          · subst c;exact hx
          · exact hin j (by omega))
        rw[pth_len] at this
        omega
      rw[hz _ hx hm,dF (by omega),cnd_f,dT (by simp only[List.length_singleton];omega),cnd_t,cnd_t,←pth_succ,pth_len]
      have hpl:(it u k v-1).toNat<pl.length:=by omega
      refine⟨_,rfl,⟨k+1,by omega,(it_succ u k v).symm,rfl,by simp only;rw[putI_len _ _ _ hpl];exact hl,?_,fun i hi2=>?_,fun y hy hym=>?_,fun i hi2=>?_⟩,by simp only[pth_len];omega⟩
      · rw[pth_succ,List.nodup_append]
        exact⟨hd,by simp,fun a ha b hb e=>hm (by rw[←List.mem_singleton.1 hb,←e];exact ha)⟩
      · by_cases c:i=k
        · subst c;exact hx
        · exact hin i (by omega)
      · simp only
        have hy1:=hy.1
        rw[pth_succ] at hym
        have h1:y∉pth u k v:=fun h=>hym (List.mem_append_left _ h)
        have h2:y≠it u k v:=fun h=>hym (List.mem_append_right _ (by simp[h]))
        rw[getD_putI _ _ _ _ hpl,if_neg (fun q=>h2 ((sub_inj hy1 hx1).1 q))]
        exact hz y hy h1
      · simp only
        rw[getD_putI _ _ _ _ hpl]
        by_cases c:i=k
        · subst c
          rw[if_pos rfl];omega
        · have hii:=hin i (by omega)
          have hne:it u i v≠it u k v:=fun e=>hm (mem_pth.2 ⟨i,by omega,e⟩)
          rw[if_neg (fun q=>hne ((sub_inj hii.1 hx1).1 q))]
          exact hi i (by omega)
theorem Loop_rf (N:Nat) (hN:2000≤N) {u:List Int} {v:Int} (hu:u.length≤1000):∃r,W_ab N (u,v)=some r∧LpU u v r:=by
  unfold W_ab V_ab
  refine loop_post (fun o=>∃d,o=some d∧LpU u v d) (fun x:Int×List Int=>∃k:Nat,k≤u.length∧x.1=it u k v∧x.2=pth u k v∧(pth u k v).Nodup∧(∀i,i<k→Iu u (it u i v))) (fun x=>u.length-x.2.length) (fun r:PUnit⊕List Int=>(r=.inl ()∧LpU u v [])∨∃l,r=.inr l∧LpU u v l) ⟨0,by omega,rfl,rfl,by simp[pth],fun i hi=>by omega⟩ (by simp;omega) ?_ ?_
  · rintro _ (⟨rfl,h⟩ | ⟨l,rfl,h⟩)
    · exact⟨_,rfl,h⟩
    · exact⟨_,rfl,h⟩
  · rintro ⟨x, w⟩ ⟨k, hk, e1, e2, hd, hin⟩
    simp only at e1 e2 ⊢
    subst e1 e2
    by_cases hx:Iu u (it u k v)
    case neg=>
      right
      by_cases c:1≤it u k v
      · rw[cnd_T c,cnd_F (fun q=>hx ⟨c,q⟩)]
        exact⟨_,rfl,.inl ⟨rfl,.inl ⟨rfl,k,hx⟩⟩⟩
      · rw[cnd_F c]
        exact⟨_,rfl,.inl ⟨rfl,.inl ⟨rfl,k,hx⟩⟩⟩
    have hx1:=hx.1;have hx2:=hx.2
    rw[cnd_T hx1,cnd_T hx2]
    have hl:=pth_len u k v
    let Q:Option ((Int×List Int)⊕(PUnit⊕List Int))→Prop:=fun o=>(∃y,o=some (.inl y)∧(∃k:Nat,k≤u.length∧y.1=it u k v∧y.2=pth u k v∧(pth u k v).Nodup∧(∀i,i<k→Iu u (it u i v)))∧u.length-y.2.length<u.length-(pth u k v).length)∨∃r,o=some (.inr r)∧((r=.inl ()∧LpU u v [])∨∃l,r=.inr l∧LpU u v l)
    change Q _
    refine loop_G (N:=N) Q (fun j (z:Int×List Int)=>z.1=(j:Int)∧z.2=pth u k v∧j≤k∧∀i,i<j→it u i v≠it u k v) k (fun r:List Int⊕List Int=>(r=.inl (pth u k v)∧it u k v∉pth u k v)∨∃j,j<k∧it u j v=it u k v∧r=.inr ((pth u k v).drop j)) ⟨rfl,rfl,by omega,fun i hi=>by omega⟩ (by omega) ?_ (fun j z h=>h.2.2.1) ?_
    · rintro _ (⟨rfl,hm⟩ | ⟨j,hj,he,rfl⟩)
      · left
        have hkl:k<u.length:=by
          have:=nodup_le u.length (pth u (k+1) v) (by
            rw[pth_succ,List.nodup_append]
            exact⟨hd,by simp,fun a ha b hb e=>hm (by rw[←List.mem_singleton.1 hb,←e];exact ha)⟩) (fun y hy=>by
            obtain⟨j,hj,rfl⟩:=mem_pth.1 hy
            by_cases c:j=k
            · subst c;exact hx
            · exact hin j (by omega))
          rw[pth_len] at this
          omega
        rw[selim_l,wr_m (by omega) (by omega),cnd_T (by rw[hl];simp only[List.length_singleton];omega),dT (show (0:Int)≤it u k v-1 by omega),dT (show it u k v-1<(u.length:Int) by omega),Bool.and_self,cnd_t]
        refine⟨_,rfl,⟨k+1,by omega,?_,?_,?_,fun i hi2=>?_⟩,?_⟩
        · simp only;rw[it_succ,nu,if_pos hx]
        · simp only;rw[pth_succ]
        · rw[pth_succ,List.nodup_append]
          exact⟨hd,by simp,fun a ha b hb e=>hm (by rw[←List.mem_singleton.1 hb,←e];exact ha)⟩
        · by_cases c:i=k
          · subst c;exact hx
          · exact hin i (by omega)
        · simp only[List.length_append,List.length_singleton,hl];omega
      · right
        rw[selim_r]
        exact⟨_,rfl,.inr ⟨_,rfl,.inr ⟨j,k,hj,he.symm,hin,hd,rfl⟩⟩⟩
    · rintro j ⟨i,w⟩ ⟨g1,g2,g3,g4⟩
      simp only at g1 g2
      subst g1 g2
      by_cases c:j<k
      · simp only
        rw[hl,dT (show (j:Int)<(k:Int) by omega),cnd_t,dT (show (0:Int)≤(j:Int) by omega),Bool.and_self,cnd_t,Int.toNat_natCast,pth_get c]
        by_cases d:it u j v=it u k v
        · right
          rw[cnd_T d]
          simp only[Option.getD_some]
          rw[cnd_T (show (0:Int)≤(j:Int) by omega),cnd_T (show (j:Int)≤(k:Int) by omega),cut_some k _ _ hl,Int.toNat_natCast]
          exact⟨_,rfl,.inr ⟨j,c,d,rfl⟩⟩
        · left
          rw[cnd_F d,wr_s (by omega) (by omega)]
          exact⟨_,rfl,by simp only;omega,rfl,by omega,fun i hi=>by
            by_cases q:i=j
            · subst q;exact d
            · exact g4 i (by omega)⟩
      · right
        try simp only
        rw[hl,dF (show ¬(j:Int)<(k:Int) by omega),cnd_f]
        exact⟨_,rfl,.inl ⟨rfl,fun q=>by obtain⟨i,hi,e⟩:=mem_pth.1 q;exact g4 i (by omega) e⟩⟩
theorem LpU_len {u:List Int} {v:Int} {r:List Int} (h:LpU u v r):r.length≤u.length:=by
  rcases h with⟨rfl,_⟩ | ⟨j,k,h1,h2,h3,h4,rfl⟩
  · simp
  · have:=nodup_le u.length (pth u k v) h4 (fun y hy=>by obtain⟨i,hi,rfl⟩:=mem_pth.1 hy;exact h3 i hi)
    rw[pth_len] at this
    rw[List.length_drop,pth_len];omega
theorem Loop_eq (N:Nat) (hN:2000≤N) {u:List Int} (hu:u.length≤1000) (v:Int):∃r,W_ad N (u,v)=some r∧W_ab N (u,v)=some r∧r.length≤1000:=by
  obtain⟨r,e1,h1⟩:=Loop_pr N hN (v:=v) hu
  obtain⟨s,e2,h2⟩:=Loop_rf N hN (v:=v) hu
  have:=LpU_len h1
  rw[LpU_one h2 h1] at e2
  exact⟨r,e1,e2,by omega⟩
def upM (l:List Nd):List Int:=l.map fun n=>if n.1=true then n.2.2.2.1.2.2.2.1 else 0
def onM (l:List Nd):List Bool:=l.map fun n=>n.1
theorem pUp_eq (N:Nat) (w:Wd) (hN:w.1.length<N) (h8:w.1.length≤1000):W_a7 N w=some (upM w.1,onM w.1):=by
  unfold W_a7 V_a7
  refine obind_rec ndD w.1 (fun i (s:List Int×List Bool)=>(i,s.1,s.2)) (fun r s=>(s.1++upM r,s.2++onM r)) (fun s r=>s.1.length+r.length≤1000∧s.2.length+r.length≤1000) ([],[]) rfl hN ⟨by simpa using h8,by simpa using h8⟩ rfl ?_ ?_
  · rintro⟨a,b⟩ _
    try simp only
    rw[cnd_F (by omega)]
    simp[upM,onM]
  · rintro i n r ⟨a,b⟩ hi hg ⟨g1,g2⟩
    left
    simp only[List.length_cons] at g1 g2
    try simp only
    rw[dT (show (i:Int)<(w.1.length:Int) by omega),cnd_t,dT (show (0:Int)≤(i:Int) by omega),Bool.and_self,cnd_t,Int.toNat_natCast,hg,wr_s (by omega) (by omega)]
    rcases Bool.eq_false_or_eq_true n.1 with q | q
    · rw[q,cnd_t,obind_s]
      try simp only
      rw[cnd_T (by simp only[List.length_singleton];omega),cnd_T (by simp only[List.length_singleton];omega)]
      exact⟨(a++[n.2.2.2.1.2.2.2.1],b++[n.1]),rfl,by simp[upM,onM,q],by simp only[List.length_append,List.length_singleton];omega,by simp only[List.length_append,List.length_singleton];omega⟩
    · rw[q,cnd_f,obind_s]
      try simp only
      rw[cnd_T (by simp only[List.length_singleton];omega),cnd_T (by simp only[List.length_singleton];omega)]
      exact⟨(a++[0],b++[n.1]),rfl,by simp[upM,onM,q],by simp only[List.length_append,List.length_singleton];omega,by simp only[List.length_append,List.length_singleton];omega⟩
theorem rUp_eq (N:Nat) (w:Wd) (hN:w.1.length<N) (h8:w.1.length≤1000):W_a4 N w=some (upM w.1,onM w.1):=by
  unfold W_a4 V_a4
  refine obind_rec ndD w.1 (fun i (s:List Int×List Bool)=>(i,w,s.1,s.2)) (fun r s=>(s.1++upM r,s.2++onM r)) (fun s r=>s.1.length+r.length≤1000∧s.2.length+r.length≤1000) ([],[]) rfl hN ⟨by simpa using h8,by simpa using h8⟩ rfl ?_ ?_
  · rintro⟨a,b⟩ _
    try simp only
    rw[cnd_F (by omega)]
    simp[upM,onM]
  · rintro i n r ⟨a,b⟩ hi hg ⟨g1,g2⟩
    left
    simp only[List.length_cons] at g1 g2
    try simp only
    rw[dT (show (i:Int)<(w.1.length:Int) by omega),cnd_t,dT (show (0:Int)≤(i:Int) by omega),Bool.and_self,cnd_t,Int.toNat_natCast,hg,wr_s (by omega) (by omega),cnd_T (by omega)]
    rcases Bool.eq_false_or_eq_true n.1 with q | q
    · rw[q,cnd_t,cnd_T (by omega)]
      exact⟨(a++[n.2.2.2.1.2.2.2.1],b++[true]),rfl,by simp[upM,onM,q],by simp only[List.length_append,List.length_singleton];omega,by simp only[List.length_append,List.length_singleton];omega⟩
    · rw[q,cnd_f,cnd_T (by simp only[List.length_singleton];omega)]
      exact⟨(a++[0],b++[false]),rfl,by simp[upM,onM,q],by simp only[List.length_append,List.length_singleton];omega,by simp only[List.length_append,List.length_singleton];omega⟩
theorem Loops_eq (N:Nat) (hN:2000≤N) (w:Wd) (h8:w.1.length≤1000):∃r,W_v N w=some r∧W_aa N w=some r∧r.length≤1000:=by
  have hul:(upM w.1).length=w.1.length:=by simp[upM]
  have hu:(upM w.1).length≤1000:=by omega
  unfold W_v V_v W_aa V_aa
  rw[pUp_eq N w (by omega) h8,rUp_eq N w (by omega) h8,obind_s,obind_s]
  try simp only
  generalize upM w.1=u at hu
  -- both go on alike
  have sim:∀(n k:Nat),k+n=u.length→∀(M:Nat),n<M→∃r,
      loopN M (fun v:Int=>cnd (decide (v<(u.length:Int))) (obind (W_ad N (u,wr .i64 (v+1))) fun b=>cnd (decide ((0:Int)<(b.length:Int))) (some (Sum.inr (Sum.inr b))) (some (Sum.inl (wr .i64 (v+1))))) (some (Sum.inr (Sum.inl ())))) (k:Int)=some (r:PUnit⊕List Int)∧
      loopN M (fun v:Int=>cnd (decide (v≤(u.length:Int))) (obind (W_ab N (u,v)) fun b=>cnd (decide ((0:Int)<(b.length:Int))) (some (Sum.inr (Sum.inr b))) (some (Sum.inl (wr .i64 (v+1))))) (some (Sum.inr (Sum.inl ())))) ((k:Int)+1)=some r∧∀l,r=.inr l→l.length≤1000:=by
    intro n
    induction n with
    | zero=>
      intro k hk M hM
      obtain⟨M,rfl⟩:∃K,M=K+1:=⟨M-1,by omega⟩
      refine⟨.inl (),?_,?_,fun l q=>by cases q⟩
      · simp only[loopN]
        rw[cnd_F (show ¬(k:Int)<(u.length:Int) by omega)]
      · simp only[loopN]
        rw[cnd_F (show ¬(k:Int)+1≤(u.length:Int) by omega)]
    | succ n ih=>
      intro k hk M hM
      obtain⟨M,rfl⟩:∃K,M=K+1:=⟨M-1,by omega⟩
      obtain⟨r,e1,e2,e3⟩:=Loop_eq N hN hu ((k:Int)+1)
      obtain⟨s,f1,f2,f3⟩:=ih (k+1) (by omega) M (by omega)
      have w1:wr .i64 ((k:Int)+1)=(k:Int)+1:=wr_s (by omega) (by omega)
      have w2:wr .i64 ((k:Int)+1+1)=(k:Int)+1+1:=wr_s (by omega) (by omega)
      rw[show ((k+1:Nat):Int)=(k:Int)+1 from rfl] at f1 f2
      simp only[loopN,w1,w2,e1,e2,obind_s]
      rw[cnd_T (show (k:Int)<(u.length:Int) by omega),cnd_T (show (k:Int)+1≤(u.length:Int) by omega)]
      by_cases q:(0:Int)<(r.length:Int)
      · rw[cnd_T q,cnd_T q];exact⟨_,rfl,rfl,fun l z=>by cases z;exact e3⟩
      · rw[cnd_F q,cnd_F q];exact⟨s,f1,f2,f3⟩
  obtain⟨r,e1,e2,e3⟩:=sim u.length 0 (by omega) N (by omega)
  have e1':loopN N (fun v:Int=>cnd (decide (v<(u.length:Int))) (obind (W_ad N (u,wr .i64 (v+1))) fun b=>cnd (decide ((0:Int)<(b.length:Int))) (some (Sum.inr (Sum.inr b))) (some (Sum.inl (wr .i64 (v+1))))) (some (Sum.inr (Sum.inl ())))) (Int.ofNat 0)=some r:=e1
  have e2':loopN N (fun v:Int=>cnd (decide (v≤(u.length:Int))) (obind (W_ab N (u,v)) fun b=>cnd (decide ((0:Int)<(b.length:Int))) (some (Sum.inr (Sum.inr b))) (some (Sum.inl (wr .i64 (v+1))))) (some (Sum.inr (Sum.inl ())))) (Int.ofNat 1)=some r:=e2
  rw[e1',e2',obind_s]
  cases r with
  | inl a=>exact⟨_,rfl,rfl,by simp⟩
  | inr a=>exact⟨_,rfl,rfl,e3 a rfl⟩
theorem all_Q {α σ τ β:Type} {N:Nat} (d:α) (l:List α) (P:α→Prop) (s:σ) (t:τ) {f:Int×σ→Option ((Int×σ)⊕(τ⊕Bool))} {g:τ⊕Bool→Option β} (Q:Option β→Prop) (hN:l.length<N)
    (h:∀i:Nat,i<l.length→(P (l.getD i d)∧f ((i:Int),s)=some (.inl (((i+1:Nat):Int),s)))∨(¬P (l.getD i d)∧f ((i:Int),s)=some (.inr (.inr false))))
    (he:f ((l.length:Int),s)=some (.inr (.inl t))) (h1:(∀x∈l,P x)→Q (g (.inl t))) (h2:¬(∀x∈l,P x)→Q (g (.inr false))):Q (obind (loopN N f ((0:Int),s)) g):=by
  refine loop_G (N:=N) Q (fun k (v:Int×σ)=>v=((k:Int),s)∧k≤l.length∧∀i,i<k→P (l.getD i d)) l.length (fun r:τ⊕Bool=>(r=.inl t∧∀x∈l,P x)∨(r=.inr false∧¬∀x∈l,P x)) ⟨rfl,by omega,fun i hi=>by omega⟩ hN ?_ (fun k v h=>h.2.1) ?_
  · rintro _ (⟨rfl,q⟩ | ⟨rfl,q⟩)
    · exact h1 q
    · exact h2 q
  · rintro k _ ⟨rfl,hk,hp⟩
    by_cases c:k<l.length
    · rcases h k c with⟨q,e⟩ | ⟨q,e⟩
      · left
        refine⟨_,e,rfl,by omega,fun i hi=>?_⟩
        by_cases z:i=k
        · subst z;exact q
        · exact hp i (by omega)
      · right
        refine⟨_,e,.inr ⟨rfl,fun z=>q (z _ ?_)⟩⟩
        rw[List.getD_eq_getElem?_getD,List.getElem?_eq_getElem c];exact List.getElem_mem c
    · right
      have hkl:k=l.length:=by omega
      subst hkl
      refine⟨_,he,.inl ⟨rfl,fun x hx=>?_⟩⟩
      obtain⟨i,hi,rfl⟩:=List.mem_iff_getElem.1 hx
      have:=hp i hi
      rw[List.getD_eq_getElem?_getD,List.getElem?_eq_getElem hi] at this
      exact this
def evK (e:Ev):Prop:=1≤e.2.1∧e.2.1≤e.2.2.1∧e.2.2.1≤1000000∧((e.1=1∧e.2.2.1=e.2.1∧e.2.2.2.1.length≤12∧e.2.2.2.2=0)∨(e.1=2∧e.2.2.2.1=[]∧(e.2.2.2.2=1∨e.2.2.2.2=2)))
theorem lmay_ex (N:Nat) (e:Ev):∃b,W_a8 N e=some b∧(b=true↔evK e):=by
  obtain⟨k,lo,hi,t,y⟩:=e
  unfold W_a8 V_a8 evK
  try simp only
  by_cases c1:lo<1
  · rw[cnd_T c1,obind_s];exact⟨_,rfl,fun q=>(by cases q),fun q=>by omega⟩
  rw[cnd_F c1,obind_s]
  try simp only
  by_cases c2:hi<lo
  · rw[cnd_T c2];exact⟨_,rfl,fun q=>(by cases q),fun q=>by omega⟩
  rw[cnd_F c2]
  by_cases c3:(1000000:Int)<hi
  · rw[cnd_T c3];exact⟨_,rfl,fun q=>(by cases q),fun q=>by omega⟩
  rw[cnd_F c3]
  unfold W_F V_F
  try simp only
  by_cases k1:k=1
  · rw[cnd_T k1,obind_s,selim_r,selim_l]
    by_cases d:hi=lo
    · rw[cnd_T d,obind_s]
      try simp only
      by_cases d2:(t.length:Int)≤12
      · rw[cnd_T d2]
        exact⟨_,rfl,fun q=>by have:=of_decide_eq_true q;exact⟨by omega,by omega,by omega,.inl ⟨k1,d,by omega,this⟩⟩,fun q=>decide_eq_true (by omega)⟩
      · rw[cnd_F d2];exact⟨_,rfl,fun q=>(by cases q),fun q=>by omega⟩
    · rw[cnd_F d,obind_s,cnd_f];exact⟨_,rfl,fun q=>(by cases q),fun q=>by omega⟩
  by_cases k2:k=2
  · rw[cnd_F k1,cnd_T k2,obind_s,selim_l,selim_l]
    cases t with
    | nil=>
      rw[show (([]:List UInt8)==[])=true from rfl,cnd_t]
      by_cases d:y=1
      · rw[cnd_T d];exact⟨_,rfl,fun _=>⟨by omega,by omega,by omega,.inr ⟨k2,rfl,.inl d⟩⟩,fun _=>rfl⟩
      · rw[cnd_F d];exact⟨_,rfl,fun q=>⟨by omega,by omega,by omega,.inr ⟨k2,rfl,.inr (of_decide_eq_true q)⟩⟩,fun q=>decide_eq_true (show y=2 by
          rcases q.2.2.2 with z | z
          · have:=z.1;omega
          · have z3:y=1∨y=2:=z.2.2;omega)⟩
    | cons a r=>
      rw[show ((a::r:List UInt8)==[])=false from rfl,cnd_f]
      exact⟨_,rfl,fun q=>(by cases q),fun q=>by rcases q.2.2.2 with z | z;omega;cases z.2.1⟩
  · rw[cnd_F k1,cnd_F k2,obind_s,selim_r,selim_r,selim_r,selim_r]
    exact⟨_,rfl,fun q=>(by cases q),fun q=>by omega⟩
def mayL:Int→List Ev→Prop
  | _,[]=>True
  | f,e::r=>evK e∧e.2.1=f∧mayL (e.2.2.1+1) r
open Classical in
theorem pMayLog_eq (N:Nat) (l:List Ev) (f:Int) (hN:l.length<N) (hl:l.length≤20000000):W_av N (l,f)=some (decide (1≤f∧mayL f l)):=by
  unfold W_av V_av
  try simp only
  by_cases c:f<1
  · rw[cnd_T c,dF (by omega)]
  rw[cnd_F c]
  refine obind_rec eD l (fun i (s:Int)=>(s,i)) (fun r s=>if mayL s r then(.inl ():PUnit⊕Bool) else .inr false) (fun s r=>r.length≤20000000) f rfl hN hl ?_ ?_ ?_
  · by_cases h:mayL f l
    · rw[if_pos h,selim_l,dT ⟨by omega,h⟩]
    · rw[if_neg h,selim_r,dF fun q=>h q.2]
  · rintro s _
    try simp only
    rw[cnd_F (by omega),if_pos (show mayL s [] from trivial)]
  · rintro i e r s hi hg g
    simp only[List.length_cons] at g
    have hg':l.getD i ((0:Int),(0:Int),(0:Int),([]:List UInt8),(0:Int))=e:=hg
    obtain⟨b,eb,hb⟩:=lmay_ex N e
    try simp only
    rw[dT (show (i:Int)<(l.length:Int) by omega),cnd_t,dT (show (0:Int)≤(i:Int) by omega),Bool.and_self,cnd_t,Int.toNat_natCast,hg',eb,obind_s]
    by_cases h:evK e
    · rw[hb.2 h,Bool.not_true,cnd_f]
      by_cases d:e.2.1=s
      · left
        have h3:=h.2.2.1;have h1:=h.1;have h2:=h.2.1
        rw[cnd_F (fun q=>q d),wr_s (by omega) (by omega),wr_s (by omega) (by omega)]
        refine⟨_,rfl,?_,by omega⟩
        by_cases m:mayL (e.2.2.1+1) r
        · rw[if_pos m,if_pos (show mayL s (e::r) from⟨h,d,m⟩)]
        · rw[if_neg m,if_neg (show ¬mayL s (e::r) from fun q=>m q.2.2)]
      · right
        rw[cnd_T d,if_neg fun q=>d q.2.1]
    · right
      rw[show b=false by cases b;rfl;exact absurd (hb.1 rfl) h,Bool.not_false,cnd_t,if_neg fun q=>h q.1]
open Classical in
theorem rMayLog_eq (N:Nat) (l:List Ev) (f:Int) (hN:l.length<N) (hl:l.length≤20000000):W_ah N (l,f)=some (decide (1≤f∧mayL f l)):=by
  unfold W_ah V_ah
  try simp only
  by_cases c:f<1
  · rw[cnd_T c,dF (by omega)]
  rw[cnd_F c]
  refine obind_rec eD l (fun i (s:Int)=>(s,i)) (fun r s=>if mayL s r then(.inl ():PUnit⊕Bool) else .inr false) (fun s r=>r.length≤20000000∧1≤s) f rfl hN ⟨hl,by omega⟩ ?_ ?_ ?_
  · by_cases h:mayL f l
    · rw[if_pos h,selim_l,dT ⟨by omega,h⟩]
    · rw[if_neg h,selim_r,dF fun q=>h q.2]
  · rintro s _
    try simp only
    rw[cnd_F (by omega),if_pos (show mayL s [] from trivial)]
  · rintro i ⟨k,lo,hi,t,y⟩ r s hi' hg ⟨g,g1⟩
    simp only[List.length_cons] at g
    have hg':l.getD i ((0:Int),(0:Int),(0:Int),([]:List UInt8),(0:Int))=(k,lo,hi,t,y):=hg
    have no:¬(evK (k,lo,hi,t,y)∧lo=s)→((some (Sum.inr (Sum.inr false)):Option ((Int×Int)⊕(PUnit⊕Bool)))=some (.inr (if mayL s ((k,lo,hi,t,y)::r) then(.inl ():PUnit⊕Bool) else .inr false))):=fun q=>by
      rw[if_neg fun z=>q ⟨z.1,z.2.1⟩]
    have yes:evK (k,lo,hi,t,y)→lo=s→∃s',(some (Sum.inl (wr .i64 (hi+1),wr .i64 ((i:Int)+1))):Option ((Int×Int)⊕(PUnit⊕Bool)))=some (.inl (s',(i:Int)+1))∧(if mayL s ((k,lo,hi,t,y)::r) then(.inl ():PUnit⊕Bool) else .inr false)=(if mayL s' r then(.inl ():PUnit⊕Bool) else .inr false)∧r.length≤20000000∧1≤s':=fun h d=>by
      have h3:=h.2.2.1;have h1:=h.1;have h2:=h.2.1
      simp only at h1 h2 h3
      rw[wr_s (by omega) (by omega),wr_s (by omega) (by omega)]
      refine⟨_,rfl,?_,by omega,by omega⟩
      by_cases m:mayL (hi+1) r
      · rw[if_pos m,if_pos ⟨h,d,m⟩]
      · rw[if_neg m,if_neg fun q=>m q.2.2]
    try simp only
    rw[dT (show (i:Int)<(l.length:Int) by omega),cnd_t,dT (show (0:Int)≤(i:Int) by omega),Bool.and_self,cnd_t,Int.toNat_natCast,hg']
    try simp only
    by_cases d:lo=s
    case neg=>right;rw[cnd_T d,obind_s,cnd_t];exact no fun q=>d q.2
    rw[cnd_F (fun q=>q d),obind_s]
    try simp only
    by_cases d2:hi<lo
    · right;rw[cnd_T d2];exact no fun q=>by have:=q.1.2.1;simp only at this;omega
    rw[cnd_F d2]
    by_cases d3:(1000000:Int)<hi
    · right;rw[cnd_T d3];exact no fun q=>by have:=q.1.2.2.1;simp only at this;omega
    rw[cnd_F d3]
    by_cases k1:k=1
    · rw[cnd_T k1]
      by_cases d4:hi≠lo
      · right;rw[cnd_T d4,obind_s,cnd_t];exact no fun q=>by rcases q.1.2.2.2 with z | z;exact d4 z.2.1;have:=z.1;simp only at this;omega
      rw[cnd_F d4,obind_s]
      try simp only
      by_cases d5:(12:Int)<(t.length:Int)
      · right;rw[cnd_T d5];exact no fun q=>by rcases q.1.2.2.2 with z | z;(have:=z.2.2.1;simp only at this;omega);(have:=z.1;simp only at this;omega)
      rw[cnd_F d5]
      by_cases d6:y≠0
      · right;rw[cnd_T d6];exact no fun q=>by rcases q.1.2.2.2 with z | z;exact d6 z.2.2.2;have:=z.1;simp only at this;omega
      left
      rw[cnd_F d6]
      exact yes ⟨by simp only;omega,by simp only;omega,by simp only;omega,.inl ⟨k1,by simp only;omega,by simp only;omega,by simp only;omega⟩⟩ d
    rw[cnd_F k1]
    by_cases k2:k=2
    · rw[cnd_T k2]
      cases t with
      | cons a q=>
        right
        rw[show ((a::q:List UInt8)==[])=false from rfl,Bool.not_false,cnd_t]
        exact no fun z=>by rcases z.1.2.2.2 with z | z;exact k1 z.1;cases z.2.1
      | nil=>
        rw[show (([]:List UInt8)==[])=true from rfl,Bool.not_true,cnd_f]
        have good:y=1∨y=2→evK (k,lo,hi,[],y):=fun q=>⟨by simp only;omega,by simp only;omega,by simp only;omega,.inr ⟨k2,rfl,q⟩⟩
        by_cases d5:y≠1
        · rw[cnd_T d5]
          by_cases d6:y≠2
          · right;rw[cnd_T d6];exact no fun z=>by rcases z.1.2.2.2 with z | z;exact k1 z.1;rcases z.2.2 with z | z;exact d5 z;exact d6 z
          · left;rw[cnd_F d6];exact yes (good (.inr (by omega))) d
        · left;rw[cnd_F d5];exact yes (good (.inl (by omega))) d
    · right
      rw[cnd_F k2]
      exact no fun z=>by rcases z.1.2.2.2 with z | z;exact k1 z.1;exact k2 z.1
open Classical in
theorem rMayLog_ex (N:Nat) (l:List Ev) (f:Int) (hN:l.length<N) (hl:l.length≤20000000):∃b,W_ah N (l,f)=some b∧(b=true↔(1≤f∧mayL f l)):=⟨_,rMayLog_eq N l f hN hl,decide_eq_true_iff⟩
structure LW (w:Wd):Prop where
  n8:w.1.length=8
  ll:∀n∈w.1,n.2.2.2.2.1.2.2.2.2.1.length≤20000000∧(n.1=false→n.2.2.2.2.1.2.2.2.2.1=[])
  sd:w.2.2.1.length≤20000000
def nxL (l:List Ev):Int:=wr .i64 ((l.getD (l.length-1) eD).2.2.1+1)
theorem next_eq (N:Nat) (l:List Ev) (f:Int) (h:l≠[]) (hl:l.length≤20000000):W_au N (l,f)=some (nxL l)∧W_aB N (l,f)=some (nxL l):=by
  have hp:=List.length_pos_iff.2 h
  have e:wr .i64 ((l.length:Int)-1)=((l.length-1:Nat):Int):=by rw[wr_m (by omega) (by omega)];omega
  unfold W_au V_au W_aB V_aB
  simp only[e,Int.toNat_natCast]
  rw[cnd_F (by omega),dT (show (0:Int)≤((l.length-1:Nat):Int) by omega),dT (show ((l.length-1:Nat):Int)<(l.length:Int) by omega),Bool.and_self,cnd_t]
  exact⟨rfl,rfl⟩
def LgOk (m:Int) (n:Nd):Prop:=n.1=true→n.2.2.2.2.1.1≠0→(1≤n.2.2.2.2.1.1∧n.2.2.2.2.1.1≤m)∧(n.2.2.2.2.1.2.2.2.2.1=[]∨(1≤(n.2.2.2.2.1.2.2.2.2.1.getD 0 eD).2.1∧mayL (n.2.2.2.2.1.2.2.2.2.1.getD 0 eD).2.1 n.2.2.2.2.1.2.2.2.2.1)∧nxL n.2.2.2.2.1.2.2.2.2.1=n.2.2.2.2.1.1)
theorem whole_ex (N:Nat) (f:Fd) (m:Int) (hN:f.2.2.2.2.1.length<N) (hl:f.2.2.2.2.1.length≤20000000):∃b,W_aK N (f,m)=some b∧(b=true↔(1≤f.1∧f.1≤m)∧(f.2.2.2.2.1=[]∨(1≤(f.2.2.2.2.1.getD 0 eD).2.1∧mayL (f.2.2.2.2.1.getD 0 eD).2.1 f.2.2.2.2.1)∧nxL f.2.2.2.2.1=f.1)):=by
  obtain⟨nx,tp,R,W,L,q⟩:=f
  unfold W_aK V_aK
  simp only at hN hl ⊢
  by_cases c1:nx<1
  · rw[cnd_T c1];exact⟨_,rfl,fun q=>(by cases q),fun q=>by omega⟩
  by_cases c2:m<nx
  · rw[cnd_F c1,cnd_T c2];exact⟨_,rfl,fun q=>(by cases q),fun q=>by omega⟩
  rw[cnd_F c1,cnd_F c2]
  by_cases c3:L=[]
  · subst c3
    exact⟨_,rfl,fun _=>⟨⟨by omega,by omega⟩,.inl rfl⟩,fun _=>rfl⟩
  have hp:=List.length_pos_iff.2 c3
  obtain⟨e1,_⟩:=next_eq N L (L.getD 0 eD).2.1 c3 hl
  have e2:=pMayLog_eq N L (L.getD 0 eD).2.1 hN hl
  rw[cnd_F (show ¬(L.length:Int)=0 by omega),dT (show (0:Int)≤0 by omega),dT (show (0:Int)<(L.length:Int) by omega),Bool.and_self,cnd_t]
  change ∃b,(obind (W_av N (L,(L.getD 0 eD).2.1)) fun b=>cnd b (obind (W_au N (L,(L.getD 0 eD).2.1)) fun b=>some (decide (b=nx))) (some false))=_∧_
  rw[e1,e2,obind_s]
  by_cases d:1≤(L.getD 0 eD).2.1∧mayL (L.getD 0 eD).2.1 L
  · rw[cnd_T d,obind_s]
    exact⟨_,rfl,fun q=>⟨⟨by omega,by omega⟩,.inr ⟨d,of_decide_eq_true q⟩⟩,fun q=>decide_eq_true (q.2.elim (fun z=>absurd z c3) fun z=>z.2)⟩
  · rw[cnd_F d]
    exact⟨_,rfl,fun q=>(by cases q),fun q=>absurd (q.2.elim (fun z=>absurd z c3) fun z=>z.1) d⟩
theorem getD_nd {l:List Nd} {i:Nat} (h:i<l.length):l.getD i ndD∈l:=by
  rw[List.getD_eq_getElem?_getD,List.getElem?_eq_getElem h];exact List.getElem_mem h
theorem castX_rfl (x:Int):castX (e:=.int .i64) (e':=.int .i64) rfl x=x:=rfl
theorem pLogs_ex (N:Nat) (hN:200000000≤N) (w:Wd) (h:LW w):∃b,W_r N w=some b∧(b=true↔∀n∈w.1,LgOk ((w.2.2.1.length:Int)+1) n):=by
  have h8:=h.n8;have hs:=h.sd
  unfold W_r V_r
  refine all_Q (N:=N) ndD w.1 (LgOk ((w.2.2.1.length:Int)+1)) w () (fun r=>∃b,r=some b∧(b=true↔∀n∈w.1,LgOk ((w.2.2.1.length:Int)+1) n)) (by omega) (fun i hi=>?_) ?_ (fun q=>⟨_,rfl,fun _=>q,fun _=>rfl⟩) (fun q=>⟨_,rfl,fun z=>(by cases z),fun z=>absurd z q⟩)
  · have hn:=(h.ll _ (getD_nd hi)).1
    try simp only
    rw[dT (show (i:Int)<(w.1.length:Int) by omega),cnd_t,dT (show (0:Int)≤(i:Int) by omega),Bool.and_self,cnd_t,Int.toNat_natCast]
    change (_∧(obind (cnd (w.1.getD i ndD).1 (some (_,w,w.1.getD i ndD)) (some (false,w,w.1.getD i ndD))) _)=_)∨(_∧(obind (cnd (w.1.getD i ndD).1 (some (_,w,w.1.getD i ndD)) (some (false,w,w.1.getD i ndD))) _)=_)
    generalize w.1.getD i ndD=n at hn ⊢
    obtain⟨b,eb,hb⟩:=whole_ex N n.2.2.2.2.1 ((w.2.2.1.length:Int)+1) (by omega) hn
    have w1:wr .i64 ((w.2.2.1.length:Int)+1)=(w.2.2.1.length:Int)+1:=wr_s (by omega) (by omega)
    rcases Bool.eq_false_or_eq_true n.1 with q | q
    · rw[q,cnd_t,obind_s]
      simp only[w1,castX_rfl]
      by_cases z:n.2.2.2.2.1.1=0
      · left
        refine⟨fun _ q2=>absurd z q2,?_⟩
        rw[cnd_F (fun q=>q z),wi (by omega)]
      · rw[cnd_T z,eb,obind_s,wi (by omega)]
        cases b with
        | true=>left;exact⟨fun _ _=>hb.1 rfl,rfl⟩
        | false=>right;exact⟨fun p=>(by have:=hb.2 (p q z);cases this),rfl⟩
    · left
      refine⟨fun p=>(by rw[q] at p;cases p),?_⟩
      rw[q,cnd_f,obind_s,cnd_f,wi (by omega)]
  · simp only
    rw[cnd_F (by omega)]
theorem rLogs_ex (N:Nat) (hN:200000000≤N) (w:Wd) (h:LW w):∃b,W_4 N w=some b∧(b=true↔∀n∈w.1,LgOk ((w.2.2.1.length:Int)+1) n):=by
  have h8:=h.n8;have hs:=h.sd
  unfold W_4 V_4
  refine all_Q (N:=N) ndD w.1 (LgOk ((w.2.2.1.length:Int)+1)) w () (fun r=>∃b,r=some b∧(b=true↔∀n∈w.1,LgOk ((w.2.2.1.length:Int)+1) n)) (by omega) (fun i hi=>?_) ?_ (fun q=>⟨_,rfl,fun _=>q,fun _=>rfl⟩) (fun q=>⟨_,rfl,fun z=>(by cases z),fun z=>absurd z q⟩)
  · have hn:=(h.ll _ (getD_nd hi)).1
    obtain⟨n,en⟩:∃n,w.1.getD i ndD=n:=⟨_,rfl⟩
    rw[en] at hn ⊢
    try simp only
    rw[dT (show (i:Int)<(w.1.length:Int) by omega),cnd_t,dT (show (0:Int)≤(i:Int) by omega),Bool.and_self,cnd_t,Int.toNat_natCast]
    simp only[en]
    have w1:wr .i64 ((w.2.2.1.length:Int)+1)=(w.2.2.1.length:Int)+1:=wr_s (by omega) (by omega)
    rw[w1,wi (by omega)]
    clear w1
    obtain⟨on,inc,nm,t,⟨nx,tp,R,W,L,q⟩,bad⟩:=n
    simp only at hn ⊢
    cases on with
    | false=>left;exact⟨fun p=>(by cases p),rfl⟩
    | true=>
      rw[Bool.not_true,cnd_f]
      by_cases z:nx=0
      · left;rw[cnd_T z];exact⟨fun _ q2=>absurd z q2,rfl⟩
      rw[cnd_F z]
      by_cases c1:nx<1
      · right;rw[cnd_T c1];exact⟨fun p=>(by have:=(p rfl z).1.1;simp only at this;omega),rfl⟩
      by_cases c2:(w.2.2.1.length:Int)+1<nx
      · right;rw[cnd_F c1,cnd_T c2];exact⟨fun p=>(by have:=(p rfl z).1.2;simp only at this;omega),rfl⟩
      rw[cnd_F c1,cnd_F c2]
      by_cases c3:L=[]
      · left;subst c3;exact⟨fun _ _=>⟨⟨by simp only;omega,by simp only;omega⟩,.inl rfl⟩,rfl⟩
      have hp:=List.length_pos_iff.2 c3
      obtain⟨_,e1⟩:=next_eq N L 1 c3 hn
      obtain⟨b,e2',hb⟩:∃b,W_ah N (L,(L.getD 0 ((0:Int),(0:Int),(0:Int),([]:List UInt8),(0:Int))).2.1)=some b∧(b=true↔(1≤(L.getD 0 eD).2.1∧mayL (L.getD 0 eD).2.1 L)):=rMayLog_ex N L (L.getD 0 eD).2.1 (by omega) hn
      rw[cnd_T (show (0:Int)<(L.length:Int) by omega),dT (show (0:Int)≤0 by omega),dT (show (0:Int)<(L.length:Int) by omega),Bool.and_self,cnd_t,e2',obind_s,e1,obind_s]
      cases b with
      | true=>
        have d:=hb.1 rfl
        rw[Bool.not_true,cnd_f]
        by_cases d2:nxL L=nx
        · left;rw[cnd_F (fun q=>q d2)];exact⟨fun _ _=>⟨⟨by simp only;omega,by simp only;omega⟩,.inr ⟨d,d2⟩⟩,rfl⟩
        · right;rw[cnd_T d2];exact⟨fun p=>d2 ((p rfl z).2.elim (fun q=>absurd q c3) fun q=>q.2),rfl⟩
      | false=>
        right
        have d:¬(1≤(L.getD 0 eD).2.1∧mayL (L.getD 0 eD).2.1 L):=fun q=>by have:=hb.2 q;cases this
        rw[Bool.not_false,cnd_t]
        exact⟨fun p=>d ((p rfl z).2.elim (fun q=>absurd q c3) fun q=>q.1),rfl⟩
  · simp only
    rw[cnd_F (by omega)]
theorem Logs_same (N:Nat) (hN:200000000≤N) (w:Wd) (h:LW w):∃b,W_r N w=some b∧W_4 N w=some b:=by
  obtain⟨b,e1,h1⟩:=pLogs_ex N hN w h
  obtain⟨c,e2,h2⟩:=rLogs_ex N hN w h
  have:b=c:=by rw[Bool.eq_iff_iff];exact h1.trans h2.symm
  subst this
  exact⟨b,e1,e2⟩
def SdOk (sd:List (List UInt8)) (e:Ev):Prop:=e.1=1→(1≤e.2.1∧e.2.1≤sd.length)∧e.2.2.2.1=sd.getD (e.2.1-1).toNat []
theorem getD_ev {l:List Ev} {i:Nat} (h:i<l.length):l.getD i eD∈l:=by
  rw[List.getD_eq_getElem?_getD,List.getElem?_eq_getElem h];exact List.getElem_mem h
theorem pSaid_ex (N:Nat) (hN:200000000≤N) (w:Wd) (h:LW w):∃b,W_s N w=some b∧(b=true↔∀n∈w.1,∀e∈n.2.2.2.2.1.2.2.2.2.1,SdOk w.2.2.1 e):=by
  have h8:=h.n8;have hs:=h.sd
  unfold W_s V_s
  refine all_Q (N:=N) ndD w.1 (fun n=>∀e∈n.2.2.2.2.1.2.2.2.2.1,SdOk w.2.2.1 e) w () (fun r=>∃b,r=some b∧(b=true↔∀n∈w.1,∀e∈n.2.2.2.2.1.2.2.2.2.1,SdOk w.2.2.1 e)) (by omega) (fun i hi=>?_) ?_ (fun q=>⟨_,rfl,fun _=>q,fun _=>rfl⟩) (fun q=>⟨_,rfl,fun z=>(by cases z),fun z=>absurd z q⟩)
  · have hn:=(h.ll _ (getD_nd hi)).1
    obtain⟨n,en⟩:∃n,w.1.getD i ndD=n:=⟨_,rfl⟩
    rw[en] at hn ⊢
    try simp only
    rw[dT (show (i:Int)<(w.1.length:Int) by omega),cnd_t,dT (show (0:Int)≤(i:Int) by omega),Bool.and_self,cnd_t,Int.toNat_natCast]
    simp only[en]
    obtain⟨on,inc,nm,t,⟨nx,tp,R,W,L,q⟩,bad⟩:=n
    simp only at hn ⊢
    rw[wi (by omega)]
    clear en
    let Q:Option ((Int×Wd)⊕(Unit⊕Bool))→Prop:=fun r=>((∀e∈L,SdOk w.2.2.1 e)∧r=some (Sum.inl (((i+1:Nat):Int),w)))∨((¬∀e∈L,SdOk w.2.2.1 e)∧r=some (Sum.inr (Sum.inr false)))
    change Q _
    refine all_Q (N:=N) eD L (SdOk w.2.2.1) w w Q (by omega) (fun k hk=>?_) ?_ (fun q=>.inl ⟨q,rfl⟩) (fun q=>.inr ⟨q,rfl⟩)
    · obtain⟨e,he⟩:∃e,L.getD k eD=e:=⟨_,rfl⟩
      have he':L.getD k ((0:Int),(0:Int),(0:Int),([]:List UInt8),(0:Int))=e:=he
      try simp only
      rw[he,dT (show (k:Int)<(L.length:Int) by omega),cnd_t,dT (show (0:Int)≤(k:Int) by omega),Bool.and_self,cnd_t,Int.toNat_natCast,he',wi (by omega)]
      unfold W_bb V_bb
      by_cases k1:e.1=1
      · rw[cnd_T k1,obind_s,selim_l]
        by_cases c1:e.2.1<1
        · right;rw[cnd_T c1];exact⟨fun q=>by have:=(q k1).1.1;omega,rfl⟩
        by_cases c2:(w.2.2.1.length:Int)<e.2.1
        · right;rw[cnd_F c1,cnd_T c2];exact⟨fun q=>by have:=(q k1).1.2;omega,rfl⟩
        rw[cnd_F c1,cnd_F c2,wr_m (z:=e.2.1-1) (by omega) (by omega),dT (show (0:Int)≤e.2.1-1 by omega),dT (show e.2.1-1<(w.2.2.1.length:Int) by omega),Bool.and_self,cnd_t]
        by_cases c3:e.2.2.2.1=w.2.2.1.getD (e.2.1-1).toNat []
        · left
          rw[show (!e.2.2.2.1==w.2.2.1.getD (e.2.1-1).toNat [])=false by rw[c3];simp,cnd_f]
          exact⟨fun _=>⟨⟨by omega,by omega⟩,c3⟩,rfl⟩
        · right
          rw[show (!e.2.2.2.1==w.2.2.1.getD (e.2.1-1).toNat [])=true by simpa using c3,cnd_t]
          exact⟨fun q=>c3 (q k1).2,rfl⟩
      · left
        rw[cnd_F k1,obind_s,selim_r]
        exact⟨fun q=>absurd q k1,rfl⟩
    · simp only
      rw[cnd_F (by omega)]
  · simp only
    rw[cnd_F (by omega)]
theorem rSaid_ex (N:Nat) (hN:200000000≤N) (w:Wd) (h:LW w):∃b,W_5 N w=some b∧(b=true↔∀n∈w.1,∀e∈n.2.2.2.2.1.2.2.2.2.1,SdOk w.2.2.1 e):=by
  have h8:=h.n8;have hs:=h.sd
  unfold W_5 V_5
  refine all_Q (N:=N) ndD w.1 (fun n=>∀e∈n.2.2.2.2.1.2.2.2.2.1,SdOk w.2.2.1 e) w () (fun r=>∃b,r=some b∧(b=true↔∀n∈w.1,∀e∈n.2.2.2.2.1.2.2.2.2.1,SdOk w.2.2.1 e)) (by omega) (fun i hi=>?_) ?_ (fun q=>⟨_,rfl,fun _=>q,fun _=>rfl⟩) (fun q=>⟨_,rfl,fun z=>(by cases z),fun z=>absurd z q⟩)
  · have hn:=h.ll _ (getD_nd hi)
    obtain⟨n,en⟩:∃n,w.1.getD i ndD=n:=⟨_,rfl⟩
    rw[en] at hn ⊢
    try simp only
    rw[dT (show (i:Int)<(w.1.length:Int) by omega),cnd_t,dT (show (0:Int)≤(i:Int) by omega),Bool.and_self,cnd_t,Int.toNat_natCast]
    simp only[en]
    obtain⟨on,inc,nm,t,⟨nx,tp,R,W,L,q⟩,bad⟩:=n
    obtain⟨hn,hof⟩:=hn
    simp only at hn hof ⊢
    rw[wi (by omega)]
    let Q:Option ((Int×Wd)⊕(Unit⊕Bool))→Prop:=fun r=>((∀e∈L,SdOk w.2.2.1 e)∧r=some (Sum.inl (((i+1:Nat):Int),w)))∨((¬∀e∈L,SdOk w.2.2.1 e)∧r=some (Sum.inr (Sum.inr false)))
    change Q _
    refine all_Q (N:=N) eD L (SdOk w.2.2.1) w w Q (by omega) (fun k hk=>?_) ?_ (fun q=>.inl ⟨q,rfl⟩) (fun q=>.inr ⟨q,rfl⟩)
    · obtain⟨e,he⟩:∃e,L.getD k eD=e:=⟨_,rfl⟩
      have he':L.getD k ((0:Int),(0:Int),(0:Int),([]:List UInt8),(0:Int))=e:=he
      have on':on=true:=by cases on;(have:=hof rfl;subst this;simp at hk);rfl
      subst on'
      try simp only
      rw[he,dT (show (k:Int)<(L.length:Int) by omega),cnd_t,dT (show (i:Int)<(w.1.length:Int) by omega),Bool.and_true]
      simp only[Int.toNat_natCast,he']
      rw[wi (by omega),dT (show (0:Int)≤(k:Int) by omega)]
      simp only[Bool.and_self,cnd_t]
      rw[en]
      simp only[cnd_t]
      by_cases k1:e.1=1
      · rw[cnd_T k1]
        by_cases c1:e.2.1<1
        · right;rw[cnd_T c1];exact⟨fun q=>by have:=(q k1).1.1;omega,rfl⟩
        by_cases c2:(w.2.2.1.length:Int)<e.2.1
        · right;rw[cnd_F c1,cnd_T c2];exact⟨fun q=>by have:=(q k1).1.2;omega,rfl⟩
        rw[cnd_F c1,cnd_F c2,wr_m (z:=e.2.1-1) (by omega) (by omega),dT (show (0:Int)≤e.2.1-1 by omega),dT (show e.2.1-1<(w.2.2.1.length:Int) by omega),Bool.and_self,cnd_t]
        by_cases c3:e.2.2.2.1=w.2.2.1.getD (e.2.1-1).toNat []
        · left
          rw[show (!w.2.2.1.getD (e.2.1-1).toNat []==e.2.2.2.1)=false by rw[c3];simp,cnd_f]
          exact⟨fun _=>⟨⟨by omega,by omega⟩,c3⟩,rfl⟩
        · right
          rw[show (!w.2.2.1.getD (e.2.1-1).toNat []==e.2.2.2.1)=true by simpa using fun z:_=_=>c3 z.symm,cnd_t]
          exact⟨fun q=>c3 (q k1).2,rfl⟩
      · left
        rw[cnd_F k1]
        exact⟨fun q=>absurd q k1,rfl⟩
    · simp only
      rw[cnd_F (by omega)]
  · simp only
    rw[cnd_F (by omega)]
theorem Said_same (N:Nat) (hN:200000000≤N) (w:Wd) (h:LW w):∃b,W_s N w=some b∧W_5 N w=some b:=by
  obtain⟨b,e1,h1⟩:=pSaid_ex N hN w h
  obtain⟨c,e2,h2⟩:=rSaid_ex N hN w h
  have:b=c:=by rw[Bool.eq_iff_iff];exact h1.trans h2.symm
  subst this
  exact⟨b,e1,e2⟩
def gpS (o:List Sp) (e:Ev):List Sp:=if e.1=2 then push o e.2.1 e.2.2.1 else o
def GI (o:List Sp) (r:List Ev):Prop:=VS o∧(∃p m,Ch p r m∧m≤1000001∧1≤p∧∀t∈o,t.2+1≤p)∧o.length+r.length≤20000000
theorem GI.step {o:List Sp} {e:Ev} {r:List Ev} (h:GI o (e::r)):GI (gpS o e) r∧(e.1=2→okS (e.2.1,e.2.2.1)∧(∀t∈o,t.2+1≤e.2.1))∧o.length≤20000000:=by
  obtain⟨hv,⟨p,m,hc,hm,hp,hb⟩,hl⟩:=h
  have h1:=hc.1;have h2:=hc.2.1.1;have h3:=hc.2.2.le
  simp only[List.length_cons] at hl
  have hok:okS (e.2.1,e.2.2.1):=⟨by simp only;omega,h2,by simp only;omega⟩
  have hb':∀t∈o,t.2+1≤e.2.1:=fun t ht=>by have:=hb t ht;omega
  refine⟨?_,fun _=>⟨hok,hb'⟩,by omega⟩
  unfold gpS
  split
  · have e1:=addP_push hv hok hb'
    have e2:=VS_add hv hok
    rw[e1] at e2
    refine⟨e2.1,⟨e.2.2.1+1,m,hc.2.2,hm,by omega,push_hi (fun s hs=>by have:=hb' s hs;omega) (Int.le_refl _)⟩,?_⟩
    have:(push o e.2.1 e.2.2.1).length≤o.length+1:=by
      unfold push
      split
      · rename_i q
        rw[putL_set _ (by omega),List.length_set];omega
      · simp
    omega
  · exact⟨hv,⟨e.2.2.1+1,m,hc.2.2,hm,by omega,fun t ht=>by have:=hb t ht;omega⟩,by omega⟩
theorem pGaps_eq (N:Nat) (l:List Ev) (hN:l.length<N) (h:GI [] l):W_a6 N l=some (l.foldl gpS []):=by
  unfold W_a6 V_a6
  refine obind_rec eD l (fun i (o:List Sp)=>(i,o)) (fun r o=>r.foldl gpS o) GI [] rfl hN h rfl ?_ ?_
  · rintro o _
    try simp only
    rw[cnd_F (by omega)]
    rfl
  · rintro i e r o hi hg hI
    left
    obtain⟨h1,h2,h3⟩:=hI.step
    have hll:=hI.2.2
    simp only[List.length_cons] at hll
    have hg':l.getD i ((0:Int),(0:Int),(0:Int),([]:List UInt8),(0:Int))=e:=hg
    have hil:i<20000000:=by
      have:=h.2.2
      simp at this
      omega
    try simp only
    rw[dT (show (i:Int)<(l.length:Int) by omega),cnd_t,dT (show (0:Int)≤(i:Int) by omega),Bool.and_self,cnd_t,Int.toNat_natCast,hg',wr_s (z:=(i:Int)+1) (by omega) (by omega)]
    unfold W_F V_F
    by_cases k1:e.1=1
    · rw[cnd_T k1,obind_s,selim_r,selim_l]
      have:gpS o e=o:=by unfold gpS;rw[if_neg (by omega)]
      rw[this] at h1
      exact⟨o,rfl,by simp only[List.foldl_cons,this],h1⟩
    by_cases k2:e.1=2
    case neg=>
      rw[cnd_F k1,cnd_F k2,obind_s,selim_r,selim_r]
      have:gpS o e=o:=by unfold gpS;rw[if_neg k2]
      rw[this] at h1
      exact⟨o,rfl,by simp only[List.foldl_cons,this],h1⟩
    rw[cnd_F k1,cnd_T k2,obind_s,selim_l]
    refine⟨gpS o e,?_,rfl,h1⟩
    have hgp:gpS o e=push o e.2.1 e.2.2.1:=by unfold gpS;rw[if_pos k2]
    rw[hgp]
    unfold push
    rcases List.eq_nil_or_concat o with rfl | ⟨o',s,rfl⟩
    · rw[cnd_F (by simp),cnd_T (by simp),if_neg (by simp)]
    · rw[List.concat_eq_append] at *
      have hs:=hI.1.1 s (by simp)
      have hs2:=hs.2.2;have hs1:=hs.1;have hs3:=hs.2.1
      have hlen:(o'++[s]).length=o'.length+1:=by simp
      have hget:(o'++[s]).getD o'.length ((0:Int),(0:Int))=s:=by simp
      rw[hlen] at h3
      rw[hlen,wr_s (z:=((o'.length+1:Nat):Int)-1) (by omega) (by omega),show (((o'.length+1:Nat):Int)-1)=(o'.length:Int) by omega,Int.toNat_natCast,show o'.length+1-1=o'.length by omega,hget,cnd_T (show (0:Int)<((o'.length+1:Nat):Int) by omega),dT (show (0:Int)≤(o'.length:Int) by omega),dT (show (o'.length:Int)<((o'.length+1:Nat):Int) by omega),Bool.and_self,cnd_t,wr_m (by omega) (by omega)]
      by_cases d:s.2+1=e.2.1
      · rw[cnd_T d,cnd_t,if_pos ⟨by omega,d⟩]
      · rw[cnd_F d,cnd_T (by simp only[List.length_singleton];omega),if_neg fun q=>d q.2]
theorem rGaps_eq (N:Nat) (l:List Ev) (hN:l.length<N) (hN2:200000000≤N) (h:GI [] l):W_aU N l=some (l.foldl gpS []):=by
  unfold W_aU V_aU
  refine obind_rec eD l (fun i (o:List Sp)=>(o,i)) (fun r o=>r.foldl gpS o) GI [] rfl hN h rfl ?_ ?_
  · rintro o _
    try simp only
    rw[cnd_F (by omega)]
    rfl
  · rintro i e r o hi hg hI
    left
    obtain⟨h1,h2,h3⟩:=hI.step
    have hg':l.getD i ((0:Int),(0:Int),(0:Int),([]:List UInt8),(0:Int))=e:=hg
    have hil:i<20000000:=by
      have:=h.2.2
      simp at this
      omega
    try simp only
    rw[dT (show (i:Int)<(l.length:Int) by omega),cnd_t,dT (show (0:Int)≤(i:Int) by omega),Bool.and_self,cnd_t,Int.toNat_natCast,hg',wr_s (z:=(i:Int)+1) (by omega) (by omega)]
    by_cases k2:e.1=2
    · have hh:=h2 k2
      rw[cnd_T k2,cnd_t,rAddS_eq N o (e.2.1,e.2.2.1) (by omega) (by omega) (fun s hs=>(hI.1.1 s hs).B),obind_s,addP_push hI.1 hh.1 hh.2]
      refine⟨gpS o e,?_,rfl,h1⟩
      unfold gpS
      rw[if_pos k2,cnd_t]
    · rw[cnd_F k2]
      have:gpS o e=o:=by unfold gpS;rw[if_neg k2]
      rw[this] at h1
      exact⟨o,rfl,by simp only[List.foldl_cons,this],h1⟩
theorem NI.gi {B id:Int} {n:Nd} (h:NI B id n):GI [] n.2.2.2.2.1.2.2.2.2.1∧n.2.2.2.2.1.2.2.2.2.1.length≤10000001:=by
  obtain⟨c,m,hc,hm,hl,hb⟩:=h.log
  refine⟨⟨⟨by simp,by simp⟩,?_,by simp;omega⟩,hl⟩
  by_cases q:n.2.2.2.2.1.2.2.2.2.1=[]
  · rw[q];exact⟨1,1,rfl,by omega,by omega,by simp⟩
  · have:=hb q
    exact⟨c,m,hc,this.2,this.1,by simp⟩
theorem SameSp_self (N:Nat) (l:List Sp) (hN:l.length<N) (hl:l.length≤100000000):W_aw N (l,l)=some true:=by
  unfold W_aw V_aw
  try simp only
  rw[cnd_F (by simp)]
  refine loop_G (N:=N) (fun r=>r=some true) (fun k (v:Int)=>v=(k:Int)∧k≤l.length) l.length (fun r:PUnit⊕Bool=>r=.inl ()) ⟨rfl,by omega⟩ hN (fun r h=>by rw[h];rfl) (fun k v h=>h.2) ?_
  rintro k _ ⟨rfl,hk⟩
  by_cases c:k<l.length
  · left
    rw[dT (show (k:Int)<(l.length:Int) by omega),cnd_t,dT (show (0:Int)≤(k:Int) by omega),Bool.and_self,cnd_t]
    exact⟨_,rfl,wr_s (by omega) (by omega),by omega⟩
  · right
    rw[dF (show ¬(k:Int)<(l.length:Int) by omega),cnd_f]
    exact⟨_,rfl,rfl⟩
theorem Lacks_same (N:Nat) (hN:200000000≤N) {B:Int} {w:Wd} (h:WI N B w) (r:Int):∃g,W_M N (w,r)=some g∧W_aF N (w,r)=some g∧g.length≤100000000:=by
  have h8:=h.n8
  unfold W_M V_M W_aF V_aF
  try simp only
  by_cases c1:r<1
  · rw[cnd_T c1];exact⟨_,rfl,by rw[cnd_T c1],by simp⟩
  by_cases c2:(w.1.length:Int)<r
  · rw[cnd_F c1,cnd_T c2];exact⟨_,rfl,by rw[cnd_F c1,cnd_T c2],by simp⟩
  obtain⟨i,hi,rfl⟩:∃i:Nat,i<8∧r=(i:Int)+1:=⟨(r-1).toNat,by omega,by omega⟩
  obtain⟨hg,hl⟩:=(h.ns i hi).gi
  have w0:wr .i64 ((i:Int)+1-1)=i:=by rw[wr_m (by omega) (by omega)];omega
  have e1:=pGaps_eq N _ (by omega) hg
  have e2:=rGaps_eq N _ (by omega) hN hg
  have hfl:∀(l:List Ev) (o:List Sp),GI o l→(l.foldl gpS o).length≤20000000:=by
    intro l
    induction l with
    | nil=>intro o h;have:=h.2.2;simp at this;simpa using this
    | cons e r ih=>intro o h;exact ih _ h.step.1
  have:=hfl _ _ hg
  refine⟨_,?_,?_,Nat.le_trans (hfl _ _ hg) (by decide)⟩
  · rw[cnd_F c1,cnd_F c2,w0,dT (show (0:Int)≤(i:Int) by omega),dT (show (i:Int)<(w.1.length:Int) by omega),Bool.and_self,cnd_t,Int.toNat_natCast,e1,obind_s]
  · rw[cnd_F c1,cnd_F c2,w0,dT (show (0:Int)≤(i:Int) by omega),dT (show (i:Int)<(w.1.length:Int) by omega),Bool.and_self,cnd_t,Int.toNat_natCast,e2,obind_s]
theorem chk (N:Nat) (hN:200000000≤N) (w:Wd) (h:LW w) (y:Wd):(obind (obind (W_r N w) fun b_6=>obind (W_4 N w) fun b_7=>cnd (!b_6==b_7) (some (true,y)) (obind (W_s N w) fun b_8=>obind (W_5 N w) fun b_9=>cnd (!b_8==b_9) (some (true,y)) (obind (W_v N w) fun b_10=>obind (W_aa N w) fun b_11=>obind (W_t N (b_10,b_11)) fun b_12=>some (!b_12,y)))) fun(b:Bool×Wd)=>cnd b.1 (some (Sum.inr false:Wd⊕Bool)) (some (Sum.inl b.2)))=some (Sum.inl y):=by
  obtain⟨a,e1,e2⟩:=Logs_same N hN w h
  obtain⟨b,e3,e4⟩:=Said_same N hN w h
  obtain⟨r,e5,e6,e7⟩:=Loops_eq N (by omega) w (by have:=h.n8;omega)
  rw[e1,obind_s,e2,obind_s,show (!a==a)=false by simp,cnd_f,e3,obind_s,e4,obind_s,show (!b==b)=false by simp,cnd_f,e5,obind_s,e6,obind_s,SameI_eq N r r (by omega) (by omega),obind_s,obind_s]
  simp[cnd_f]
theorem Ch.tx:∀{L:List Ev} {n m:Int},Ch n L m→∀e∈L,e.2.2.2.1.length≤12
  | [],_,_,_,e,he=>by cases he
  | x::r,n,m,h,e,he=>by
    rcases List.mem_cons.1 he with rfl | he
    · exact h.2.1.2.2
    · exact h.2.2.tx e he
def NdOk (n:Nd):Prop:=n.2.2.2.2.1.2.2.2.2.1.length≤20000000∧(n.1=false→n.2.2.2.2.1.2.2.2.2.1=[])
theorem WI.lw {N:Nat} {B:Int} {w:Wd} (h:WI N B w) (hB:B≤900000):LW w:=by
  have h8:=h.n8
  refine⟨h.n8,fun n hn=>?_,by have:=h.sd;omega⟩
  obtain⟨i,hi,rfl⟩:=List.mem_iff_getElem.1 hn
  have hni:=h.ns i (by omega)
  rw[List.getD_eq_getElem?_getD,List.getElem?_eq_getElem hi] at hni
  obtain⟨c,m,hc,hm,hl,hb⟩:=hni.log
  exact⟨Nat.le_trans hl (by decide),fun q=>by have:=hni.off q;rw[show w.1[i]=(some w.1[i]).getD ndD from rfl,this]⟩
theorem LW.set {w:Wd} (h:LW w) {n:Nd} (hn:NdOk n) (i:Nat):LW (w.1.set i n,w.2.1,w.2.2.1,w.2.2.2):=by
  refine⟨by simp only[List.length_set];exact h.n8,fun x hx=>?_,h.sd⟩
  rcases List.mem_or_eq_of_mem_set hx with q | rfl
  · exact h.ll x q
  · exact hn
theorem LW.said {w:Wd} (h:LW w) (sd:List (List UInt8)) (hs:sd.length≤20000000):LW (w.1,w.2.1,sd,w.2.2.2):=⟨h.n8,h.ll,hs⟩
theorem law_aux (N:Nat) (hN:200000000≤N) (hb:W_a9 N ()=some true) (y0 y1:List Int) (y2 y3 y4 y5:Int) (h0:U8 y0) (h1:U8 y1) (h2:0≤y2∧y2≤255) (h3:0≤y3∧y3≤255) (h4:0≤y4∧y4≤255):W_bd N (y0,y1,y2,y3,y4,y5)=some true:=by
  unfold W_bd V_bd
  rw[hb,obind_s,Bool.not_true,cnd_f]
  try simp only
  by_cases c0:(40:Int)<(y0.length:Int)
  · rw[cnd_T c0]
  by_cases c1:(250:Int)<(y1.length:Int)
  · rw[cnd_F c0,cnd_T c1]
  rw[cnd_F c0,cnd_F c1]
  unfold W_X V_X
  rw[obind_s,obind_s]
  obtain⟨n1,w1,e1,_,hw1⟩:=Peopled_ex N hN y0 0 h0 (by omega) ⟨by omega,by omega⟩
  obtain⟨n2,w2,e2,_,hw2⟩:=Run_ex N hN hw1 60 (by omega) (by omega) y1 0 h1 (by omega) ⟨by omega,by omega⟩
  have e2':W_aq N (w1,(60:Int),y1,0)=_:=e2
  rw[e1,obind_s]
  try simp only
  rw[e2',obind_s]
  have hw:=hw2.mono (B':=900000) (by omega)
  clear hw1 hw2 e1 e2 e2' hb
  have hlw:=hw.lw (by omega)
  have h8:=hw.n8
  have hsd:=hw.sd
  obtain⟨j,hj,ej⟩:∃j:Nat,j<8∧Int.tmod y2 8=(j:Int):=⟨(y2 % 8).toNat,by omega,by rw[tm _ _ h2.1];omega⟩
  have hni:=hw.ns j hj
  obtain⟨c,m,hc,hm,hl,hbd⟩:=hni.log
  have hoff:(w2.1.getD j ndD).1=false→(w2.1.getD j ndD).2.2.2.2.1.2.2.2.2.1=[]:=fun q=>by rw[hni.off q]
  simp only[ej,Int.toNat_natCast]
  rw[cnd_T (by omega),dT (show (0:Int)≤(j:Int) by omega),dT (show (j:Int)<(w2.1.length:Int) by omega),Bool.and_self,cnd_t,obind_s]
  obtain⟨n,en⟩:∃n,w2.1.getD j ndD=n:=⟨_,rfl⟩
  rw[en] at hc hl hoff hbd ⊢
  clear en hni hm
  obtain⟨on,inc,nm,t,⟨nx,tp,R,W,L,aq⟩,bd⟩:=n
  simp only at hc hl hoff hbd ⊢
  rw[cnd_T (by omega)]
  have hself:NdOk (on,inc,nm,t,(nx,tp,R,W,L,aq),bd):=⟨Nat.le_trans hl (by decide),hoff⟩
  let P:Wd×List Gr×List (List UInt8)×Hr×List Nd×Nd→Prop:=fun b=>b.1=w2∧b.2.1=w2.2.1∧b.2.2.1=w2.2.2.1∧b.2.2.2.1=w2.2.2.2∧b.2.2.2.2.1=w2.1∧NdOk b.2.2.2.2.2
  refine ob_post (fun r=>r=some true) P ?_ ?_
  · by_cases c:(0:Int)<(L.length:Int)
    case neg=>rw[cnd_F c];exact⟨_,rfl,rfl,rfl,rfl,rfl,rfl,hself⟩
    obtain⟨k,hk,ek⟩:∃k:Nat,k<L.length∧Int.tmod (wr .i64 y3) (L.length:Int)=(k:Int):=by
      rw[wr_s (by omega) (by omega),tm _ _ h3.1]
      have a1:=Int.emod_nonneg y3 (b:=(L.length:Int)) (by omega)
      have a2:=Int.emod_lt_of_pos y3 (b:=(L.length:Int)) (by omega)
      exact⟨(y3 % (L.length:Int)).toNat,by omega,by omega⟩
    have hmem:L.getD k eD∈L:=getD_ev hk
    have htx:=hc.tx _ hmem
    have on1:∀{L':List Ev} {nx':Int},L'.length≤L.length→NdOk (on,inc,nm,t,(nx',tp,R,W,L',aq),bd):=fun hL'=>by
      refine⟨Nat.le_trans hL' (Nat.le_trans hl (by decide)),fun q=>?_⟩
      have:=hoff q
      rw[this] at hk
      simp at hk
    have htx':List.length (L.getD k ((0:Int),(0:Int),(0:Int),([]:List UInt8),(0:Int))).2.2.2.1≤12:=htx
    simp only[ek,Int.toNat_natCast]
    rw[cnd_T c,dF (show ¬(L.length:Int)=0 by omega),Bool.not_false,cnd_t,dT (show (0:Int)≤(k:Int) by omega),dT (show (k:Int)<(L.length:Int) by omega),Bool.and_self]
    simp only[cnd_t]
    have hput:∀e:Ev,(putL L [e] k).length≤L.length:=fun e=>by rw[putL_set _ hk,List.length_set];omega
    by_cases d0:Int.tmod y4 5=0
    · rw[cnd_T d0,cnd_T (by omega)]
      exact⟨_,rfl,rfl,rfl,rfl,rfl,rfl,on1 (hput _)⟩
    by_cases d1:Int.tmod y4 5=1
    · rw[cnd_F d0,cnd_T d1]
      exact⟨_,rfl,rfl,rfl,rfl,rfl,rfl,on1 (hput _)⟩
    by_cases d2:Int.tmod y4 5=2
    · rw[cnd_F d0,cnd_F d1,cnd_T d2,wr_s (z:=(k:Int)+1) (by omega) (by omega)]
      rw[cnd_T (by simp only[Option.getD_none];omega),cnd_T (by omega),cnd_T (by simp only[Option.getD_some];omega),cnd_T (by simp only[Option.getD_some];omega),cnd_T (by simp only[cutT,Option.getD_some,Option.getD_none,List.length_drop,List.length_take];omega)]
      exact⟨_,rfl,rfl,rfl,rfl,rfl,rfl,on1 (by simp only[cutT,Option.getD_some,Option.getD_none,List.length_drop,List.length_take,List.length_append];omega)⟩
    by_cases d3:Int.tmod y4 5=3
    · rw[cnd_F d0,cnd_F d1,cnd_F d2,cnd_T d3]
      exact⟨_,rfl,rfl,rfl,rfl,rfl,rfl,on1 (Nat.le_refl _)⟩
    · rw[cnd_F d0,cnd_F d1,cnd_F d2,cnd_F d3]
      exact⟨_,rfl,rfl,rfl,rfl,rfl,rfl,on1 (hput _)⟩
  · rintro⟨b1,b2,b3,b4,b5,n⟩ ⟨g1,g2,g3,g4,g5,g6⟩
    simp only at g1 g2 g3 g4 g5 g6
    subst g1 g2 g3 g4 g5
    have hx:=hlw.set g6 j
    try simp only
    rw[dT (show (j:Int)<(b1.1.length:Int) by omega),Bool.and_self,cnd_t,putL_set _ (by omega)]
    refine ob_post (fun r=>r=some true) (fun(b:Wd×Wd×Wd)=>b.1=b1∧LW b.2.1∧LW b.2.2) ?_ ?_
    · by_cases d:(0:Int)<(b1.2.2.1.length:Int)
      · rw[cnd_T d,wr_s (z:=(b1.2.2.1.length:Int)-1) (by omega) (by omega),dT (show (0:Int)≤(b1.2.2.1.length:Int)-1 by omega),dT (show (b1.2.2.1.length:Int)-1≤(b1.2.2.1.length:Int) by omega),Bool.and_self,cnd_t]
        exact⟨_,rfl,rfl,hx,hlw.said _ (by rw[List.length_drop,List.length_take];omega)⟩
      · rw[cnd_F d]
        exact⟨_,rfl,rfl,hx,hlw⟩
    · rintro⟨a,x,y⟩ ⟨f1,f2,f3⟩
      simp only at f1 f2 f3
      subst f1
      try simp only
      rw[chk N hN a hlw,obind_s,selim_l,chk N hN x f2,obind_s,selim_l,chk N hN y f3,obind_s,selim_l]
      refine loop_G (N:=N) (fun r=>r=some true) (fun k (v:Int×Wd)=>v.1=(k:Int)-1∧v.2=a∧k≤11) 11 (fun r:PUnit⊕Bool=>r=.inl ()) ⟨rfl,rfl,by omega⟩ (by omega) (fun r h=>by rw[h];rfl) (fun k v h=>h.2.2) ?_
      rintro k ⟨i,w⟩ ⟨q1,q2,q3⟩
      simp only at q1 q2
      subst q1 q2
      by_cases ck:k<11
      · left
        try simp only
        rw[cnd_T (show (k:Int)-1<10 by omega)]
        refine ob_post (fun(r:Option ((Int×Wd)⊕(PUnit⊕Bool)))=>∃y,r=some (.inl y)∧y.1=((k+1:Nat):Int)-1∧y.2=w∧k+1≤11) (fun(z:Int×Wd)=>z.2=w) ?_ ?_
        · by_cases d:(k:Int)-1<0
          · rw[cnd_T d];exact⟨_,rfl,rfl⟩
          · rw[cnd_F d];exact⟨_,rfl,rfl⟩
        · rintro⟨i,w'⟩ q4
          simp only at q4
          subst q4
          obtain⟨g,e1,e2,e3⟩:=Lacks_same N hN hw i
          try simp only
          rw[e1,obind_s,e2,obind_s,SameSp_self N g (by omega) e3,obind_s,Bool.not_true,cnd_f,wr_m (by omega) (by omega)]
          exact⟨_,rfl,by simp only;omega,rfl,by omega⟩
      · right
        try simp only
        rw[cnd_F (show ¬(k:Int)-1<10 by omega)]
        exact⟨_,rfl,rfl⟩
def NN:Nat:=200000000
theorem begun_all:W_a9 NN ()=some true:=by decide +kernel
theorem law_true (y0:List Int) (y1:List Int) (y2:Int) (y3:Int) (y4:Int) (y5:Int) (h0:Twf (.list (.int .u8)) y0) (h1:Twf (.list (.int .u8)) y1) (h2:Twf (.int .u8) y2) (h3:Twf (.int .u8) y3) (h4:Twf (.int .u8) y4) (h5:Twf (.int .i64) y5):W_bd NN (y0,y1,y2,y3,y4,y5)=some true:=
  law_aux NN (Nat.le_refl _) begun_all y0 y1 y2 y3 y4 y5 h0.2 h1.2 h2 h3 h4

theorem spec (y0:List Int) (y1:List Int) (y2:Int) (y3:Int) (y4:Int) (y5:Int) (h0:Twf (.list (.int .u8)) y0) (h1:Twf (.list (.int .u8)) y1) (h2:Twf (.int .u8) y2) (h3:Twf (.int .u8) y3) (h4:Twf (.int .u8) y4) (h5:Twf (.int .i64) y5):Spec2 P0 4 [valW (.list (.int .u8)) y0,valW (.list (.int .u8)) y1,valW (.int .u8) y2,valW (.int .u8) y3,valW (.int .u8) y4,valW (.int .i64) y5] [] (.bs true) [] []:=(con_bd_ok NN).2 (y0,y1,y2,y3,y4,y5) true (law_true y0 y1 y2 y3 y4 y5 h0 h1 h2 h3 h4 h5)
theorem lifted (os:Os) (started:os.Started) (H:Type) (enc:TypeId×Value→H):
    ReturnsInHanded {} Tryz.checked os 4 .any (Rows.truthAllSpec.pre6 enc Tryz.prog Tryz.f4 Rows.truthAllRow.domain false) (Rows.truthAllSpec.post enc Tryz.prog Tryz.f4 false true false false):=by
  refine returnsInHanded_of_change (C:=Tryz.checked) own started (by kernel_rfl) Tryz.func4
    (ChangeSpec.witness6 (enc:=enc) (C:=Tryz.checked) false ⟨#[],#[.slice none 0 0,.slice none 0 0,.int .u8 0,.int .u8 0,.int .u8 0,.int .i64 0],[]⟩ 8 (by kernel_rfl) (by kernel_rfl) (by kernel_rfl) (by kernel_rfl)) ?_
  intro W base args ds gs before hval0 hW hcnd _
  have hval:∀(j:Nat) t v,Tryz.f4.params[j]? = some t→args[j]? = some v→Value.okWide Tryz.prog W .any base t v:=hval0
  have hW':=hW
  obtain⟨p,q,hA0,hV,rfl,hfz,hnd⟩:=hW
  have hA:DataW.TrodAll enc Tryz.prog W 0 (fun _=>true) true Tryz.f4.params.toList args.toList ds p:=hA0
  rw[Tryz.params4] at hA hval
  obtain⟨v0,vs0,d0,ds0,p0,q0,hargs,rfl,rfl,h0,r0⟩:=trodAll_cons hA
  obtain⟨v1,vs1,d1,ds1,p1,q1,rfl,rfl,rfl,h1,r1⟩:=trodAll_cons r0
  obtain⟨v2,vs2,d2,ds2,p2,q2,rfl,rfl,rfl,h2,r2⟩:=trodAll_cons r1
  obtain⟨v3,vs3,d3,ds3,p3,q3,rfl,rfl,rfl,h3,r3⟩:=trodAll_cons r2
  obtain⟨v4,vs4,d4,ds4,p4,q4,rfl,rfl,rfl,h4,r4⟩:=trodAll_cons r3
  obtain⟨v5,vs5,d5,ds5,p5,q5,rfl,rfl,rfl,h5,r5⟩:=trodAll_cons r4
  obtain⟨rfl,rfl,rfl⟩:=trodAll_nil r5
  obtain rfl:args=#[v0,v1,v2,v3,v4,v5]:=by cases args;simp_all
  obtain⟨rfl,rfl⟩:=trodVars_none hV
  have k0:=h0
  have lt0:∀x∈p0,x.block<W.heap.size:=by obtain⟨m,hm⟩:=k0;exact DataW.trod_lt m _ _ _ hm
  obtain⟨y0,rp0,wf0⟩:=arg_ok (n:=12) (ty:=(.list (.int .u8))) (by kernel_rfl) (hval 0 _ v0 rfl rfl) h0
  have k1:=h1
  have lt1:∀x∈p1,x.block<W.heap.size:=by obtain⟨m,hm⟩:=k1;exact DataW.trod_lt m _ _ _ hm
  obtain⟨y1,rp1,wf1⟩:=arg_ok (n:=12) (ty:=(.list (.int .u8))) (by kernel_rfl) (hval 1 _ v1 rfl rfl) h1
  have k2:=h2
  have lt2:∀x∈p2,x.block<W.heap.size:=by obtain⟨m,hm⟩:=k2;exact DataW.trod_lt m _ _ _ hm
  obtain⟨y2,rp2,wf2⟩:=arg_ok (n:=12) (ty:=(.int .u8)) (by kernel_rfl) (hval 2 _ v2 rfl rfl) h2
  have k3:=h3
  have lt3:∀x∈p3,x.block<W.heap.size:=by obtain⟨m,hm⟩:=k3;exact DataW.trod_lt m _ _ _ hm
  obtain⟨y3,rp3,wf3⟩:=arg_ok (n:=12) (ty:=(.int .u8)) (by kernel_rfl) (hval 3 _ v3 rfl rfl) h3
  have k4:=h4
  have lt4:∀x∈p4,x.block<W.heap.size:=by obtain⟨m,hm⟩:=k4;exact DataW.trod_lt m _ _ _ hm
  obtain⟨y4,rp4,wf4⟩:=arg_ok (n:=12) (ty:=(.int .u8)) (by kernel_rfl) (hval 4 _ v4 rfl rfl) h4
  have k5:=h5
  have lt5:∀x∈p5,x.block<W.heap.size:=by obtain⟨m,hm⟩:=k5;exact DataW.trod_lt m _ _ _ hm
  obtain⟨y5,rp5,wf5⟩:=arg_ok (n:=12) (ty:=(.int .i64)) (by kernel_rfl) (hval 5 _ v5 rfl rfl) h5
  clear hA0 hval0
  refine(law_of2 (spec y0 y1 y2 y3 y4 y5 wf0 wf1 wf2 wf3 wf4 wf5) W #[v0,v1,v2,v3,v4,v5] (.cons rp0 (.cons rp1 (.cons rp2 (.cons rp3 (.cons rp4 (.cons rp5 .nil))))))).mono fun e W' ⟨he,bel⟩=>?_
  subst he
  exact⟨_,rfl,_,_,_,[],_,[],hW',trodAll_mk1 (shut_bool Tryz.underlying4 _),(trodAll_cons_mk (Below.trod laidOut (by kernel_rfl) (of_decide_eq_true (by kernel_rfl)) k0 bel lt0) (trodAll_cons_mk (Below.trod laidOut (by kernel_rfl) (of_decide_eq_true (by kernel_rfl)) k1 bel lt1) (trodAll_cons_mk (Below.trod laidOut (by kernel_rfl) (of_decide_eq_true (by kernel_rfl)) k2 bel lt2) (trodAll_cons_mk (Below.trod laidOut (by kernel_rfl) (of_decide_eq_true (by kernel_rfl)) k3 bel lt3) (trodAll_cons_mk (Below.trod laidOut (by kernel_rfl) (of_decide_eq_true (by kernel_rfl)) k4 bel lt4) (trodAll_cons_mk (Below.trod laidOut (by kernel_rfl) (of_decide_eq_true (by kernel_rfl)) k5 bel lt5) trodAll_mk0)))))),rfl,bel.frame _,fun h=>by cases h⟩

theorem over:Rows.truthAllRow.holds Tryz.pinned (OpenSpec.ofChange Rows.truthAllSpec):=
  OpenClaim.holds_of_wide 4 Tryz.f4 rfl rfl rfl rfl rfl rfl rfl ⟨rfl,rfl,rfl,rfl,rfl⟩ rfl rfl rfl rfl rfl (by kernel_rfl) Tryz.func4 (by kernel_rfl)
    (of_decide_eq_true (by kernel_rfl)) (by unfold Func.isWrapper;first | (rw[if_pos (by decide +kernel)];kernel_rfl) | (rw[if_neg (by decide +kernel)];exact⟨rfl,rfl⟩))
    (fun os started H enc _=>lifted os started H enc)

theorem holds:Rows.TruthAllSaid:=over
end
end Go.Proofs.YtigfokfefnomjaaGreat.truthAllX
