/- NodeServes: for all arguments the call returns true. The law is brought to a function of Lean's own (W_..) by the machine of the texts beside it, and that is reckoned; no condition. -/
import Derived.Test.YtgpgmncgbebgdaaGreatNodeServesP0
namespace Go.Proofs.YtgpgmncgbebgdaaGreat.nodeServesX
open Go.Abs Go.RowKit Go.ChangeShapes Go.WideShapes Go.ChangeAt
set_option maxRecDepth 100000
set_option linter.unusedVariables false
set_option linter.unusedSimpArgs false
noncomputable section
theorem srv_ok {n:Nd} {m:Ms} (h1:1≤m.2.2.2.2.2.2.2.1) (h2:m.2.2.2.2.2.2.2.1≤m.2.2.2.2.2.2.2.2.1) (h3:m.2.2.2.2.2.2.2.1≤1000):∀e∈srvM n m,AnsOk n m.2.1 m.2.2.2.2.2.2.2.1 m.2.2.2.2.2.2.2.2.1 e:=by
  intro e he
  unfold srvM at he
  simp only at he
  split at he
  · rename_i q
    obtain⟨q1,q2,q3⟩:=q
    rcases List.mem_append.1 he with he | he
    · obtain⟨i,hi,rfl⟩:=List.mem_map.1 he
      obtain⟨a1,a2,a3⟩:=itF_mem _ _ _ i hi
      have hc:i.1≤min (min m.2.2.2.2.2.2.2.2.1 (n.2.2.2.2.1.1-1)) (m.2.2.2.2.2.2.2.1+7):=by unfold cnt at a2;omega
      refine⟨rfl,.inl rfl,a1,by show i.1≤_;omega,by show (0:Int)≤_;omega,by show i.1<_;omega,by show (0:Int)<_;omega,?_⟩
      show ((getF n.2.2.2.2.1.2.2.1 i.1).2&&((getF n.2.2.2.2.1.2.2.1 i.1).1==i.2))=true
      rw[a3];simp
    · obtain⟨s,hs,rfl⟩:=List.mem_map.1 he
      obtain⟨a1,a2,a3⟩:=noF_sub _ _ _ s hs
      have a4:=(noF_ok (R:=n.2.2.2.2.1.2.2.1) h1 (cnt n.2.2.2.2.1 m.2.2.2.2.2.2.2.1 m.2.2.2.2.2.2.2.2.1) (.inr (by have:=cnt_le n.2.2.2.2.1 m.2.2.2.2.2.2.2.1 m.2.2.2.2.2.2.2.2.1;omega))).1.1 s hs
      have h12:=a4.2.1
      have hc:s.2≤min (min m.2.2.2.2.2.2.2.2.1 (n.2.2.2.2.1.1-1)) (m.2.2.2.2.2.2.2.1+7):=by unfold cnt at a2;omega
      refine⟨rfl,.inr rfl,a1,by show s.1≤_;omega,by show s.2≤_;omega,by show s.1<_;omega,by show s.2<_;omega,?_⟩
      show ((getF n.2.2.2.2.1.2.2.1 s.1).2&&((getF n.2.2.2.2.1.2.2.1 s.1).1==[]))=decide ((9:Int)=7)
      rw[a3 s.1 (Int.le_refl _) h12];simp
  · simp at he
theorem srv_some {n:Nd} {m:Ms} (h1:1≤m.2.2.2.2.2.2.2.1) (h2:m.2.2.2.2.2.2.2.1≤m.2.2.2.2.2.2.2.2.1) (h3:m.2.2.2.2.2.2.2.1≤1000) (hk:(findK n.2.2.2.1.2.2.2.2.2.2.2.2.2.2.2.2 m.2.1).1=true∧(findK n.2.2.2.1.2.2.2.2.2.2.2.2.2.2.2.2 m.2.1).2.2.1=m.2.2.2.1) (hl:(srvM n m).length=0):n.2.2.2.2.1.1≤m.2.2.2.2.2.2.2.1:=by
  by_cases c:1≤n.2.2.2.2.1.1
  case neg=>omega
  by_cases c2:n.2.2.2.2.1.1≤m.2.2.2.2.2.2.2.1
  · exact c2
  exfalso
  unfold srvM at hl
  simp only at hl
  rw[if_pos ⟨hk.1,hk.2,c⟩] at hl
  simp only[List.length_append,List.length_map] at hl
  obtain⟨C,hC⟩:∃C,cnt n.2.2.2.2.1 m.2.2.2.2.2.2.2.1 m.2.2.2.2.2.2.2.2.1=C:=⟨_,rfl⟩
  rw[hC] at hl
  have hC1:1≤C:=by unfold cnt at hC;omega
  have hC8:C≤8:=by have:=cnt_le n.2.2.2.2.1 m.2.2.2.2.2.2.2.1 m.2.2.2.2.2.2.2.2.1;omega
  cases hg:(getF n.2.2.2.2.1.2.2.1 m.2.2.2.2.2.2.2.1).2 with
  | true=>
    obtain⟨x,hx,_⟩:=itF_has _ m.2.2.2.2.2.2.2.1 C _ (Int.le_refl _) (by omega) hg
    have:=List.length_pos_of_mem hx
    omega
  | false=>
    obtain⟨x,hx,_⟩:=noF_cov _ m.2.2.2.2.2.2.2.1 h1 C _ (.inr (by omega)) (Int.le_refl _) (by omega) hg
    have:=List.length_pos_of_mem hx
    omega
theorem law_aux (N:Nat) (hN:2000≤N) (hbeg:W_bc N ()=some true) (l:List Int) (hel:∀x∈l,0≤x∧x≤255) (by_ a b who:Int) (h1:0≤by_∧by_≤255) (h2:0≤a∧a≤255) (h3:0≤b∧b≤255) (h4:0≤who∧who≤255):W_bN N (l,by_,a,b,who)=some true:=by
  unfold W_bN V_bN
  try simp only
  rw[hbeg,obind_s,Bool.not_true,cnd_f]
  by_cases c1:(150:Int)<l.length
  · rw[cnd_T c1]
  rw[cnd_F c1]
  have t1:=Int.tmod_nonneg 8 h4.1
  have t2:=Int.tmod_lt_of_pos who (show (0:Int)<8 by omega)
  have t3:=Int.tmod_nonneg 8 h1.1
  have t4:=Int.tmod_lt_of_pos by_ (show (0:Int)<8 by omega)
  have t5:=Int.tmod_nonneg 12 h2.1
  have t6:=Int.tmod_lt_of_pos a (show (0:Int)<12 by omega)
  have t7:=Int.tmod_nonneg 12 h3.1
  have t8:=Int.tmod_lt_of_pos b (show (0:Int)<12 by omega)
  rw[wr_m (z:=Int.tmod who 8) (by omega) (by omega),wr_m (z:=1+Int.tmod who 8) (by omega) (by omega),wr_m (z:=Int.tmod by_ 8) (by omega) (by omega),wr_m (z:=1+Int.tmod by_ 8) (by omega) (by omega),wr_m (z:=Int.tmod a 12) (by omega) (by omega),wr_m (z:=1+Int.tmod a 12) (by omega) (by omega),wr_m (z:=Int.tmod b 12) (by omega) (by omega),wr_m (z:=1+Int.tmod a 12+Int.tmod b 12) (by omega) (by omega),wr_m (z:=by_) (by omega) (by omega)]
  obtain⟨id,hid⟩:∃id:Int,id=1+Int.tmod who 8:=⟨_,rfl⟩
  obtain⟨fr,hfr⟩:∃fr:Int,fr=1+Int.tmod by_ 8:=⟨_,rfl⟩
  obtain⟨lo,hlo⟩:∃lo:Int,lo=1+Int.tmod a 12:=⟨_,rfl⟩
  obtain⟨hi,hhi⟩:∃hi:Int,hi=1+Int.tmod a 12+Int.tmod b 12:=⟨_,rfl⟩
  rw[←hid,←hfr,←hhi,←hlo]
  have i1:1≤id∧id≤8:=by omega
  have i2:1≤fr∧fr≤8:=by omega
  have i3:1≤lo∧lo≤12:=by omega
  have i4:lo≤hi∧hi≤23:=by omega
  obtain⟨n,en,hn⟩:=Pair_spec N hN l (by omega) hel id i1
  rw[en,obind_s]
  by_cases c2:fr=id
  · rw[cnd_T c2]
  rw[cnd_F c2]
  have hb:=hn.tb
  have hkw:=hb.kw
  have hkl:=hb.kl
  obtain⟨T,hT,eT⟩:=hn.t
  have hTid:n.2.2.2.1.1=id:=by rw[eT];exact hT.w.i
  have hkids:n.2.2.2.1.2.2.2.2.2.2.2.2.2.2.2.2=kidsT T:=by rw[eT];rfl
  have bb:∀(k L:Nat),k<L→(decide ((0:Int)≤(k:Int))&&decide ((k:Int)<(L:Int)))=true:=fun k L h=>by rw[dT (show (0:Int)≤(k:Int) by omega),dT (show (k:Int)<(L:Int) by omega)];rfl
  refine ob_q (fun v:Nd×Ms=>∃F I,v=(n,((8,F,id,I,0,0,[],lo,hi,[]):Ms))∧(1≤F∧F≤8)∧F≠id∧1≤I∧I≤1073741824) ?_ ?_
  · by_cases q1:64≤by_
    · rw[cnd_T q1]
      by_cases q2:(0:Int)<(n.2.2.2.1.2.2.2.2.2.2.2.2.2.2.2.2.length:Int)
      · have hpos:0<n.2.2.2.1.2.2.2.2.2.2.2.2.2.2.2.2.length:=by omega
        have m1:=Int.tmod_nonneg (n.2.2.2.1.2.2.2.2.2.2.2.2.2.2.2.2.length:Int) h1.1
        have m2:=Int.tmod_lt_of_pos by_ q2
        have hlt:(Int.tmod by_ (n.2.2.2.1.2.2.2.2.2.2.2.2.2.2.2.2.length:Int)).toNat<n.2.2.2.1.2.2.2.2.2.2.2.2.2.2.2.2.length:=by omega
        rw[cnd_T q2,dF (show ¬(n.2.2.2.1.2.2.2.2.2.2.2.2.2.2.2.2.length:Int)=0 by omega),Bool.not_false,cnd_t,dT m1,dT m2,Bool.and_self,cnd_t]
        have hm:=getD_memK hlt
        have hk:∀k∈n.2.2.2.1.2.2.2.2.2.2.2.2.2.2.2.2,k.1≠id∧(1≤k.2.1∧k.2.1≤1073741824)∧0≤k.2.2∧k.2.2≤100:=by rw[hkids];exact hT.w.k
        have hk:=hk _ hm
        have hr:=hkw.mem _ hm
        exact⟨_,rfl,_,_,rfl,hr,hk.1,hk.2.1⟩
      · rw[cnd_F q2]
        exact⟨_,rfl,_,_,rfl,i2,c2,by omega,by omega⟩
    · rw[cnd_F q1]
      exact⟨_,rfl,_,_,rfl,i2,c2,by omega,by omega⟩
  · rintro v ⟨F,I,rfl,hF,hFi,hI1,hI2⟩
    try simp only
    by_cases q:F=n.2.2.2.1.2.2.2.1
    · rw[cnd_T q]
    rw[cnd_F q]
    obtain⟨m,em⟩:∃m:Ms,m=(8,F,id,I,0,0,[],lo,hi,[]):=⟨_,rfl⟩
    have f1:m.1=8:=by rw[em]
    have f2:m.2.1=F:=by rw[em]
    have f3:m.2.2.1=id:=by rw[em]
    have f4:m.2.2.2.1=I:=by rw[em]
    have f5:m.2.2.2.2.2.2.1=[]:=by rw[em]
    have f6:m.2.2.2.2.2.2.2.1=lo:=by rw[em]
    have f7:m.2.2.2.2.2.2.2.2.1=hi:=by rw[em]
    have hMay:MayP m:=by
      subst em
      refine⟨⟨by simp only;omega,by simp only;omega⟩,hF,i1,hFi,⟨hI1,hI2⟩,?_,?_⟩
      · unfold ownF
        rw[if_neg (by simp only;omega),if_neg (by simp only;omega),if_neg (by simp only;omega),if_pos (.inl rfl)]
      · unfold Fits
        rw[if_neg (by simp only;omega),if_neg (by simp only;omega),if_pos (.inl rfl)]
        exact⟨⟨by simp only;omega,by simp only;omega⟩,by simp only;omega⟩
    rw[←em]
    obtain⟨e1,e2⟩:=put_take N hN hMay (by rw[f5];simp)
    have hnx:=hn.next
    have hl:=hn.lens
    rw[e1,obind_s,comes_nak N hN hn f1 (by rw[f2];exact q) e2 (by rw[f3,hTid]) (by rw[f6];omega) (by rw[f6];omega) (by omega) hnx.1,obind_s]
    try simp only
    rw[sameN_of N hN n hb (by omega) (by omega) (by omega),obind_s,Bool.not_true,cnd_f]
    have hlen:(srvM n m).length≤16:=by
      unfold srvM
      try simp only
      split
      · have a1:=itF_len n.2.2.2.2.1.2.2.1 m.2.2.2.2.2.2.2.1 (cnt n.2.2.2.2.1 m.2.2.2.2.2.2.2.1 m.2.2.2.2.2.2.2.2.1)
        have a2:=noF_len n.2.2.2.2.1.2.2.1 m.2.2.2.2.2.2.2.1 (cnt n.2.2.2.2.1 m.2.2.2.2.2.2.2.1 m.2.2.2.2.2.2.2.2.1)
        have a3:=cnt_le n.2.2.2.2.1 m.2.2.2.2.2.2.2.1 m.2.2.2.2.2.2.2.2.1
        simp only[List.length_append,List.length_map];omega
      · simp
    have hans:=srv_ok (n:=n) (m:=m) (by omega) (by omega) (by omega)
    rw[f2,f6,f7] at hans
    have hsome:=srv_some (n:=n) (m:=m) (by omega) (by omega) (by omega)
    rw[f2,f4,f6] at hsome
    have hnone:((findK n.2.2.2.1.2.2.2.2.2.2.2.2.2.2.2.2 F).1&&decide ((findK n.2.2.2.1.2.2.2.2.2.2.2.2.2.2.2.2 F).2.2.1=I))=false→srvM n m=[]:=fun h=>by
      unfold srvM
      try simp only
      rw[f2,f4,if_neg]
      rintro⟨r1,r2,_⟩
      rw[r1,r2] at h
      simp at h
    obtain⟨L,hL⟩:∃L,srvM n m=L:=⟨_,rfl⟩
    rw[hL] at hans hsome hlen hnone ⊢
    refine loop_G (σ:=Bool×Int×Nd×Ms) (ρ:=Bool×Nd×Ms) (β:=Bool) (·=some true) (fun k v=>v=((n.2.2.2.1.2.2.2.2.2.2.2.2.2.2.2.2.take k).any (fun w=>decide (w.1=F)&&decide (w.2.1=I)),(k:Int),n,m)∧k≤n.2.2.2.1.2.2.2.2.2.2.2.2.2.2.2.2.length) n.2.2.2.1.2.2.2.2.2.2.2.2.2.2.2.2.length
      (fun r=>r=(n.2.2.2.1.2.2.2.2.2.2.2.2.2.2.2.2.any (fun w=>decide (w.1=F)&&decide (w.2.1=I)),n,m)) ⟨rfl,by omega⟩ (by omega) ?_ (fun k v h=>h.2) ?_
    · rintro r rfl
      rw[any_findK F I hkw]
      try simp only
      cases hq:((findK n.2.2.2.1.2.2.2.2.2.2.2.2.2.2.2.2 F).1&&decide ((findK n.2.2.2.1.2.2.2.2.2.2.2.2.2.2.2.2 F).2.2.1=I)) with
      | false=>
        rw[Bool.not_false,cnd_t,hnone hq]
        rfl
      | true=>
        rw[Bool.not_true,cnd_f]
        simp only[Bool.and_eq_true,decide_eq_true_eq] at hq
        have hs:=hsome hq
        refine loop_G (σ:=Int×Nd×Ms) (ρ:=(Nd×Ms)⊕Bool) (β:=Bool) (·=some true) (fun k v=>v=((k:Int),n,m)∧k≤L.length) L.length (fun r=>r=.inl (n,m)) ⟨rfl,by omega⟩ (by omega) ?_ (fun k v h=>h.2) ?_
        · rintro r rfl
          simp only[selim]
          by_cases z:(0:Int)<(L.length:Int)
          · rw[cnd_T z]
          · rw[cnd_F z,f6,dT (hs (by omega))]
        · rintro k v ⟨rfl,hk⟩
          try simp only
          by_cases z:k<L.length
          case neg=>
            right
            rw[cnd_F (show ¬(k:Int)<(L.length:Int) by omega)]
            exact⟨_,rfl,rfl⟩
          left
          have he:AnsOk n F lo hi (L.getD k ((0:Int),(0:Int),(0:Int),(0:Int),(0:Int),(0:Int),[],(0:Int),(0:Int),[])):=by
            rw[List.getD_eq_getElem?_getD,List.getElem?_eq_getElem z]
            exact hans _ (List.getElem_mem z)
          have hbb:=bb k L.length z
          simp only[hbb,cnd_t,Int.toNat_natCast]
          rw[cnd_T (show (k:Int)<(L.length:Int) by omega),wr_m (z:=(k:Int)+1) (by omega) (by omega),f2,f6,f7]
          obtain⟨g1,g2,g3,g4,g5,g6,g7,g8⟩:=he
          rw[cnd_F (fun z=>z g1)]
          have hwk:∃a b,Wk a b n.2.2.2.2.1.2.2.1:=by
            rcases hn.f with ez | ⟨c,hF,_,_,h1,hc⟩
            · rw[ez];exact⟨0,0,trivial⟩
            · exact⟨_,_,(hF.p h1).rk⟩
          obtain⟨wa,wb,hwk⟩:=hwk
          have hag:=any_getF (L.getD k ((0:Int),(0:Int),(0:Int),(0:Int),(0:Int),(0:Int),[],(0:Int),(0:Int),[])).2.2.2.2.2.2.2.1 (L.getD k ((0:Int),(0:Int),(0:Int),(0:Int),(0:Int),(0:Int),[],(0:Int),(0:Int),[])).2.2.2.2.2.2.2.2.2 hwk
          rw[g8] at hag
          rcases g2 with h7 | h9
          · rw[cnd_F (show ¬((L.getD k ((0:Int),(0:Int),(0:Int),(0:Int),(0:Int),(0:Int),[],(0:Int),(0:Int),[])).1≠7) from fun z=>z h7)]
            rw[cnd_F (show ¬((L.getD k ((0:Int),(0:Int),(0:Int),(0:Int),(0:Int),(0:Int),[],(0:Int),(0:Int),[])).2.2.2.2.2.2.2.1<lo) by omega),cnd_F (show ¬(hi<(L.getD k ((0:Int),(0:Int),(0:Int),(0:Int),(0:Int),(0:Int),[],(0:Int),(0:Int),[])).2.2.2.2.2.2.2.1) by omega),cnd_F (show ¬(hi<(L.getD k ((0:Int),(0:Int),(0:Int),(0:Int),(0:Int),(0:Int),[],(0:Int),(0:Int),[])).2.2.2.2.2.2.2.2.1) by omega),cnd_F (show ¬(n.2.2.2.2.1.1≤(L.getD k ((0:Int),(0:Int),(0:Int),(0:Int),(0:Int),(0:Int),[],(0:Int),(0:Int),[])).2.2.2.2.2.2.2.1) by omega),cnd_F (show ¬(max n.2.2.2.2.1.1 1≤(L.getD k ((0:Int),(0:Int),(0:Int),(0:Int),(0:Int),(0:Int),[],(0:Int),(0:Int),[])).2.2.2.2.2.2.2.2.1) by omega)]
            refine loop_G (σ:=Bool×Int×Nd×Ms) (ρ:=Bool×Nd×Ms) (β:=(Int×Nd×Ms)⊕((Nd×Ms)⊕Bool)) (fun o=>∃y,o=some (.inl y)∧y=(((k+1:Nat):Int),n,m)∧k+1≤L.length) (fun j v=>v=((n.2.2.2.2.1.2.2.1.take j).any (fun w=>decide (w.1=(L.getD k ((0:Int),(0:Int),(0:Int),(0:Int),(0:Int),(0:Int),[],(0:Int),(0:Int),[])).2.2.2.2.2.2.2.1)&&(w.2==(L.getD k ((0:Int),(0:Int),(0:Int),(0:Int),(0:Int),(0:Int),[],(0:Int),(0:Int),[])).2.2.2.2.2.2.2.2.2)),(j:Int),n,m)∧j≤n.2.2.2.2.1.2.2.1.length) n.2.2.2.2.1.2.2.1.length
              (fun r=>r=(decide ((L.getD k ((0:Int),(0:Int),(0:Int),(0:Int),(0:Int),(0:Int),[],(0:Int),(0:Int),[])).1=7),n,m)) ⟨rfl,by omega⟩ (by omega) ?_ (fun k v h=>h.2) ?_
            · rintro r rfl
              simp only[beq_self_eq_true,Bool.not_true,cnd_f]
              exact⟨_,rfl,rfl,by omega⟩
            · rintro j v ⟨rfl,hj⟩
              try simp only
              by_cases zj:j<n.2.2.2.2.1.2.2.1.length
              · left
                have ht:=any_take (fun w:It=>decide (w.1=(L.getD k ((0:Int),(0:Int),(0:Int),(0:Int),(0:Int),(0:Int),[],(0:Int),(0:Int),[])).2.2.2.2.2.2.2.1)&&(w.2==(L.getD k ((0:Int),(0:Int),(0:Int),(0:Int),(0:Int),(0:Int),[],(0:Int),(0:Int),[])).2.2.2.2.2.2.2.2.2)) iD n.2.2.2.2.1.2.2.1 j zj
                rw[cnd_T (show (j:Int)<(n.2.2.2.2.1.2.2.1.length:Int) by omega),bb _ _ zj,Int.toNat_natCast,wr_m (z:=(j:Int)+1) (by omega) (by omega)]
                cases hb1:(n.2.2.2.2.1.2.2.1.take j).any (fun w=>decide (w.1=(L.getD k ((0:Int),(0:Int),(0:Int),(0:Int),(0:Int),(0:Int),[],(0:Int),(0:Int),[])).2.2.2.2.2.2.2.1)&&(w.2==(L.getD k ((0:Int),(0:Int),(0:Int),(0:Int),(0:Int),(0:Int),[],(0:Int),(0:Int),[])).2.2.2.2.2.2.2.2.2)) with
                | true=>
                  rw[cnd_t]
                  rw[hb1] at ht
                  exact⟨_,rfl,by rw[ht];simp,by omega⟩
                | false=>
                  rw[hb1] at ht
                  rw[cnd_f]
                  simp only[cnd_t]
                  by_cases z1:(n.2.2.2.2.1.2.2.1.getD j iD).1=(L.getD k ((0:Int),(0:Int),(0:Int),(0:Int),(0:Int),(0:Int),[],(0:Int),(0:Int),[])).2.2.2.2.2.2.2.1
                  · rw[cnd_T z1]
                    exact⟨_,rfl,by rw[ht,z1];simp,by omega⟩
                  · rw[cnd_F z1]
                    exact⟨_,rfl,by rw[ht,dF z1];simp,by omega⟩
              · right
                rw[cnd_F (show ¬(j:Int)<(n.2.2.2.2.1.2.2.1.length:Int) by omega)]
                exact⟨_,rfl,by rw[List.take_of_length_le (by omega),hag]⟩
          · rw[cnd_T (show (L.getD k ((0:Int),(0:Int),(0:Int),(0:Int),(0:Int),(0:Int),[],(0:Int),(0:Int),[])).1≠7 by omega),cnd_F (show ¬((L.getD k ((0:Int),(0:Int),(0:Int),(0:Int),(0:Int),(0:Int),[],(0:Int),(0:Int),[])).1≠9) from fun z=>z h9)]
            rw[cnd_F (show ¬((L.getD k ((0:Int),(0:Int),(0:Int),(0:Int),(0:Int),(0:Int),[],(0:Int),(0:Int),[])).2.2.2.2.2.2.2.1<lo) by omega),cnd_F (show ¬(hi<(L.getD k ((0:Int),(0:Int),(0:Int),(0:Int),(0:Int),(0:Int),[],(0:Int),(0:Int),[])).2.2.2.2.2.2.2.1) by omega),cnd_F (show ¬(hi<(L.getD k ((0:Int),(0:Int),(0:Int),(0:Int),(0:Int),(0:Int),[],(0:Int),(0:Int),[])).2.2.2.2.2.2.2.2.1) by omega),cnd_F (show ¬(n.2.2.2.2.1.1≤(L.getD k ((0:Int),(0:Int),(0:Int),(0:Int),(0:Int),(0:Int),[],(0:Int),(0:Int),[])).2.2.2.2.2.2.2.1) by omega),cnd_F (show ¬(max n.2.2.2.2.1.1 1≤(L.getD k ((0:Int),(0:Int),(0:Int),(0:Int),(0:Int),(0:Int),[],(0:Int),(0:Int),[])).2.2.2.2.2.2.2.2.1) by omega)]
            refine loop_G (σ:=Bool×Int×Nd×Ms) (ρ:=Bool×Nd×Ms) (β:=(Int×Nd×Ms)⊕((Nd×Ms)⊕Bool)) (fun o=>∃y,o=some (.inl y)∧y=(((k+1:Nat):Int),n,m)∧k+1≤L.length) (fun j v=>v=((n.2.2.2.2.1.2.2.1.take j).any (fun w=>decide (w.1=(L.getD k ((0:Int),(0:Int),(0:Int),(0:Int),(0:Int),(0:Int),[],(0:Int),(0:Int),[])).2.2.2.2.2.2.2.1)&&(w.2==(L.getD k ((0:Int),(0:Int),(0:Int),(0:Int),(0:Int),(0:Int),[],(0:Int),(0:Int),[])).2.2.2.2.2.2.2.2.2)),(j:Int),n,m)∧j≤n.2.2.2.2.1.2.2.1.length) n.2.2.2.2.1.2.2.1.length
              (fun r=>r=(decide ((L.getD k ((0:Int),(0:Int),(0:Int),(0:Int),(0:Int),(0:Int),[],(0:Int),(0:Int),[])).1=7),n,m)) ⟨rfl,by omega⟩ (by omega) ?_ (fun k v h=>h.2) ?_
            · rintro r rfl
              simp only[beq_self_eq_true,Bool.not_true,cnd_f]
              exact⟨_,rfl,rfl,by omega⟩
            · rintro j v ⟨rfl,hj⟩
              try simp only
              by_cases zj:j<n.2.2.2.2.1.2.2.1.length
              · left
                have ht:=any_take (fun w:It=>decide (w.1=(L.getD k ((0:Int),(0:Int),(0:Int),(0:Int),(0:Int),(0:Int),[],(0:Int),(0:Int),[])).2.2.2.2.2.2.2.1)&&(w.2==(L.getD k ((0:Int),(0:Int),(0:Int),(0:Int),(0:Int),(0:Int),[],(0:Int),(0:Int),[])).2.2.2.2.2.2.2.2.2)) iD n.2.2.2.2.1.2.2.1 j zj
                rw[cnd_T (show (j:Int)<(n.2.2.2.2.1.2.2.1.length:Int) by omega),bb _ _ zj,Int.toNat_natCast,wr_m (z:=(j:Int)+1) (by omega) (by omega)]
                cases hb1:(n.2.2.2.2.1.2.2.1.take j).any (fun w=>decide (w.1=(L.getD k ((0:Int),(0:Int),(0:Int),(0:Int),(0:Int),(0:Int),[],(0:Int),(0:Int),[])).2.2.2.2.2.2.2.1)&&(w.2==(L.getD k ((0:Int),(0:Int),(0:Int),(0:Int),(0:Int),(0:Int),[],(0:Int),(0:Int),[])).2.2.2.2.2.2.2.2.2)) with
                | true=>
                  rw[cnd_t]
                  rw[hb1] at ht
                  exact⟨_,rfl,by rw[ht];simp,by omega⟩
                | false=>
                  rw[hb1] at ht
                  rw[cnd_f]
                  simp only[cnd_t]
                  by_cases z1:(n.2.2.2.2.1.2.2.1.getD j iD).1=(L.getD k ((0:Int),(0:Int),(0:Int),(0:Int),(0:Int),(0:Int),[],(0:Int),(0:Int),[])).2.2.2.2.2.2.2.1
                  · rw[cnd_T z1]
                    exact⟨_,rfl,by rw[ht,z1];simp,by omega⟩
                  · rw[cnd_F z1]
                    exact⟨_,rfl,by rw[ht,dF z1];simp,by omega⟩
              · right
                rw[cnd_F (show ¬(j:Int)<(n.2.2.2.2.1.2.2.1.length:Int) by omega)]
                exact⟨_,rfl,by rw[List.take_of_length_le (by omega),hag]⟩
    · rintro k v ⟨rfl,hk⟩
      try simp only
      by_cases z:k<n.2.2.2.1.2.2.2.2.2.2.2.2.2.2.2.2.length
      · left
        rw[cnd_T (show (k:Int)<(n.2.2.2.1.2.2.2.2.2.2.2.2.2.2.2.2.length:Int) by omega),bb _ _ z,Int.toNat_natCast,wr_m (z:=(k:Int)+1) (by omega) (by omega),f2,f4]
        have ht:=any_take (fun w:Kd=>decide (w.1=F)&&decide (w.2.1=I)) kD n.2.2.2.1.2.2.2.2.2.2.2.2.2.2.2.2 k z
        cases hb1:(n.2.2.2.1.2.2.2.2.2.2.2.2.2.2.2.2.take k).any (fun w=>decide (w.1=F)&&decide (w.2.1=I)) with
        | true=>
          rw[cnd_t]
          rw[hb1] at ht
          exact⟨_,rfl,by rw[ht];simp,by omega⟩
        | false=>
          rw[hb1] at ht
          rw[cnd_f,cnd_t,cnd_t]
          by_cases z1:(n.2.2.2.1.2.2.2.2.2.2.2.2.2.2.2.2.getD k kD).1=F
          · rw[cnd_T z1]
            exact⟨_,rfl,by rw[ht,z1];simp,by omega⟩
          · rw[cnd_F z1]
            exact⟨_,rfl,by rw[ht,dF z1];simp,by omega⟩
      · right
        rw[cnd_F (show ¬(k:Int)<(n.2.2.2.1.2.2.2.2.2.2.2.2.2.2.2.2.length:Int) by omega)]
        exact⟨_,rfl,by rw[List.take_of_length_le (by omega)]⟩
def NN:Nat:=2000
theorem begun_ok:W_bc NN ()=some true:=by decide +kernel
theorem law_true (y0:List Int) (y1:Int) (y2:Int) (y3:Int) (y4:Int) (h0:Twf (.list (.int .u8)) y0) (h1:Twf (.int .u8) y1) (h2:Twf (.int .u8) y2) (h3:Twf (.int .u8) y3) (h4:Twf (.int .u8) y4):W_bN NN (y0,y1,y2,y3,y4)=some true:=
  law_aux NN (Nat.le_refl _) begun_ok y0 (fun w hw=>h0.2 w hw) y1 y2 y3 y4 h1 h2 h3 h4

theorem spec (y0:List Int) (y1:Int) (y2:Int) (y3:Int) (y4:Int) (h0:Twf (.list (.int .u8)) y0) (h1:Twf (.int .u8) y1) (h2:Twf (.int .u8) y2) (h3:Twf (.int .u8) y3) (h4:Twf (.int .u8) y4):Spec2 P0 8 [valW (.list (.int .u8)) y0,valW (.int .u8) y1,valW (.int .u8) y2,valW (.int .u8) y3,valW (.int .u8) y4] [] (.bs true) [] []:=(con_bN_ok NN).2 (y0,y1,y2,y3,y4) true (law_true y0 y1 y2 y3 y4 h0 h1 h2 h3 h4)
theorem lifted (os:Os) (started:os.Started) (H:Type) (enc:TypeId×Value→H):
    ReturnsInHanded {} Tryz.checked os 8 .any (Rows.nodeServesSpec.pre6 enc Tryz.prog Tryz.f8 Rows.nodeServesRow.domain false) (Rows.nodeServesSpec.post enc Tryz.prog Tryz.f8 false true false false):=by
  refine returnsInHanded_of_change (C:=Tryz.checked) own started (by kernel_rfl) Tryz.func8
    (ChangeSpec.witness6 (enc:=enc) (C:=Tryz.checked) false ⟨#[],#[.slice none 0 0,.int .u8 0,.int .u8 0,.int .u8 0,.int .u8 0],[]⟩ 8 (by kernel_rfl) (by kernel_rfl) (by kernel_rfl) (by kernel_rfl)) ?_
  intro W base args ds gs before hval0 hW hcnd _
  have hval:∀(j:Nat) t v,Tryz.f8.params[j]? = some t→args[j]? = some v→Value.okWide Tryz.prog W .any base t v:=hval0
  have hW':=hW
  obtain⟨p,q,hA0,hV,rfl,hfz,hnd⟩:=hW
  have hA:DataW.TrodAll enc Tryz.prog W 0 (fun _=>true) true Tryz.f8.params.toList args.toList ds p:=hA0
  rw[Tryz.params8] at hA hval
  obtain⟨v0,vs0,d0,ds0,p0,q0,hargs,rfl,rfl,h0,r0⟩:=trodAll_cons hA
  obtain⟨v1,vs1,d1,ds1,p1,q1,rfl,rfl,rfl,h1,r1⟩:=trodAll_cons r0
  obtain⟨v2,vs2,d2,ds2,p2,q2,rfl,rfl,rfl,h2,r2⟩:=trodAll_cons r1
  obtain⟨v3,vs3,d3,ds3,p3,q3,rfl,rfl,rfl,h3,r3⟩:=trodAll_cons r2
  obtain⟨v4,vs4,d4,ds4,p4,q4,rfl,rfl,rfl,h4,r4⟩:=trodAll_cons r3
  obtain⟨rfl,rfl,rfl⟩:=trodAll_nil r4
  obtain rfl:args=#[v0,v1,v2,v3,v4]:=by cases args;simp_all
  obtain⟨rfl,rfl⟩:=trodVars_none hV
  have k0:=h0
  have lt0:∀x∈p0,x.block<W.heap.size:=by obtain⟨m,hm⟩:=k0;exact DataW.trod_lt m _ _ _ hm
  obtain⟨y0,rp0,wf0⟩:=arg_ok (n:=12) (ty:=(.list (.int .u8))) (by kernel_rfl) (hval 0 _ v0 rfl rfl) h0
  have k1:=h1
  have lt1:∀x∈p1,x.block<W.heap.size:=by obtain⟨m,hm⟩:=k1;exact DataW.trod_lt m _ _ _ hm
  obtain⟨y1,rp1,wf1⟩:=arg_ok (n:=12) (ty:=(.int .u8)) (by kernel_rfl) (hval 1 _ v1 rfl rfl) h1
  have k2:=h2
  have lt2:∀x∈p2,x.block<W.heap.size:=by obtain⟨m,hm⟩:=k2;exact DataW.trod_lt m _ _ _ hm
  obtain⟨y2,rp2,wf2⟩:=arg_ok (n:=12) (ty:=(.int .u8)) (by kernel_rfl) (hval 2 _ v2 rfl rfl) h2
  have k3:=h3
  have lt3:∀x∈p3,x.block<W.heap.size:=by obtain⟨m,hm⟩:=k3;exact DataW.trod_lt m _ _ _ hm
  obtain⟨y3,rp3,wf3⟩:=arg_ok (n:=12) (ty:=(.int .u8)) (by kernel_rfl) (hval 3 _ v3 rfl rfl) h3
  have k4:=h4
  have lt4:∀x∈p4,x.block<W.heap.size:=by obtain⟨m,hm⟩:=k4;exact DataW.trod_lt m _ _ _ hm
  obtain⟨y4,rp4,wf4⟩:=arg_ok (n:=12) (ty:=(.int .u8)) (by kernel_rfl) (hval 4 _ v4 rfl rfl) h4
  clear hA0 hval0
  refine(law_of2 (spec y0 y1 y2 y3 y4 wf0 wf1 wf2 wf3 wf4) W #[v0,v1,v2,v3,v4] (.cons rp0 (.cons rp1 (.cons rp2 (.cons rp3 (.cons rp4 .nil)))))).mono fun e W' ⟨he,bel⟩=>?_
  subst he
  exact⟨_,rfl,_,_,_,[],_,[],hW',trodAll_mk1 (shut_bool Tryz.underlying4 _),(trodAll_cons_mk (Below.trod laidOut (by kernel_rfl) (of_decide_eq_true (by kernel_rfl)) k0 bel lt0) (trodAll_cons_mk (Below.trod laidOut (by kernel_rfl) (of_decide_eq_true (by kernel_rfl)) k1 bel lt1) (trodAll_cons_mk (Below.trod laidOut (by kernel_rfl) (of_decide_eq_true (by kernel_rfl)) k2 bel lt2) (trodAll_cons_mk (Below.trod laidOut (by kernel_rfl) (of_decide_eq_true (by kernel_rfl)) k3 bel lt3) (trodAll_cons_mk (Below.trod laidOut (by kernel_rfl) (of_decide_eq_true (by kernel_rfl)) k4 bel lt4) trodAll_mk0))))),rfl,bel.frame _,fun h=>by cases h⟩

theorem over:Rows.nodeServesRow.holds Tryz.pinned (OpenSpec.ofChange Rows.nodeServesSpec):=
  OpenClaim.holds_of_wide 8 Tryz.f8 rfl rfl rfl rfl rfl rfl rfl ⟨rfl,rfl,rfl,rfl,rfl⟩ rfl rfl rfl rfl rfl (by kernel_rfl) Tryz.func8 (by kernel_rfl)
    (of_decide_eq_true (by kernel_rfl)) (by unfold Func.isWrapper;first | (rw[if_pos (by decide +kernel)];kernel_rfl) | (rw[if_neg (by decide +kernel)];exact⟨rfl,rfl⟩))
    (fun os started H enc _=>lifted os started H enc)

theorem holds:Rows.NodeServesSaid:=over
end
end Go.Proofs.YtgpgmncgbebgdaaGreat.nodeServesX
