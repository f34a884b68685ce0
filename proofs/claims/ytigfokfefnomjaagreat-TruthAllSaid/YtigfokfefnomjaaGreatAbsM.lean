/- The operators as the machine runs them; conversions; interfaces, tuples, parts. -/
import Derived.Test.YtigfokfefnomjaaGreatAbsH
namespace Go.Abs
open Go.RowKit
set_option linter.unusedVariables false
set_option linter.unusedSimpArgs false
section
variable {κ : Cx} {ι : Nat → Nat} {st : St} {a : Act} {w : World}
theorem JG {t:TypeId} {cx cy:Value} (h1:∀k n,cx≠.int k n) (h2:∀k n,cx≠.float k n) (h3:∀k n m,cx≠.complex k n m) (h4:∀s,cx≠.string s):
  binOp .eql t cx cy=(do pure (.bool (←Op.equal t cx cy))):=by
 cases cx<;>cases cy<;>first | rfl | grind
theorem JF {t:TypeId} {cx cy:Value} (h1:∀k n,cx≠.int k n) (h2:∀k n,cx≠.float k n) (h3:∀k n m,cx≠.complex k n m) (h4:∀s,cx≠.string s):
  binOp .neq t cx cy=(do pure (.bool (!(←Op.equal t cx cy)))):=by
 cases cx<;>cases cy<;>first | rfl | grind
theorem Z7 (h:RelI κ ι st a w) {op:BinOp} {t:Nat} {ox oy:Operand} {x y v:V} {cx cy:Value} (hrx:Rv st.o ι (Stable κ.D st.o ι w) w x cx) (hry:Rv st.o ι (Stable κ.D st.o ι w) w y cy)
  (hx:aBin κ.P op t ox oy x y=some v):SemOk κ ι st.o w (do eqGuard op t ox oy cx cy;binOp op t cx cy) v none:=by
 have scalar:∀{v:V},(eqGuard op t ox oy cx cy).run κ.P w=.ok () w→(binOp op t cx cy).run κ.P w=.ok (sv v) w∧Kt v=true→SemOk κ ι st.o w (do eqGuard op t ox oy cx cy;binOp op t cx cy) v none:=by
  intro v hg hv
  exact SemOk.same h (by grind[Sem.run_bind,Result.andThen_ok]) (.pure (Vj hv.2))
 unfold aBin at hx
 split at hx
 ·rename_i k m k' n
  have:=hrx.int_;subst this
  have:=hry.int_;subst this
  have hg:=qe (w:=w) (P:=κ.P) (op:=op) (t:=t) (ox:=ox) (oy:=oy) (cx:=.int k m) (cy:=.int k' n) (by simp) (by simp)
  split at hx
  ·split at hx
   ·cases hx
   ·rename_i h0
    injection hx with hx;subst hx
    exact scalar hg ⟨by simp[binOp,Op.shift,h0,sv,wr_eq],rfl⟩
  ·split at hx
   ·cases hx
   ·rename_i h0
    injection hx with hx;subst hx
    exact scalar hg ⟨by simp[binOp,Op.shift,h0,sv],rfl⟩
  grind[Zd]
 ·rename_i s u
  obtain⟨b1,rfl,h1⟩:=hrx.str_
  obtain⟨b2,rfl,h2⟩:=hry.str_
  grind[qe,Zc]
 ·split at hx
  ·cases he:eqNil κ.P t (qD ox||qD oy) x y with
   | none=>simp[he] at hx
   | some b=>
    simp[he] at hx;subst hx
    obtain⟨hg,hq,n1,n2,n3,n4,n5,n6⟩:=vK (op:=.eql) hrx hry he
    refine scalar hg ⟨?_,rfl⟩
    simp_all[JG,sv]
  ·cases he:eqNil κ.P t (qD ox||qD oy) x y with
   | none=>simp[he] at hx
   | some b=>
    simp[he] at hx;subst hx
    obtain⟨hg,hq,n1,n2,n3,n4,n5,n6⟩:=vK (op:=.neq) hrx hry he
    refine scalar hg ⟨?_,rfl⟩
    simp_all[JF,sv]
  ·cases hx
def aUn (op:UnOp) (x:V):Option V:=
 match op,x with
 | .not,.bool b=>some (.bool (!b))
 | .neg,.int k n=>some (.int k (wr k (0-n)))
 | .xor,.int k n=>some (.int k (wr k (BitVec.ofInt k.bits (if k.signed then -1 else k.max) ^^^ BitVec.ofInt k.bits n).toNat))
 | _,_=>none
theorem Vg (h:RelI κ ι st a w) {op:UnOp} {x v:V} {cx:Value} (hr:Rv st.o ι (Stable κ.D st.o ι w) w x cx) (hx:aUn op x=some v):SemOk κ ι st.o w (Op.unary op cx) v none:=by
 unfold aUn at hx
 split at hx
 ·rename_i b
  injection hx with hx;subst hx
  rw[hr.bool_]
  exact SemOk.same h (cv:=.bool (!b)) (by simp[Op.unary]) (.pure (.bool _))
 ·rename_i k n
  injection hx with hx;subst hx
  rw[hr.int_]
  exact SemOk.same h (cv:=.int k (k.wrap (0-n))) (by simp[Op.unary,Op.intArith]) (by rw[wr_eq];exact .pure (.int _ _))
 ·rename_i k n
  injection hx with hx;subst hx
  rw[hr.int_]
  exact SemOk.same h (cv:=.int k (k.wrap (BitVec.ofInt k.bits (if k.signed then -1 else k.max) ^^^ BitVec.ofInt k.bits n).toNat)) (by simp only[Op.unary,Op.intBits,Sem.run_pure]) (by rw[wr_eq];exact .pure (.int _ _))
 ·cases hx
def qI:List V→Option (List UInt8)
 | []=>some []
 | .int .u8 n::r=>if 0≤n∧n<256 then(qI r).map (UInt8.ofNat n.toNat::·) else none
 | _=>none
theorem ki {T:Tab} {S:Addr→Prop}:∀(cs:List V) (l:List UInt8) (vs:List Value),qI cs=some l→LR (Rv T ι S w) cs vs→vs=l.map fun b=>.int .u8 (b.toNat:Int)
 | [],l,vs,h,hr=>by
  simp[qI] at h;subst h
  exact List.eq_nil_of_length_eq_zero (by simpa using hr.1.symm)
 | c::cs,l,vs,h,hr=>by
  obtain⟨u,vs',rfl,hu,hr'⟩:=hr.head
  unfold qI at h
  split at h
  ·rename_i heq;cases heq
  ·rename_i n r heq
   injection heq with e1 e2;subst e1 e2
   split at h
   ·rename_i hn
    cases ht:qI cs with
    | none=>simp[ht] at h
    | some l'=>
     simp[ht] at h;subst h
     rw[ki cs l' vs' ht hr',hu.int_]
     simp
     omega
   ·cases h
  ·cases h
def Xp:V→Bool
 | .str _=>true
 | _=>false
def qA (P:Program) (T:Tab) (src dst:Nat) (x:V) (d:Nat):Option (V×Option (Nat×Ob)):=
 match P.underlying src,P.underlying dst,x with
 | some _,some (.int k),.int _ n=>some (.int k (wr k n),none)
 | some _,some .string,.int _ n=>some (.str (Utf8.encode n).data.toList,none)
 | some .string,some .string,.str s=>some (.str s,none)
 | some .string,some (.slice e),.str s=>if (P.underlying e).any (fun d=>d matches .int .u8)=true then
   some (.acc d ((T.get d).gen+1),some (d,⟨(T.get d).gen+1,.nrow e false false ⟨.int .u8,s.map fun b=>(b.toNat:Int)⟩⟩)) else none
 | some (.slice e),some .string,x=>if (P.underlying e).any (fun d=>d matches .int .u8)=true∧Xp x=false then
   (match qM T 1 x with
    | some (m,xs)=>(qI xs).map fun l=>(.str l,none)
    | none=>none) else none
 | _,_,_=>none
theorem K7 {P:Program} {e:Nat} (h:(P.underlying e).any (fun d=>d matches .int .u8)=true):P.underlying e=some (.int .u8):=by
 (cases he:P.underlying e<;>grind)
theorem ZV:∀s:List UInt8,(s.map fun b=>(b.toNat:Int)).flatMap (cellsV (.int .u8))=s.map fun b=>.int .u8 b.toNat
 | []=>rfl
 | c::r=>by
  have:=ZV r
  simp only[List.map_cons,List.flatMap_cons,this]
  rfl
theorem xT (h:RelI κ ι st a w) {src dst d:Nat} {x v:V} {cx:Value} {wr:Option (Nat×Ob)} (hr:Rv st.o ι (Stable κ.D st.o ι w) w x cx) (hx:qA κ.P st.o src dst x d=some (v,wr)):
  SemOk κ ι st.o w (convert src dst cx) v wr:=by
 unfold qA at hx
 split at hx
 ·rename_i ds k k' n hs hd
  simp at hx
  obtain⟨rfl,rfl⟩:=hx
  rw[hr.int_]
  exact SemOk.same h (cv:=.int k (k.wrap n)) (by simp[convert,run_underlying hs,run_underlying hd,Conv.intToInt]) (by rw[wr_eq];exact .pure (.int _ _))
 ·rename_i ds k n hs hd
  simp at hx
  obtain⟨rfl,rfl⟩:=hx
  rw[hr.int_]
  exact SemOk.same h (run_convert_int_string w src dst k n (by rw[hs];rfl) hd) (.pure (.str _ _ rfl))
 ·rename_i s hs hd
  simp at hx
  obtain⟨rfl,rfl⟩:=hx
  obtain⟨b,rfl,hb⟩:=hr.str_
  exact SemOk.same h (cv:=.string b) (by simp[convert,run_underlying hs,run_underlying hd]) (.pure (.str _ _ hb))
 ·rename_i e s hs hd
  split at hx
  ·rename_i he
   simp at hx
   obtain⟨rfl,rfl⟩:=hx
   obtain⟨b,rfl,hb⟩:=hr.str_
   have hbl:b.size=s.length:=by rw[←hb,Array.length_toList];rfl
   have hrun:=run_bytes_of_string (P:=κ.P) w src dst e b hs hd (K7 he)
   have hge:b.size≤grownCap w b.size 0 e:=grownCap_ge w b.size 0 e
   have hbr:(bytesRow b (grownCap w b.size 0 e)).size=grownCap w b.size 0 e:=by simp[bytesRow];have:b.data.size=b.size:=rfl;omega
   have hcl:(⟨.int .u8,s.map fun b=>(b.toNat:Int)⟩:TL).cells=s.map fun b=>.int .u8 b.toNat:=by
    exact ZV s
   have hto:To κ st.o ι w (st.o.put d ⟨(st.o.get d).gen+1,.nrow e false false ⟨.int .u8,s.map fun b=>(b.toNat:Int)⟩⟩) (fun t=>if d=t then w.heap.size else ι t)
     (w.drew.alloc (.cells (bytesRow b (grownCap w b.size 0 e)) e ((bytesRow b (grownCap w b.size 0 e)).size,(bytesRow b (grownCap w b.size 0 e)).size+1))):=by
    refine To.new h (w1:=w.drew) rfl rfl rfl rfl d _ _ fun T' ι' w' H hn=>.inr ⟨_,_,grownCap w b.size 0 e,hn,fun i hi=>hi.elim (fun hi=>by simp;omega) (fun q=>absurd rfl q.1),by rw[hbr];simp[Ty.size],by simp[Ty.size],by rw[hcl,hbr];simp;omega,fun i dd u hdd hu=>?_⟩
    rw[hcl] at hdd
    have hi:i<s.length:=by have:=(List.getElem?_eq_some_iff.1 hdd).1;simpa using this
    have hval:(bytesRow b (grownCap w b.size 0 e)).toList[i]? = (s.map fun b=>Value.int .u8 (b.toNat:Int))[i]?:=by
     simp only[bytesRow,Array.toList_append,Array.toList_map]
     rw[List.getElem?_append_left (by simp;have:b.data.size=b.size:=rfl;omega),hb]
    rw[hval] at hu
    simp only[List.getElem?_map] at hdd hu
    cases hsi:s[i]? with
    | none=>simp[hsi] at hu
    | some c=>
     simp[hsi] at hdd hu
     subst hdd hu
     exact .pure (.int _ _)
   refine⟨_,_,_,hrun,hto,?_⟩
   rw[hbl]
   refine .acc ⟨_,_,_,rfl⟩ (by simp[wrT,Tab.get_put]) fun ty' fz' nl' L' eq=>?_
   simp[wrT,Tab.get_put] at eq
   obtain⟨rfl,rfl,rfl,rfl⟩:=eq
   rw[hbl] at hbr hge
   refine .inr ⟨by simp,⟨w.heap.size,0,none⟩,grownCap w s.length 0 e,grownCap w s.length 0 e,bytesRow b (grownCap w s.length 0 e),e,((bytesRow b (grownCap w s.length 0 e)).size,(bytesRow b (grownCap w s.length 0 e)).size+1),by simp,by simp,?_,by rw[hbr];simp[Ty.size],by simp;omega,by omega,fun _=>by simp⟩
   simp only[if_true]
   have:=heap_alloc_new w.drew (.cells (bytesRow b (grownCap w s.length 0 e)) e ((bytesRow b (grownCap w s.length 0 e)).size,(bytesRow b (grownCap w s.length 0 e)).size+1))
   exact this
  ·cases hx
 ·rename_i e hs hd hno1
  split at hx
  ·rename_i he
   split at hx
   ·rename_i m xs hsrc
    cases ht:qI xs with
    | none=>simp[ht] at hx
    | some l=>
     simp[ht] at hx
     obtain⟨rfl,rfl⟩:=hx
     obtain⟨he,hns⟩:=he
     obtain⟨hlen,hxl,news,hnews,hfirst⟩:=qF h hr hsrc
     have hnw:=ki xs l news ht hnews
     have hm:l.length=m:=by have:=hnews.1;rw[hnw] at this;simp at this;omega
     have hf:=hfirst m w (Nat.le_refl _) rfl
     have htk:news.take (m*1)=news:=by rw[List.take_of_length_le];rw[←hnews.1];omega
     rw[htk] at hf
     have main:∀(ad:Addr) (n c:Nat),cx=.slice (some ad) n c→(convert src dst cx).run κ.P w=.ok (.string ⟨⟨l⟩⟩) w:=by
      rintro ad n c rfl
      have hn:n=m:=by have:=hlen w;simp[Builtin.lenOf] at this;exact this
      subst hn
      rw[run_convert_bytes_string w src dst e (some ad) n c hs (K7 he) hd]
      simp only[Builtin.firstCells,Nat.mul_one] at hf
      rw[run_bytesToString w ad n c (l.map fun b=>(b.toNat:Int)) (by rw[hf,hnw];simp[Function.comp_def]),foldl_push_byteCells]
      have he0:ByteArray.empty.data=#[]:=rfl
      rw[he0]
      simp
     have main0:cx=.slice none 0 0→(convert src dst cx).run κ.P w=.ok (.string ⟨⟨l⟩⟩) w:=by
      rintro rfl
      have hm0:m=0:=by have:=hlen w;simp[Builtin.lenOf] at this;exact this.symm
      have hl0:l=[]:=List.eq_nil_of_length_eq_zero (by omega)
      subst hl0
      rw[run_convert_bytes_string w src dst e none 0 0 hs (K7 he) hd]
      simp[Conv.bytesToString]
      rfl
     have mainp:∀(p:Option Addr),cx=.slice p 0 0→(convert src dst cx).run κ.P w=.ok (.string ⟨⟨l⟩⟩) w:=fun p e=>by
      cases p with
      | none=>exact main0 e
      | some ad=>exact main ad _ _ e
     refine SemOk.same h (cv:=.string ⟨⟨l⟩⟩) ?_ (.pure (.str _ _ rfl))
     unfold qM at hsrc
     split at hsrc
     ·exact main0 hr.snil_
     ·obtain⟨p,e1⟩:=hr.sz_
      exact mainp p e1
     ·rename_i L
      rcases (Rv.pure hr.lst_).sl_ (T:=st.o) (ι:=ι) with⟨e0,_,e1⟩ | ⟨ad,c,_,e1,_⟩
      ·exact main0 e1
      ·exact main ad _ c e1
     ·rename_i s g
      split at hsrc
      ·rename_i hg
       split at hsrc
       ·rename_i ty1 fz nl L hk
        have hT:st.o.get s=⟨g,.nrow ty1 fz nl L⟩:=by cases hTs:st.o.get s;rw[hTs] at hk hg;simp at hk hg;subst hk hg;rfl
        rcases hr.acc_ hT with⟨_,_,p,e1⟩ | ⟨_,ad,c,_,_,_,_,e1,_⟩
        ·exact mainp p e1
        ·exact main ad _ c e1
       ·cases hsrc
      ·cases hsrc
     ·rcases hr.sl_ with⟨_,_,e1⟩ | ⟨ad,c,_,e1,_⟩
      ·exact main0 e1
      ·exact main ad _ c e1
     ·cases hr with
      | pure h=>cases h
      | own hv _ _=>
       obtain⟨ad,c,e1⟩:=hv
       exact main ad _ c e1
     ·rename_i s g off n
      split at hsrc
      ·rename_i hg
       split at hsrc
       ·rename_i ty1 fz nl L hk
        have hT:st.o.get s=⟨g,.nrow ty1 fz nl L⟩:=by cases hTs:st.o.get s;rw[hTs] at hk hg;simp at hk hg;subst hk hg;rfl
        rcases (hr.nwin_ hT).2 with⟨_,_,p,e1⟩ | ⟨_,ad,c,_,_,_,_,e1,_⟩
        ·exact mainp p e1
        ·exact main ad _ c e1
       ·cases hsrc
      ·cases hsrc
     ·simp[Xp] at hns
     ·cases hsrc
   ·cases hx
  ·cases hx
 ·cases hx
end
end Go.Abs
namespace Go.Abs
open Go.RowKit
set_option linter.unusedVariables false
set_option linter.unusedSimpArgs false
section
variable {κ : Cx} {ι : Nat → Nat} {st : St} {a : Act} {w : World}
def zN (P:Program) (t:Nat):Option V:=
 match P.info? t with
 | some i=>match i.zero with
  | some z=>vM z
  | none=>none
 | none=>none
theorem Q5 {P:Program} {t:Nat} {v:V} (h:zN P t=some v):∃z,(∀w,(zeroValue t).run P w=.ok z w)∧∀{S:Addr→Prop} {w:World},Rp S w v z:=by
 unfold zN at h
 split at h
 ·rename_i i hi
  split at h
  ·simp_all[j8,hi,kO]
  ·cases h
 ·cases h
def Qw:TypeDesc→Bool
 | .interface _=>true
 | _=>false
def zZ (P:Program) (asserted:Nat) (ok:Bool) (x:V):Option V:=
 match P.underlying asserted with
 | some d=>if Qw d=true then none else
  match x with
  | .ifc t v=>if t=asserted then some (if ok then .tup [v,.bool true] else v) else
    if ok then(zN P asserted).map fun z=>.tup [z,.bool false] else none
  | .inil=>if ok then(zN P asserted).map fun z=>.tup [z,.bool false] else none
  | _=>none
 | none=>none
theorem jU (h:RelI κ ι st a w) {xt asserted:Nat} {ok:Bool} {x v:V} {cx:Value} (hr:Rv st.o ι (Stable κ.D st.o ι w) w x cx) (hx:zZ κ.P asserted ok x=some v):
  SemOk κ ι st.o w (Instr.typeAssert cx xt asserted ok) v none:=by
 unfold zZ at hx
 split at hx
 ·rename_i d hd
  split at hx
  ·cases hx
  ·rename_i hni
   have hfail:∀(cx:Value),(cx=.nilIface∨∃t u,cx=.iface t u∧t≠asserted)→ok=true→∀z,zN κ.P asserted=some z→∃cz,(Instr.typeAssert cx xt asserted ok).run κ.P w=.ok (.tuple #[cz,.bool false]) w∧Rp (Stable κ.D st.o ι w) w z cz:=by
    intro cx hcx hok z hz
    subst hok
    obtain⟨cz,hrun,hrp⟩:=Q5 hz
    refine⟨cz,?_,hrp⟩
    rcases hcx with rfl | ⟨t,u,rfl,hne⟩
    ·cases d<;>first | (exact absurd rfl hni) | (simp[Instr.typeAssert,run_underlying hd,hrun])
    ·cases d<;>first | (exact absurd rfl hni) | (simp[Instr.typeAssert,run_underlying hd,hrun,hne])
   split at hx
   ·rename_i t u
    obtain⟨cu,rfl,hu⟩:=hr.ifc_
    split at hx
    ·rename_i ht
     subst ht
     injection hx with hx;subst hx
     cases ok with
     | true=>
      refine SemOk.same h (cv:=.tuple #[cu,.bool true]) ?_ (.tup (vs:=[cu,.bool true]) rfl (LR.cons hu (.cons (.pure (.bool _)) .nil)).2)
      cases d<;>first | (exact absurd rfl hni) | (simp[Instr.typeAssert,run_underlying hd])
     | false=>
      refine SemOk.same h (cv:=cu) ?_ hu
      cases d<;>first | (exact absurd rfl hni) | (simp[Instr.typeAssert,run_underlying hd])
    ·rename_i ht
     split at hx
     ·rename_i hok
      cases hz:zN κ.P asserted with
      | none=>simp[hz] at hx
      | some z=>
       simp[hz] at hx;subst hx
       obtain⟨cz,hrun,hrp⟩:=hfail _ (.inr ⟨t,cu,rfl,ht⟩) hok z hz
       exact SemOk.same h hrun (.pure (.tup (vs:=[cz,.bool false]) rfl (LR.cons hrp (.cons (.bool _) .nil)).2))
     ·cases hx
   ·have:=hr.inil_;subst this
    split at hx
    ·rename_i hok
     cases hz:zN κ.P asserted with
     | none=>simp[hz] at hx
     | some z=>
      simp[hz] at hx;subst hx
      obtain⟨cz,hrun,hrp⟩:=hfail _ (.inl rfl) hok z hz
      exact SemOk.same h hrun (.pure (.tup (vs:=[cz,.bool false]) rfl (LR.cons hrp (.cons (.bool _) .nil)).2))
    ·cases hx
   ·cases hx
 ·cases hx
def jT (P:Program) (t:Nat) (x:V):Option V:=
 match P.underlying t with
 | some d=>if Qw d=true then none else some (.ifc t x)
 | none=>none
theorem vu (h:RelI κ ι st a w) {t:Nat} {x v:V} {cx:Value} (hr:Rv st.o ι (Stable κ.D st.o ι w) w x cx) (hx:jT κ.P t x=some v):
  SemOk κ ι st.o w (Instr.makeInterface t cx) v none:=by
 unfold jT at hx
 split at hx
 ·rename_i d hd
  split at hx
  ·cases hx
  ·rename_i hni
   injection hx with hx;subst hx
   refine SemOk.same h (cv:=.iface t cx) ?_ (.ifc hr)
   cases d<;>first | (exact absurd rfl hni) | (simp[Instr.makeInterface,run_underlying hd])
 ·cases hx
def vm (x:V) (i:Nat):Option V:=
 match x with
 | .tup vs=>vs[i]?
 | _=>none
theorem Q1 (h:RelI κ ι st a w) {i:Nat} {x v:V} {cx:Value} (hr:Rv st.o ι (Stable κ.D st.o ι w) w x cx) (hx:vm x i=some v):
  SemOk κ ι st.o w (Instr.extract cx i) v none:=by
 unfold vm at hx
 split at hx
 ·rename_i vs
  obtain⟨us,rfl,hl,hh⟩:=hr.tup_
  obtain⟨u,hu,hv⟩:=LR.get (R:=Rv st.o ι (Stable κ.D st.o ι w) w) ⟨hl,hh⟩ hx
  refine SemOk.same h (cv:=u) ?_ hv
  simp_all[Instr.extract]
 ·cases hx
def Z5 (P:Program) (t:Nat) (cs:List V) (off:Nat):Option V:=
 match P.underlying t,P.info? t with
 | some d,some i=>if kU d then(if off+i.size≤cs.length then some (.agg ((cs.drop off).take i.size)) else none) else cs[off]?
 | _,_=>none
theorem QX {P:Program} {T:Tab} {S:Addr→Prop} {t off:Nat} {cs:List V} {vs:List Value} {v:V} (hr:LR (Rv T ι S w) cs vs) (hx:Z5 P t cs off=some v):
  ∃cv,(part t ⟨vs⟩ off).run P w=.ok cv w∧Rv T ι S w v cv:=by
 unfold Z5 at hx
 split at hx
 ·rename_i d i hd hi
  cases hag:kU d with
  | true=>
   simp only[hag,if_true] at hx
   split at hx
   ·rename_i hle
    injection hx with hx;subst hx
    have:=(hr.drop off).take i.size
    refine⟨.agg ⟨(vs.drop off).take i.size⟩,?_,.agg this.1 this.2⟩
    simp only[part,Sem.run_bind,zD hd,hag,Result.andThen_ok,if_true,run_size hi,Sem.run_pure]
    grind
   ·cases hx
  | false=>
   simp only[hag,Bool.false_eq_true,if_false] at hx
   obtain⟨u,hu,hv⟩:=hr.get hx
   simp_all[part,zD]
 ·cases hx
def yN (P:Program) (t:Nat) (x:V) (f:Nat):Option V:=
 match P.underlying t with
 | some (.struct fs)=>match fs[f]? with
  | some fd=>match x with
   | .agg cs=>Z5 P fd.type cs fd.offset
   | _=>none
  | none=>none
 | _=>none
theorem Zz (h:RelI κ ι st a w) {t f:Nat} {x v:V} {cx:Value} (hr:Rv st.o ι (Stable κ.D st.o ι w) w x cx) (hx:yN κ.P t x f=some v):
  SemOk κ ι st.o w (Instr.field t cx f) v none:=by
 unfold yN at hx
 split at hx
 ·rename_i fs ht
  split at hx
  ·rename_i fd hf
   split at hx
   ·rename_i cs
    obtain⟨vs,rfl,hl,hh⟩:=hr.agg_
    obtain⟨cv,hrun,hv⟩:=QX (P:=κ.P) ⟨hl,hh⟩ hx
    refine SemOk.same h ?_ hv
    simp[Instr.field,run_underlying ht,hf,asAgg,hrun]
   ·cases hx
  ·cases hx
 ·cases hx
def aIndex (P:Program) (t:Nat) (x ix:V):Option V:=
 match ix with
 | .int _ i=>if 0≤i then
  match P.underlying t with
  | some (.array len e)=>match x,P.info? e with
   | .agg cs,some inf=>if i<len then Z5 P e cs (i.toNat*inf.size) else none
   | _,_=>none
  | some .string=>match x with
   | .str s=>match s[i.toNat]? with
    | some b=>some (.int .u8 b.toNat)
    | none=>none
   | _=>none
  | _=>none
  else none
 | _=>none
theorem JN (h:RelI κ ι st a w) {t:Nat} {x ix v:V} {cx ci:Value} (hr:Rv st.o ι (Stable κ.D st.o ι w) w x cx) (hi:Rv st.o ι (Stable κ.D st.o ι w) w ix ci) (hx:aIndex κ.P t x ix=some v):
  SemOk κ ι st.o w (Instr.index t cx ci) v none:=by
 unfold aIndex at hx
 split at hx
 ·rename_i k i
  have:=hi.int_;subst this
  split at hx
  ·rename_i h0
   split at hx
   ·rename_i len e ht
    split at hx
    ·rename_i cs inf hinf
     split at hx
     ·rename_i h1
      obtain⟨vs,rfl,hl,hh⟩:=hr.agg_
      obtain⟨cv,hrun,hv⟩:=QX (P:=κ.P) ⟨hl,hh⟩ hx
      refine SemOk.same h ?_ hv
      simp[Instr.index,asIntOf,run_underlying ht,h0,h1,run_size hinf,hrun]
     ·cases hx
    ·cases hx
   ·rename_i ht
    split at hx
    ·rename_i s
     obtain⟨b,rfl,hb⟩:=hr.str_
     split at hx
     ·rename_i c hc
      injection hx with hx;subst hx
      refine SemOk.same h (cv:=.int .u8 c.toNat) ?_ (.pure (.int _ _))
      have hbi:b[i.toNat]? = some c:=by
       rw[←hb] at hc
       have hlt:i.toNat<b.data.toList.length:=(List.getElem?_eq_some_iff.1 hc).1
       have hlt':i.toNat<b.size:=hlt
       rw[getElem?_pos b i.toNat hlt']
       have h3:b.data[i.toNat]'hlt'=c:=by grind
       exact congrArg some h3
      simp[Instr.index,asIntOf,run_underlying ht,h0,hbi]
     ·cases hx
    ·cases hx
   ·cases hx
  ·cases hx
 ·cases hx
def aMM (mx:Bool):List V→Option V
 | .int k x::r=>aMM' mx k x r
 | _=>none
where
 aMM' (mx:Bool) (k:IntKind):Int→List V→Option V
 | x,[]=>some (.int k x)
 | x,.int _ y::r=>match mx with
  | true=>aMM' mx k (max x y) r
  | false=>aMM' mx k (min x y) r
 | _,_=>none
theorem Q0 {S:Addr→Prop} {T:Tab} {P:Program} {k:IntKind}:∀(r:List V) (x:Int) (us:List Value) (v:V),aMM.aMM' true k x r=some v→LR (Rv T ι S w) r us→
  ∃n,v=.int k n∧(us.foldlM Builtin.max2 (.int k x)).run P w=.ok (.int k n) w
 | [],x,us,v,h,hr=>by
  have:us=[]:=List.eq_nil_of_length_eq_zero (by simpa using hr.1.symm)
  subst this
  simp[aMM.aMM'] at h;subst h
  exact⟨x,rfl,by simp⟩
 | c::r,x,us,v,h,hr=>by
  obtain⟨u,us',rfl,hu,hr'⟩:=hr.head
  cases c<;>simp only[aMM.aMM'] at h<;>first | cases h;done | skip
  rename_i k' y
  rw[hu.int_]
  obtain⟨n,hn,hrun⟩:=Q0 (P:=P) r (max x y) us' v h hr'
  refine⟨n,hn,?_⟩
  have:(if y>x then y else x)=max x y:=by omega
  simp only[List.foldlM_cons,Builtin.max2,this,Sem.run_bind,Sem.run_pure,Result.andThen_ok,hrun]
theorem QZ {S:Addr→Prop} {T:Tab} {P:Program} {k:IntKind}:∀(r:List V) (x:Int) (us:List Value) (v:V),aMM.aMM' false k x r=some v→LR (Rv T ι S w) r us→
  ∃n,v=.int k n∧(us.foldlM Builtin.min2 (.int k x)).run P w=.ok (.int k n) w
 | [],x,us,v,h,hr=>by
  have:us=[]:=List.eq_nil_of_length_eq_zero (by simpa using hr.1.symm)
  subst this
  simp[aMM.aMM'] at h;subst h
  exact⟨x,rfl,by simp⟩
 | c::r,x,us,v,h,hr=>by
  obtain⟨u,us',rfl,hu,hr'⟩:=hr.head
  cases c<;>simp only[aMM.aMM'] at h<;>first | cases h;done | skip
  rename_i k' y
  rw[hu.int_]
  obtain⟨n,hn,hrun⟩:=QZ (P:=P) r (min x y) us' v h hr'
  refine⟨n,hn,?_⟩
  have:(if y<x then y else x)=min x y:=by omega
  simp only[List.foldlM_cons,Builtin.min2,this,Sem.run_bind,Sem.run_pure,Result.andThen_ok,hrun]
theorem XM (h:RelI κ ι st a w) {mx:Bool} {xs:List V} {us:Array Value} {ts:Array TypeId} {ty:TypeId} {v:V} (hr:LR (Rv st.o ι (Stable κ.D st.o ι w) w) xs us.toList) (hx:aMM mx xs=some v):
  SemOk κ ι st.o w (if mx then Builtin.max_ ts ty us else Builtin.min_ ts ty us) v none:=by
 unfold aMM at hx
 split at hx
 ·rename_i k x r
  obtain⟨u,us',eu,hu,hr'⟩:=hr.head
  have:=hu.int_;subst this
  cases mx with
  | true=>
   obtain⟨n,rfl,hrun⟩:=Q0 (P:=κ.P) r x us' v hx hr'
   refine SemOk.same h (cv:=.int k n) ?_ (.pure (.int _ _))
   grind[Builtin.max_]
  | false=>
   obtain⟨n,rfl,hrun⟩:=QZ (P:=κ.P) r x us' v hx hr'
   refine SemOk.same h (cv:=.int k n) ?_ (.pure (.int _ _))
   grind[Builtin.min_]
 ·cases hx
end
end Go.Abs
namespace Go.Abs
open Go.RowKit
set_option linter.unusedVariables false
set_option linter.unusedSimpArgs false
def OK.freeze:OK→OK
 | .row ty sz _ cs=>.row ty sz true cs
 | .nrow ty _ nl L=>.nrow ty true nl L
 | k=>k
def Tab.freeze (T:Tab) (s:Nat):Tab:=T.put s ⟨(T.get s).gen,(T.get s).k.freeze⟩
def Tab.freezes (T:Tab) (l:List Nat):Tab:=l.foldl Tab.freeze T
theorem Tab.get_freeze (T:Tab) (s t:Nat):(T.freeze s).get t=if s=t then⟨(T.get t).gen,(T.get t).k.freeze⟩ else T.get t:=by
 grind[Tab.freeze,Tab.get_put]
theorem vr (k:OK):k.freeze.freeze=k.freeze:=by cases k<;>rfl
theorem Tab.get_freezes:∀(l:List Nat) (T:Tab) (t:Nat),(T.freezes l).get t=if t∈l then⟨(T.get t).gen,(T.get t).k.freeze⟩ else T.get t
 | [],T,t=>by simp[Tab.freezes]
 | s::r,T,t=>by
  have:=Tab.get_freezes r (T.freeze s) t
  simp only[Tab.freezes,List.foldl_cons] at this ⊢
  rw[this,Tab.get_freeze]
  by_cases h1:t∈r<;>by_cases h2:s=t<;>simp[h1,h2,vr,Ne.symm]<;>(try (intro e;exact absurd e.symm h2))
section
variable {κ : Cx} {ι : Nat → Nat} {st : St} {a : Act} {w : World}
theorem To.rel (h:RelI κ ι st a w) {T':Tab} (ht:To κ st.o ι w T' ι w):RelI κ ι { st with o:=T' } a w:=by
 have:=h.set (dst:=none) (v:=.undef) (cv:=undef) (st':={ st with o:=T' }) ht rfl (.undef _)
 grind[Act.put]
theorem To.freeze (h:RelI κ ι st a w) (s:Nat):To κ st.o ι w (st.o.freeze s) ι w:=by
 by_cases hrow:∃ty sz fz cs,(st.o.get s).k=.row ty sz fz cs
 ·obtain⟨ty,sz,fz,cs,hk⟩:=hrow
  have hl:st.o.live s:=by simp[Tab.live,hk,OK.live]
  have hob:=h.tr.ob s
  rw[hk] at hob
  have hfr:(st.o.get s).k.freeze=.row ty sz true cs:=by rw[hk];rfl
  have ht:To κ st.o ι w (st.o.freeze s) ι w:=by
   unfold Tab.freeze
   refine To.turn h s hl _ rfl rfl rfl rfl (fun _ _=>rfl) (Nat.le_refl _) (fun p hp hf=>?_) (fun ty' sz' fz' cs' e _=>?_) (fun T' ι' H=>?_) (fun ty' fz' nl' L' e=>by rw[hfr] at e;cases e) (hsh:=.same rfl)
   ·rw[hk] at hf
    show (st.o.get s).k.freeze.fzAt p.off∧_
    rw[hfr]
    cases fz with
    | false=>simp[OK.fzAt] at hf
    | true=>exact⟨hf,rfl⟩
   ·simp only[hfr] at e
    injection e with e1 e2 e3 e4
    subst e1 e2 e3 e4
    exact⟨⟨_,_,_,hk⟩,fun arr ty1 fz h=>⟨arr,ty1,fz,h,rfl⟩⟩
   ·simp only[hfr]
    obtain⟨arr,fz1,cap,h1,h2,h3,h4,h5,h6⟩:=hob
    exact⟨arr,fz1,cap,h1,h2,h3,h4,h5,fun i d u hd hu=>(h6 i d u hd hu).mono H⟩
  exact ht
 ·by_cases hnr:∃ty fz nl L,(st.o.get s).k=.nrow ty fz nl L
  ·obtain⟨ty,fz,nl,L,hk⟩:=hnr
   have hfr:(st.o.get s).k.freeze=.nrow ty true nl L:=by rw[hk];rfl
   by_cases hn:nl=true∧L.l=[]
   ·have hget:∀t,(st.o.freeze s).get t=if s=t then⟨(st.o.get t).gen,.nrow ty true nl L⟩ else st.o.get t:=by
     intro t
     rw[Tab.get_freeze]
     split
     ·rename_i e;subst e;rw[hfr]
     ·rfl
    have hlive:∀t,(st.o.freeze s).live t↔st.o.live t:=fun t=>by
     simp only[Tab.live,hget]
     split
     ·rename_i e;subst e;simp only[hk,OK.live]
     ·rfl
    have hnl:∀t,st.o.live t→s≠t:=fun t hl e=>by subst e;simp only[Tab.live,hk,OK.live] at hl;exact hl hn
    have H:Goes κ.D st.o ι w (st.o.freeze s) ι w:=by
     refine⟨fun p hp=>⟨⟨hp.1,hp.2.1,fun t hl=>by rw[hget,if_neg (hnl t ((hlive t).1 hl))];exact hp.2.2 t ((hlive t).1 hl)⟩,rfl⟩,fun t=>by rw[hget];split<;>exact Nat.le_refl _,fun t hl _=>⟨(hlive t).1 hl,rfl⟩,fun t g ty' sz fz' cs' hT _=>?_,fun t g ty' fz' nl' L' hT hg=>?_⟩
     ·rw[hget] at hT
      split at hT
      ·simp at hT
      ·exact⟨⟨ty',fz',cs',hT⟩,fun arr ty1 fz h=>⟨arr,ty1,fz,h,rfl⟩⟩
     ·rw[hget] at hT
      split at hT
      ·rename_i e;subst e
       simp only[Ob.mk.injEq,OK.nrow.injEq] at hT
       obtain⟨e0,rfl,rfl,rfl,rfl⟩:=hT
       refine⟨⟨ty,fz,nl,L,?_,rfl,rfl,rfl⟩,fun h=>absurd hn h⟩
       cases hs:st.o.get s;rw[hs] at hk e0;simp at hk e0;subst hk e0;rfl
      ·exact⟨⟨ty',fz',nl',L',hT,rfl,rfl,rfl⟩,fun _ arr ty1 fz h=>⟨arr,ty1,fz,h,rfl⟩⟩
    exact⟨H,⟨fun t=>by
      rw[hget]
      split
      ·rename_i e;exact .inl hn
      ·exact(h.tr.ob t).mono H rfl,fun t u ht hu=>h.tr.inj t u ((hlive t).1 ht) ((hlive u).1 hu),fun t ht=>h.tr.lt t ((hlive t).1 ht)⟩,
     fun t hl=>h.my t ((hlive t).1 hl),h.kept⟩
   ·have hl:st.o.live s:=by simp only[Tab.live,hk,OK.live];exact hn
    have hob:=h.tr.ob s
    rw[hk] at hob
    unfold Tab.freeze
    refine To.turn h s hl _ rfl rfl rfl rfl (fun _ _=>rfl) (Nat.le_refl _) (fun p hp hf=>?_) (fun ty' sz' fz' cs' e _=>by rw[hfr] at e;cases e) (fun T' ι' H=>?_) (fun ty' fz' nl' L' e _=>?_) (hsh:=.same rfl)
    ·rw[hk] at hf
     show (st.o.get s).k.freeze.fzAt p.off∧_
     rw[hfr]
     cases fz with
     | false=>simp[OK.fzAt] at hf
     | true=>exact⟨hf,rfl⟩
    ·simp only[hfr]
     rcases hob with hb | ⟨arr,fz1,cap,h1,h2,h3,h4,h5,h6⟩
     ·exact .inl hb
     ·exact .inr ⟨arr,fz1,cap,h1,h2,h3,h4,h5,fun i d u hd hu=>(h6 i d u hd hu).mono H⟩
    ·simp only[hfr] at e
     injection e with e1 e2 e3 e4
     subst e1 e2 e3 e4
     exact⟨⟨_,_,_,_,hk,rfl,rfl,rfl⟩,fun _ arr ty1 fz h=>⟨arr,ty1,fz,h,rfl⟩⟩
  have hsame:(st.o.get s).k.freeze=(st.o.get s).k:=by
   cases hk:(st.o.get s).k with
   | row ty sz fz cs=>exact absurd ⟨ty,sz,fz,cs,hk⟩ hrow
   | nrow ty fz nl L=>exact absurd ⟨ty,fz,nl,L,hk⟩ hnr
   | _=>rfl
  have hget:∀t,(st.o.freeze s).get t=st.o.get t:=by
   intro t
   rw[Tab.get_freeze]
   split
   ·rename_i e;subst e;rw[hsame]
   ·rfl
  have hlive:∀t,(st.o.freeze s).live t↔st.o.live t:=fun t=>by simp[Tab.live,hget]
  have H:Goes κ.D st.o ι w (st.o.freeze s) ι w:=by
   refine⟨fun p hp=>⟨⟨hp.1,hp.2.1,fun t hl=>by rw[hget];exact hp.2.2 t ((hlive t).1 hl)⟩,rfl⟩,fun t=>by rw[hget];exact Nat.le_refl _,fun t hl _=>⟨(hlive t).1 hl,rfl⟩,fun t g ty sz fz' cs' hT _=>?_,fun t g ty fz nl L hT _=>?_⟩
   ·rw[hget] at hT
    exact⟨⟨ty,fz',cs',hT⟩,fun arr ty1 fz h=>⟨arr,ty1,fz,h,rfl⟩⟩
   ·rw[hget] at hT
    exact⟨⟨ty,fz,nl,L,hT,rfl,rfl,rfl⟩,fun _ arr ty1 fz h=>⟨arr,ty1,fz,h,rfl⟩⟩
  have ht:To κ st.o ι w (st.o.freeze s) ι w:=
   ⟨H, ⟨fun t => by rw [hget]; exact (h.tr.ob t).mono H rfl, fun t u ht hu => h.tr.inj t u ((hlive t).1 ht) ((hlive u).1 hu), fun t ht => h.tr.lt t ((hlive t).1 ht)⟩,
    fun t hl=>h.my t ((hlive t).1 hl),h.kept⟩
  exact ht
theorem Goes.trans {D:Addr→Prop} {T T' T'':Tab} {ι ι' ι'':Nat→Nat} {w w' w'':World} (h:Goes D T ι w T' ι' w') (k:Goes D T' ι' w' T'' ι'' w''):Goes D T ι w T'' ι'' w'':=by
 refine⟨fun p hp=>⟨(k.st p (h.st p hp).1).1,(k.st p (h.st p hp).1).2.trans (h.st p hp).2⟩,fun t=>Nat.le_trans (h.gen t) (k.gen t),fun t hl hg=>?_,fun t g ty sz fz' cs' hT hg=>?_,fun t g ty fz' nl L hT hg=>?_⟩
 ·have h1:=h.gen t
  have h2:=k.gen t
  obtain⟨l1,e1⟩:=k.same t hl (by omega)
  obtain⟨l2,e2⟩:=h.same t l1 (by omega)
  exact⟨l2,e1.trans e2⟩
 ·have h1:=h.gen t
  have h2:=k.gen t
  have h3:(T''.get t).gen=g:=by rw[hT]
  obtain⟨⟨ty1,fz1,cs1,e1⟩,f1⟩:=k.row t g ty sz fz' cs' hT (by omega)
  obtain⟨⟨ty2,fz2,cs2,e2⟩,f2⟩:=h.row t g ty1 sz fz1 cs1 e1 hg
  have hι:=(h.same t (by simp[Tab.live,e1,OK.live]) (by rw[e1,hg])).2
  rw[hι] at f1
  refine⟨⟨ty2,fz2,cs2,e2⟩,fun arr t1 fz hh=>?_⟩
  obtain⟨arr1,t2,fz2,hh2,s1⟩:=f2 arr t1 fz hh
  obtain⟨arr2,t3,fz3,hh3,s2⟩:=f1 arr1 t2 fz2 hh2
  exact⟨arr2,t3,fz3,hh3,s2.trans s1⟩
 ·have h1:=h.gen t
  have h2:=k.gen t
  have h3:(T''.get t).gen=g:=by rw[hT]
  obtain⟨⟨ty1,fz1,nl1,L1,e1,a1,a2,a3⟩,f1⟩:=k.nrow t g ty fz' nl L hT (by omega)
  obtain⟨⟨ty2,fz2,nl2,L2,e2,b1,b2,b3⟩,f2⟩:=h.nrow t g ty1 fz1 nl1 L1 e1 hg
  refine⟨⟨ty2,fz2,nl2,L2,e2,b1.trans a1,b2.trans a2,b3.trans a3⟩,fun hn arr t1 fz hh=>?_⟩
  have hn1:¬(nl1=true∧L1.l=[]):=fun⟨x,y⟩=>hn ⟨a3▸x,List.eq_nil_of_length_eq_zero (by rw[←a2,y];rfl)⟩
  have hι:=(h.same t (by simp only[Tab.live,e1,OK.live];exact hn1) (by rw[e1,hg])).2
  obtain⟨arr1,t2,fz2,hh2,s1⟩:=f2 hn1 arr t1 fz hh
  rw[hι] at f1
  obtain⟨arr2,t3,fz3,hh3,s2⟩:=f1 hn arr1 t2 fz2 hh2
  exact⟨arr2,t3,fz3,hh3,s2.trans s1⟩
theorem To.trans {T T' T'':Tab} {ι' ι'':Nat→Nat} {w' w'':World} (h:To κ T ι w T' ι' w') (k:To κ T' ι' w' T'' ι'' w''):To κ T ι w T'' ι'' w'':=
 ⟨h.goes.trans k.goes,k.tr,k.my,k.kept⟩
theorem To.freezes (h:RelI κ ι st a w) (l:List Nat):To κ st.o ι w (st.o.freezes l) ι w:=by
 induction l generalizing st with
 | nil=>exact To.refl h
 | cons s r ih=>exact(To.freeze h s).trans (ih (To.rel h (To.freeze h s)))
def mapV (f:V→Option (V×List Nat)):List V→Option (List V×List Nat)
 | []=>some ([],[])
 | v::r=>match f v with
  | some (x,l)=>match mapV f r with
   | some (xs,l')=>some (x::xs,l++l')
   | none=>none
  | none=>none
def view:Nat→Tab→V→Option (V×List Nat)
 | 0,_,_=>none
 | n+1,T,v=>if v.pure=true then some (v,[]) else
  match v with
  | .own s g off k=>if (T.get s).gen=g then(match (T.get s).k with
   | .row _ sz _ cs=>if (off+k)*sz≤cs.length then
     (match mapV (view n T) ((cs.take ((off + k) * sz)).drop (off * sz)) with
      | some (xs,l)=>some (.sl k xs,s::l)
      | none=>none) else none
   | _=>none) else none
  | .agg cs=>match mapV (view n T) cs with
   | some (xs,l)=>some (.agg xs,l)
   | none=>none
  | .ifc t u=>match view n T u with
   | some (x,l)=>some (.ifc t x,l)
   | none=>none
  | .fn f cs=>match mapV (view n T) cs with
   | some (xs,l)=>some (.fn f xs,l)
   | none=>none
  | .acc s g=>if (T.get s).gen=g then(match (T.get s).k with
   | .nrow _ _ _ L=>some (.lst L,[s])
   | _=>none) else none
  | .nwin s g off k=>if (T.get s).gen=g then(match (T.get s).k with
   | .nrow _ _ _ L=>some (.lst ⟨L.e,(L.l.take (off+k)).drop off⟩,[s])
   | _=>none) else none
  | _=>none
theorem zq {f:V→Option (V×List Nat)} {R R':V→Value→Prop}:∀(cs xs:List V) (l:List Nat) (vs:List Value),mapV f cs=some (xs,l)→LR R cs vs→
  (∀v x l' u,v∈cs→f v=some (x,l')→(∀s∈l',s∈l)→R v u→R' x u)→LR R' xs vs
 | [],xs,l,vs,h,hr,hf=>by
  simp[mapV] at h
  obtain⟨rfl,rfl⟩:=h
  have:vs=[]:=List.eq_nil_of_length_eq_zero (by simpa using hr.1.symm)
  subst this
  exact .nil
 | v::r,xs,l,vs,h,hr,hf=>by
  obtain⟨u,vs',rfl,hu,hr'⟩:=hr.head
  simp only[mapV] at h
  cases hv:f v with
  | none=>simp[hv] at h
  | some p=>
   obtain⟨x,l1⟩:=p
   simp only[hv] at h
   cases hm:mapV f r with
   | none=>simp[hm] at h
   | some q=>
    obtain⟨ys,l2⟩:=q
    simp[hm] at h
    obtain⟨rfl,rfl⟩:=h
    exact .cons (hf v x l1 u (by simp) hv (fun s hs=>by simp[hs]) hu)
     (zq r ys l2 vs' hm hr' fun v' x' l' u' hm' hv' hs' hu'=>hf v' x' l' u' (by simp[hm']) hv' (fun s hs=>by simp[hs' s hs]) hu')
theorem view_ok (h:RelI κ ι st a w) {T:Tab}:
  ∀(n:Nat) (v x:V) (l:List Nat) (cv:Value),view n T v=some (x,l)→(∀s∈l,(st.o.get s).k=(T.get s).k.freeze∧(st.o.get s).gen=(T.get s).gen)→
   Rv st.o ι (Stable κ.D st.o ι w) w v cv→Rp (Stable κ.D st.o ι w) w x cv
 | 0,v,x,l,cv,hv,_,_=>by simp[view] at hv
 | n+1,v,x,l,cv,hv,hl,hr=>by
  simp only[view] at hv
  split at hv
  ·rename_i hp
   simp at hv
   obtain⟨rfl,rfl⟩:=hv
   exact hr.pure_ hp
  ·rename_i hnp
   split at hv
   ·rename_i s g off k
    split at hv
    ·rename_i hg
     split at hv
     ·rename_i ty sz fz cs hk
      split at hv
      ·rename_i hle
       split at hv
       ·rename_i xs l' hm
        simp at hv
        obtain⟨rfl,rfl⟩:=hv
        obtain⟨hsk,hsg⟩:=hl s (by simp)
        rw[hk] at hsk
        have hget:st.o.get s=⟨g,.row ty sz true cs⟩:=by
         cases hTs:st.o.get s;rw[hTs] at hsk hsg;simp at hsk hsg;subst hsk hsg;rw[hg];rfl
        have hlv:st.o.live s:=by simp[Tab.live,hget,OK.live]
        obtain⟨ad,c,cap,arr,ty1,fz1,rfl,hb,hmem,has,hn,hcap,hpl⟩:=hr.own_ hget
        have hob:=h.tr.ob s
        rw[hget] at hob
        obtain⟨arr2,fz2,cap2,hh2,_,has2,hsz0,hle2,hc2⟩:=hob
        rw[hmem] at hh2
        injection hh2 with hh2;injection hh2 with e1 e2 e3;subst e1
        have hml:(off+k)*sz≤arr.size:=by grind
        have hmul:(off+k)*sz=off*sz+k*sz:=Nat.add_mul _ _ _
        have hlr:LR (Rv st.o ι (Stable κ.D st.o ι w) w) ((cs.take ((off+k)*sz)).drop (off*sz)) ((arr.toList.take ((off+k)*sz)).drop (off*sz)):=
         LR.drop ⟨by simp;omega,fun i d u hd hu=>by
          grind⟩ _
        have hxs:=zq (R':=Rp (Stable κ.D st.o ι w) w) _ xs l' _ hm hlr fun v' x' l'' u' _ hv' hs' hu'=>
         view_ok h n v' x' l'' u' hv' (fun s' hs''=>hl s' (by grind)) hu'
        refine .sl (vs:=(arr.toList.take ((off+k)*sz)).drop (off*sz)) (by omega) (fun i u hu=>?_) hxs.1 hxs.2
        rw[List.getElem?_drop,List.getElem?_take] at hu
        split at hu
        ·rename_i hi
         have hk0:k≠0:=by grind
         have:=hpl (by omega);subst this
         have hadd:(⟨ι s,off*sz,none⟩:Addr).add i=⟨ι s,off*sz+i,none⟩:=by simp_all[Addr.add]
         rw[hadd]
         refine⟨⟨?_,h.tr.lt s hlv,fun t ht e=>?_⟩,?_⟩
         ·rcases h.my s hlv with h1 | h1
          ·exact .inr (.inl h1)
          ·exact .inr (.inr h1)
         ·have:=h.tr.inj t s ht hlv e
          subst this
          rw[hget]
          show off*sz+i<cs.length
          omega
         grind[World.cell?]
        ·cases hu
       ·cases hv
      ·cases hv
     ·cases hv
    ·cases hv
   ·rename_i cs
    split at hv
    ·rename_i xs l' hm
     simp at hv
     obtain⟨rfl,rfl⟩:=hv
     obtain⟨vs,rfl,hlen,hh⟩:=hr.agg_
     have hxs:=zq (R':=Rp (Stable κ.D st.o ι w) w) _ xs l' vs hm ⟨hlen,hh⟩ fun v' x' l'' u' _ hv' hs' hu'=>
      view_ok h n v' x' l'' u' hv' (fun s' hs''=>hl s' (hs' s' hs'')) hu'
     exact .agg hxs.1 hxs.2
    ·cases hv
   ·rename_i t u
    split at hv
    ·rename_i x' l' hm
     simp at hv
     obtain⟨rfl,rfl⟩:=hv
     obtain⟨cu,rfl,hu⟩:=hr.ifc_
     exact .ifc (view_ok h n u x' l' cu hm hl hu)
    ·cases hv
   ·rename_i f cs
    split at hv
    ·rename_i xs l' hm
     simp at hv
     obtain⟨rfl,rfl⟩:=hv
     obtain⟨vs,rfl,hlen,hh⟩:=hr.fn_
     have hxs:=zq (R':=Rp (Stable κ.D st.o ι w) w) _ xs l' vs hm ⟨hlen,hh⟩ fun v' x' l'' u' _ hv' hs' hu'=>
      view_ok h n v' x' l'' u' hv' (fun s' hs''=>hl s' (hs' s' hs'')) hu'
     exact .fn hxs.1 hxs.2
    ·cases hv
   ·rename_i s g
    split at hv
    ·rename_i hg
     split at hv
     ·rename_i ty fz nl L hk
      simp at hv
      obtain⟨rfl,rfl⟩:=hv
      obtain⟨hsk,hsg⟩:=hl s (by simp)
      rw[hk] at hsk
      have hget:st.o.get s=⟨g,.nrow ty true nl L⟩:=by
       cases hTs:st.o.get s;rw[hTs] at hsk hsg;simp at hsk hsg;subst hsk hsg;rw[hg];rfl
      rcases hr.acc_ hget with⟨h1,h2,p,rfl⟩ | ⟨hn,ho⟩
      ·refine .lst ?_
       have e1:L.l.length=0:=by rw[h2];rfl
       have e2:L.cells=[]:=by simp[TL.cells,h2]
       rw[e1,e2]
       cases p with
       | none=>exact .slz
       | some a=>exact .sl (vs:=[]) (Nat.le_refl _) (by simp) rfl (by simp)
      ·have hlv:st.o.live s:=by grind[Tab.live,OK.live]
       obtain⟨ad,c,cap,arr,ty1,fz1,rfl,hb,hmem,has,hn',hcap,hpl⟩:=ho
       have hob:=h.tr.ob s
       rw[hget] at hob
       obtain⟨arr2,fz2,cap2,hh2,_,has2,hsz0,hle2,hc2⟩:=hob.resolve_left hn
       rw[hmem] at hh2
       injection hh2 with hh2;injection hh2 with e1 e2 e3;subst e1
       have hcl:=L.cells_length
       refine .lst (.sl (vs:=arr.toList.take L.cells.length) (by omega) (fun i u hu=>?_) (by simp;omega) (fun i d u hd hu=>?_))
       ·rw[List.getElem?_take] at hu
        split at hu
        ·rename_i hi
         have hk0:L.l.length≠0:=fun e=>by grind
         have:=hpl (by omega);subst this
         have hadd:(⟨ι s,0*L.e.size,none⟩:Addr).add i=⟨ι s,i,none⟩:=by unfold Addr.add;split<;>simp_all
         rw[hadd]
         refine⟨⟨?_,h.tr.lt s hlv,fun t ht e=>?_⟩,?_⟩
         ·rcases h.my s hlv with h1 | h1
          ·exact .inr (.inl h1)
          ·exact .inr (.inr h1)
         ·have:=h.tr.inj t s ht hlv e
          subst this
          rw[hget]
          (show i<L.l.length*L.e.size<;>grind[hi])
         grind[World.cell?]
        ·cases hu
       ·rw[List.getElem?_take] at hu
        split at hu
        ·exact(hc2 i d u hd hu).pure_ (TL.pure_cells hd)
        ·cases hu
     ·cases hv
    ·cases hv
   ·rename_i s g off k
    split at hv
    ·rename_i hg
     split at hv
     ·rename_i ty fz nl L hk
      simp at hv
      obtain⟨rfl,rfl⟩:=hv
      obtain⟨hsk,hsg⟩:=hl s (by simp)
      rw[hk] at hsk
      have hget:st.o.get s=⟨g,.nrow ty true nl L⟩:=by
       cases hTs:st.o.get s;rw[hTs] at hsk hsg;simp at hsk hsg;subst hsk hsg;rw[hg];rfl
      obtain⟨hle0,hr'⟩:=hr.nwin_ hget
      have hwl:((L.l.take (off+k)).drop off).length=k:=by simp;omega
      have hwc:(⟨L.e,(L.l.take (off+k)).drop off⟩:TL).cells=(L.cells.take ((off+k)*L.e.size)).drop (off*L.e.size):=kY L.e L.l off (off+k)
      refine .lst ?_
      rw[hwc]
      show Rp _ _ (.sl ((L.l.take (off+k)).drop off).length _) _
      rw[hwl]
      have hmul:(off+k)*L.e.size=off*L.e.size+k*L.e.size:=Nat.add_mul _ _ _
      rcases hr' with⟨h1,h2,p,rfl⟩ | ⟨hn,ho⟩
      ·have e1:L.l.length=0:=by rw[h2];rfl
       have e2:L.cells=[]:=by simp[TL.cells,h2]
       have e3:k=0:=by omega
       rw[e2,e3]
       simp only[List.take_nil,List.drop_nil]
       cases p with
       | none=>exact .slz
       | some a=>exact .sl (vs:=[]) (Nat.le_refl _) (by simp) rfl (by simp)
      ·have hlv:st.o.live s:=by grind[Tab.live,OK.live]
       obtain⟨ad,c,cap,arr,ty1,fz1,rfl,hb,hmem,has,hn',hcap,hpl⟩:=ho
       have hob:=h.tr.ob s
       rw[hget] at hob
       obtain⟨arr2,fz2,cap2,hh2,_,has2,hsz0,hle2,hc2⟩:=hob.resolve_left hn
       rw[hmem] at hh2
       injection hh2 with hh2;injection hh2 with e1 e2 e3;subst e1
       have hcl:=L.cells_length
       have hin:(off+k)*L.e.size≤L.cells.length:=by rw[hcl];exact Nat.mul_le_mul_right _ hle0
       have hlr:LR (Rp (Stable κ.D st.o ι w) w) ((L.cells.take ((off+k)*L.e.size)).drop (off*L.e.size)) ((arr.toList.take ((off+k)*L.e.size)).drop (off*L.e.size)):=
        LR.drop ⟨by simp;omega,fun i d u hd hu=>by
         rw[List.getElem?_take] at hd hu
         split at hd
         ·rename_i hi;rw[if_pos hi] at hu;exact(hc2 i d u hd hu).pure_ (TL.pure_cells hd)
         ·cases hd⟩ _
       refine .sl (vs:=(arr.toList.take ((off+k)*L.e.size)).drop (off*L.e.size)) (by omega) (fun i u hu=>?_) hlr.1 hlr.2
       rw[List.getElem?_drop,List.getElem?_take] at hu
       split at hu
       ·rename_i hi
        have hk0:k≠0:=by grind
        have:=hpl (by omega);subst this
        have hadd:(⟨ι s,off*L.e.size,none⟩:Addr).add i=⟨ι s,off*L.e.size+i,none⟩:=by simp_all[Addr.add]
        rw[hadd]
        refine⟨⟨?_,h.tr.lt s hlv,fun t ht e=>?_⟩,?_⟩
        ·rcases h.my s hlv with h1 | h1
         ·exact .inr (.inl h1)
         ·exact .inr (.inr h1)
        ·have:=h.tr.inj t s ht hlv e
         subst this
         rw[hget]
         show off*L.e.size+i<L.l.length*L.e.size
         omega
        grind[World.cell?]
       ·cases hu
     ·cases hv
    ·cases hv
   ·cases hv
end
end Go.Abs
namespace Go.Abs
open Go.RowKit
set_option linter.unusedVariables false
set_option linter.unusedSimpArgs false
def vF:Nat→List OK→Tab
 | _,[]=>[]
 | b,k::r=>(b,⟨0,k⟩)::vF (b+1) r
theorem jR (d:Ob) (r:Tab):∀(l:List OK) (b t:Nat),aget d (vF b l++r) t=match (if b≤t then l[t-b]? else none) with | some k=>⟨0,k⟩ | none=>aget d r t
 | [],b,t=>by simp[vF]
 | k::l,b,t=>by
  simp only[vF,List.cons_append,aget]
  by_cases h:b=t
  ·subst h;simp
  ·rw[if_neg h,jR d r l (b+1) t]
   grind
def tabU (lb lf:List OK):Tab:=vF 1000000 lb++vF 2000000 lf
theorem get_tabU (lb lf:List OK) (t:Nat):(tabU lb lf).get t=match (if 1000000≤t then lb[t-1000000]? else none) with
  | some k=>⟨0,k⟩
  | none=>match (if 2000000≤t then lf[t-2000000]? else none) with
   | some k=>⟨0,k⟩
   | none=>⟨0,.dead⟩:=by
 unfold tabU Tab.get
 rw[jR]
 have:=jR ⟨0,.dead⟩ [] lf 2000000 t
 rw[List.append_nil] at this
 rw[this]
 rfl
def Spec (P:Program) (f:FuncId) (args:List V) (lb:List OK) (res:V) (lb' lf:List OK):Prop:=
 ∀(w:World) (cargs:Array Value) (β:Nat→Nat) (S:Addr→Prop),TR S (tabU lb []) β w→LR (Rv (tabU lb []) β (Stable S (tabU lb []) β w) w) args cargs.toList→
  Calls P f cargs w fun e w'=>∃v β',e=.returned v∧Kept (fun b=>∃t,(tabU lb []).live t∧β t=b) w w'∧
   TR (fun p=>S p∨w.heap.size≤p.block) (tabU lb' lf) β' w'∧
   Rv (tabU lb' lf) β' (Stable (fun p=>S p∨w.heap.size≤p.block) (tabU lb' lf) β' w') w' res v∧
   lb.length=lb'.length∧(∀j,j<lb.length→β' (1000000+j)=β (1000000+j))∧∀j,j<lf.length→w.heap.size≤β' (2000000+j)
section
variable {κ : Cx} {ι : Nat → Nat} {st : St} {a : Act} {w : World}
theorem call_to (h:RelI κ ι st a w) {T':Tab} {ι':Nat→Nat} {w':World} (bs fs:List Nat)
  (h1:∀t,t∉bs→t∉fs→T'.get t=st.o.get t∧ι' t=ι t)
  (h2:∀t∈bs,t∉fs∧ι' t=ι t∧∃ty cs cs',(st.o.get t).k=.box ty cs∧T'.get t=⟨(st.o.get t).gen,.box ty cs'⟩)
  (h3:∀t∈fs,(st.o.get t).gen<(T'.get t).gen∧w.heap.size≤ι' t)
  (hlt:∀t∈fs,T'.live t→ι' t<w'.heap.size) (hinj:∀t∈fs,∀u∈fs,T'.live t→T'.live u→ι' t=ι' u→t=u)
  (hk:Kept (fun b=>∃t∈bs,ι t=b) w w')
  (hob:Goes κ.D st.o ι w T' ι' w'→∀t,(t∈bs∨t∈fs)→ObRel T' ι' (Stable κ.D T' ι' w') w' (ι' t) (T'.get t).k):
  To κ st.o ι w T' ι' w':=by
 have live_bs:∀t∈bs,st.o.live t:=fun t ht=>by obtain⟨_,_,ty,cs,cs',hk,_⟩:=h2 t ht;simp[Tab.live,hk,OK.live]
 have other:∀t,st.o.live t→t∉bs→w'.heap[ι t]? = w.heap[ι t]?:=fun t hl hn=>
  hk.block _ (h.tr.lt t hl) fun⟨u,hu,e⟩=>hn (h.tr.inj u t (live_bs u hu) hl e▸hu)
 have H:Goes κ.D st.o ι w T' ι' w':=by
  refine⟨fun p hp=>?_,fun t=>?_,fun t hl hg=>?_,fun t g ty sz fz' cs' hT hg=>?_,fun t g ty fz nl L hT hg=>?_⟩
  ·have hnb:∀u∈bs,ι u≠p.block:=by
    intro u hu e
    have:=hp.2.2 u (live_bs u hu) e
    obtain⟨_,_,ty,cs,cs',hk,_⟩:=h2 u hu
    rw[hk] at this
    exact this
   refine⟨⟨hp.1,Nat.lt_of_lt_of_le hp.2.1 hk.size,fun t hl e=>?_⟩,cell_congr (hk.block _ hp.2.1 fun⟨u,hu,e⟩=>hnb u hu e)⟩
   by_cases hfs:t∈fs
   ·have:=(h3 t hfs).2
    have:=hp.2.1
    omega
   ·by_cases hbs:t∈bs
    ·exact absurd ((h2 t hbs).2.1▸e) (hnb t hbs)
    ·obtain⟨e1,e2⟩:=h1 t hbs hfs
     rw[e1]
     exact hp.2.2 t (by simpa [Tab.live,e1] using hl) (e2▸e)
  ·by_cases hfs:t∈fs
   ·exact Nat.le_of_lt (h3 t hfs).1
   ·by_cases hbs:t∈bs
    ·obtain⟨_,_,ty,cs,cs',_,e⟩:=h2 t hbs
     rw[e];exact Nat.le_refl _
    ·rw[(h1 t hbs hfs).1];exact Nat.le_refl _
  ·by_cases hfs:t∈fs
   ·have:=(h3 t hfs).1;omega
   ·by_cases hbs:t∈bs
    ·exact⟨live_bs t hbs,(h2 t hbs).2.1⟩
    ·obtain⟨e1,e2⟩:=h1 t hbs hfs
     exact⟨by simpa [Tab.live,e1] using hl,e2⟩
  ·by_cases hfs:t∈fs
   ·have:=(h3 t hfs).1;rw[hT] at this;simp at this;omega
   ·by_cases hbs:t∈bs
    ·obtain⟨_,_,ty1,cs,cs1,_,e⟩:=h2 t hbs
     rw[e] at hT
     simp at hT
    ·obtain⟨e1,e2⟩:=h1 t hbs hfs
     rw[e1] at hT
     refine⟨⟨ty,fz',cs',hT⟩,fun arr ty1 fz hh=>⟨arr,ty1,fz,?_,rfl⟩⟩
     rw[other t (by simp[Tab.live,hT,OK.live]) hbs]
     exact hh
  ·by_cases hfs:t∈fs
   ·have:=(h3 t hfs).1;rw[hT] at this;simp at this;omega
   ·by_cases hbs:t∈bs
    ·obtain⟨_,_,ty1,cs,cs1,_,e⟩:=h2 t hbs
     rw[e] at hT
     simp at hT
    ·obtain⟨e1,e2⟩:=h1 t hbs hfs
     rw[e1] at hT
     refine⟨⟨ty,fz,nl,L,hT,rfl,rfl,rfl⟩,fun hn arr ty1 fz hh=>⟨arr,ty1,fz,?_,rfl⟩⟩
     rw[other t (by simp only[Tab.live,hT,OK.live];exact hn) hbs]
     exact hh
 refine⟨H,⟨fun t=>?_,fun t u ht hu e=>?_,fun t hl=>?_⟩,fun t hl=>?_,?_⟩
 ·by_cases hx:t∈bs∨t∈fs
  ·exact hob H t hx
  ·obtain⟨e1,e2⟩:=h1 t (fun hb=>hx (.inl hb)) (fun hf=>hx (.inr hf))
   rw[e1,e2]
   by_cases hl:st.o.live t
   ·exact(h.tr.ob t).mono H (other t hl fun hb=>hx (.inl hb))
   ·cases hkk:(st.o.get t).k with
    | dead=>trivial
    | nrow ty fz nl L=>
     left
     by_cases hn:nl=true∧L.l=[]
     ·exact hn
     ·exact absurd (by simp only[Tab.live,hkk,OK.live];exact hn) hl
    | _=>exact absurd (by simp[Tab.live,hkk,OK.live]) hl
 ·have old:∀t,T'.live t→t∉fs→st.o.live t∧ι' t=ι t:=by
   intro t hl hf
   by_cases hbs:t∈bs
   ·exact⟨live_bs t hbs,(h2 t hbs).2.1⟩
   ·obtain⟨e1,e2⟩:=h1 t hbs hf
    exact⟨by simpa [Tab.live,e1] using hl,e2⟩
  by_cases hft:t∈fs<;>by_cases hfu:u∈fs
  ·exact hinj t hft u hfu ht hu e
  ·obtain⟨l1,e1⟩:=old u hu hfu
   have:=(h3 t hft).2
   have:=h.tr.lt u l1
   omega
  ·obtain⟨l1,e1⟩:=old t ht hft
   have:=(h3 u hfu).2
   have:=h.tr.lt t l1
   omega
  ·obtain⟨l1,e1⟩:=old t ht hft
   obtain⟨l2,e2⟩:=old u hu hfu
   exact h.tr.inj t u l1 l2 (by rw[←e1,←e2,e])
 ·by_cases hfs:t∈fs
  ·exact hlt t hfs hl
  ·by_cases hbs:t∈bs
   ·rw[(h2 t hbs).2.1]
    exact Nat.lt_of_lt_of_le (h.tr.lt t (live_bs t hbs)) hk.size
   ·obtain⟨e1,e2⟩:=h1 t hbs hfs
    rw[e2]
    exact Nat.lt_of_lt_of_le (h.tr.lt t (by simpa [Tab.live,e1] using hl)) hk.size
 ·by_cases hfs:t∈fs
  ·exact .inl (Nat.le_trans h.kept.size (h3 t hfs).2)
  ·by_cases hbs:t∈bs
   ·rw[(h2 t hbs).2.1];exact h.my t (live_bs t hbs)
   ·obtain⟨e1,e2⟩:=h1 t hbs hfs
    rw[e2];exact h.my t (by simpa [Tab.live,e1] using hl)
 ·exact h.kept.then hk fun i _ ⟨u,hu,e⟩=>by rw[←e];exact h.my u (live_bs u hu)
def qX (n:Nat) (T:Tab) (bs:List Nat) (v:V):Option (V×List Nat×List Nat):=
 match v with
 | .ptr s g off=>if (T.get s).gen=g then(match (T.get s).k with
  | .box _ _=>match bs.idxOf? s with
   | some j=>some (.ptr (1000000+j) 0 off,[],bs)
   | none=>some (.ptr (1000000+bs.length) 0 off,[],bs++[s])
  | _=>none) else none
 | v=>match view n T v with
  | some (x,l)=>some (x,l,bs)
  | none=>none
def viewL (f:List Nat→V→Option (V×List Nat×List Nat)):List Nat→List V→Option (List V×List Nat×List Nat)
 | bs,[]=>some ([],[],bs)
 | bs,v::r=>match f bs v with
  | some (x,l,bs')=>match viewL f bs' r with
   | some (xs,l',bs'')=>some (x::xs,l++l',bs'')
   | none=>none
  | none=>none
def viewA (n:Nat) (T:Tab) (bs:List Nat) (v:V):Option (V×List Nat×List Nat):=
 match v with
 | .fn f cs=>match viewL (qX n T) bs cs with
  | some (xs,l,bs')=>some (.fn f xs,l,bs')
  | none=>none
 | v=>qX n T bs v
def boxesOf (n:Nat) (T:Tab):List Nat→Option (List OK×List Nat)
 | []=>some ([],[])
 | s::r=>match (T.get s).k with
  | .box ty cs=>match mapV (view n T) cs with
   | some (xs,l)=>match boxesOf n T r with
    | some (ks,l')=>some (.box ty xs::ks,l++l')
    | none=>none
   | none=>none
  | _=>none
def RA (st:St) (κ:Cx) (ι:Nat→Nat) (w:World) (bs:List Nat) (x:V) (cv:Value):Prop:=
 Rp (Stable κ.D st.o ι w) w x cv∨
 (∃j off s,bs[j]? = some s∧x=.ptr (1000000+j) 0 off∧cv=.pointer (some ⟨ι s,off,none⟩))∨
 (∃f xs us,x=.fn f xs∧cv=.func (.func f) #[] ⟨us⟩∧LR (fun x u=>Rp (Stable κ.D st.o ι w) w x u∨∃j off s,bs[j]? = some s∧x=.ptr (1000000+j) 0 off∧u=.pointer (some ⟨ι s,off,none⟩)) xs us)
theorem kh {n:Nat} {T:Tab} {bs bs':List Nat} {v x:V} {l:List Nat} (h:qX n T bs v=some (x,l,bs')):∃r,bs'=bs++r:=by
 unfold qX at h
 split at h
 ·split at h
  ·split at h
   ·split at h
    ·simp_all
    grind
   ·cases h
  ·cases h
 ·split at h
  ·simp_all
  ·cases h
theorem xl {f:List Nat→V→Option (V×List Nat×List Nat)} (hf:∀bs v x l bs',f bs v=some (x,l,bs')→∃r,bs'=bs++r):
  ∀(vs:List V) (bs bs':List Nat) (xs:List V) (l:List Nat),viewL f bs vs=some (xs,l,bs')→∃r,bs'=bs++r
 | [],bs,bs',xs,l,h=>by simp[viewL] at h;exact⟨[],by simp[h.2.2]⟩
 | v::r,bs,bs',xs,l,h=>by
  simp only[viewL] at h
  split at h
  ·rename_i x l1 bs1 h1
   split at h
   ·rename_i ys l2 bs2 h2
    simp at h
    obtain⟨r1,e1⟩:=hf _ _ _ _ _ h1
    obtain⟨r2,e2⟩:=xl hf r bs1 bs2 ys l2 h2
    exact⟨r1++r2,by rw[←h.2.2,e2,e1,List.append_assoc]⟩
   ·cases h
  ·cases h
theorem xm {n:Nat} {T:Tab} {bs bs':List Nat} {v x:V} {l:List Nat} (h:viewA n T bs v=some (x,l,bs')):∃r,bs'=bs++r:=by
 (unfold viewA at h<;>grind[viewA,xl,kh])
theorem ja {f:List Nat→V→Option (V×List Nat×List Nat)} {R:V→Value→Prop} {R':List Nat→V→Value→Prop} (hpre:∀bs v x l bs',f bs v=some (x,l,bs')→∃r,bs'=bs++r)
  (hmono:∀bs r x u,R' bs x u→R' (bs++r) x u):∀(vs:List V) (bs bs':List Nat) (xs:List V) (l:List Nat) (us:List Value),viewL f bs vs=some (xs,l,bs')→LR R vs us→
  (∀bs v x l' bs1 u,v∈vs→f bs v=some (x,l',bs1)→(∀s∈l',s∈l)→R v u→R' bs1 x u)→LR (R' bs') xs us
 | [],bs,bs',xs,l,us,h,hr,hf=>by
  simp[viewL] at h
  obtain⟨rfl,rfl,rfl⟩:=h
  have:us=[]:=List.eq_nil_of_length_eq_zero (by simpa using hr.1.symm)
  subst this
  exact .nil
 | v::r,bs,bs',xs,l,us,h,hr,hf=>by
  obtain⟨u,us',rfl,hu,hr'⟩:=hr.head
  simp only[viewL] at h
  split at h
  ·rename_i x l1 bs1 h1
   split at h
   ·rename_i ys l2 bs2 h2
    simp at h
    obtain⟨rfl,rfl,rfl⟩:=h
    obtain⟨r2,e2⟩:=xl hpre r bs1 bs2 ys l2 h2
    refine .cons ?_ (ja hpre hmono r bs1 bs2 ys l2 us' h2 hr' fun bs v x l' bs1 u hm hv hs hu=>hf bs v x l' bs1 u (by simp[hm]) hv (fun s hs'=>by simp[hs s hs']) hu)
    grind
   ·cases h
  ·cases h
theorem vC (h:RelI κ ι st a w) {T:Tab} {n:Nat} {bs bs':List Nat} {v x:V} {l:List Nat} {cv:Value} (hv:qX n T bs v=some (x,l,bs'))
  (hl:∀s∈l,(st.o.get s).k=(T.get s).k.freeze∧(st.o.get s).gen=(T.get s).gen) (hbox:∀s ty cs,(T.get s).k=.box ty cs→st.o.get s=T.get s)
  (hr:Rv st.o ι (Stable κ.D st.o ι w) w v cv):
  Rp (Stable κ.D st.o ι w) w x cv∨∃j off s,bs'[j]? = some s∧x=.ptr (1000000+j) 0 off∧cv=.pointer (some ⟨ι s,off,none⟩):=by
 unfold qX at hv
 split at hv
 ·rename_i s g off
  split at hv
  ·rename_i hg
   split at hv
   ·rename_i ty cs hk
    have he:=hbox s ty cs hk
    have hp:=hr.ptr_ (by grind) (by simp[Tab.live,he,hk,OK.live])
    split at hv
    ·rename_i j hj
     simp at hv
     obtain⟨rfl,rfl,rfl⟩:=hv
     have:bs[j]? = some s:=by
      grind[List.idxOf?_eq_some_iff,List.getElem?_eq_getElem]
     grind
    grind
   ·cases hv
  ·cases hv
 ·split at hv
  ·rename_i y l1 h1
   simp at hv
   obtain⟨rfl,rfl,rfl⟩:=hv
   grind[view_ok]
  ·cases hv
theorem kg (h:RelI κ ι st a w) {T:Tab} {n:Nat} {bs bs':List Nat} {v x:V} {l:List Nat} {cv:Value} (hv:viewA n T bs v=some (x,l,bs'))
  (hl:∀s∈l,(st.o.get s).k=(T.get s).k.freeze∧(st.o.get s).gen=(T.get s).gen) (hbox:∀s ty cs,(T.get s).k=.box ty cs→st.o.get s=T.get s)
  (hr:Rv st.o ι (Stable κ.D st.o ι w) w v cv):RA st κ ι w bs' x cv:=by
 unfold viewA at hv
 split at hv
 ·rename_i f cs
  split at hv
  ·rename_i xs l1 bs1 h1
   simp at hv
   obtain⟨rfl,rfl,rfl⟩:=hv
   obtain⟨us,rfl,hlen,hh⟩:=hr.fn_
   refine .inr (.inr ⟨f,xs,us,rfl,rfl,?_⟩)
   refine ja (R:=Rv st.o ι (Stable κ.D st.o ι w) w) (R':=fun bs x u=>Rp (Stable κ.D st.o ι w) w x u∨∃j off s,bs[j]? = some s∧x=.ptr (1000000+j) 0 off∧u=.pointer (some ⟨ι s,off,none⟩))
    (fun _ _ _ _ _=>kh) (fun bs r x u hxu=>?_) cs bs bs1 xs l1 us h1 ⟨hlen,hh⟩ fun bs v x l' bs2 u hm hv' hs hu=>vC h hv' (fun s hs'=>hl s (hs s hs')) hbox hu
   grind
  ·cases hv
 ·rcases vC h hv hl hbox hr with hp | hp
  ·exact .inl hp
  ·exact .inr (.inl hp)
end
end Go.Abs
namespace Go.Abs
open Go.RowKit
set_option linter.unusedVariables false
set_option linter.unusedSimpArgs false
abbrev Orc:=Nat→List V→List OK→Option (V×List OK×List OK)
def revive (T:Tab):List Nat→List OK→Option Tab
 | [],[]=>some T
 | s::r,k::lb'=>match (T.get s).k,k with
  | .box ty _,.box ty' cs=>if ty=ty'∧pureL cs=true then revive (T.put s ⟨(T.get s).gen,.box ty cs⟩) r lb' else none
  | _,_=>none
 | _,_=>none
def okFresh:OK→Bool
 | .row _ _ _ cs=>pureL cs
 | .box _ cs=>pureL cs
 | .nrow _ _ _ _=>true
 | _=>false
def fsite (d j:Nat):Nat:=d+100000*j
def fresh (bs:List Nat) (d:Nat) (T:Tab):Nat→List OK→Option Tab
 | _,[]=>some T
 | j,k::r=>if okFresh k=true∧bs.contains (fsite d j)=false then fresh bs d (T.put (fsite d j) ⟨(T.get (fsite d j)).gen+1,k⟩) (j+1) r else none
def ren1 (T:Tab) (bs:List Nat) (d nf:Nat) (v:V):Option V:=
 match v with
 | .acc t 0=>if 2000000≤t∧t-2000000<nf then some (.acc (fsite d (t-2000000)) (T.get (fsite d (t-2000000))).gen) else none
 | .own t 0 off n=>if 2000000≤t∧t-2000000<nf then some (.own (fsite d (t-2000000)) (T.get (fsite d (t-2000000))).gen off n) else none
 | .ptr t 0 off=>if 2000000≤t then(if t-2000000<nf then some (.ptr (fsite d (t-2000000)) (T.get (fsite d (t-2000000))).gen off) else none)
   else if 1000000≤t then(match bs[t-1000000]? with
    | some s=>some (.ptr s (T.get s).gen off)
    | none=>none) else none
 | v=>if v.pure=true then some v else none
def renL (T:Tab) (bs:List Nat) (d nf:Nat):List V→Option (List V)
 | []=>some []
 | v::r=>match ren1 T bs d nf v,renL T bs d nf r with
  | some x,some xs=>some (x::xs)
  | _,_=>none
def ren (T:Tab) (bs:List Nat) (d nf:Nat) (v:V):Option V:=
 match v with
 | .tup vs=>(renL T bs d nf vs).map .tup
 | v=>ren1 T bs d nf v
mutual
def V.flat:V→Bool
 | .bool _ | .bs _ | .int _ _ | .str _ | .snil | .pnil | .inil | .fnil=>true
 | .agg cs=>z6 cs
 | .tup cs=>z6 cs
 | .ifc _ v=>v.flat
 | .fn _ cs=>z6 cs
 | _=>false
def z6:List V→Bool
 | []=>true
 | v::r=>v.flat&&z6 r
end
theorem qP:∀{cs:List V},z6 cs=true→∀(i:Nat) (d:V),cs[i]? = some d→d.flat=true
 | [],_,i,d,h=>by simp at h
 | v::r,hp,i,d,h=>by
  simp only[z6,Bool.and_eq_true] at hp
  cases i with
  | zero=>simp at h;subst h;exact hp.1
  | succ i=>exact qP hp.2 i d (by simpa using h)
theorem xf {S S':Addr→Prop} {w w':World} {d:V} {v:Value} (h:Rp S w d v) (hf:d.flat=true):Rp S' w' d v:=by
 induction h with
 | bool b=>exact .bool b
 | int k n=>exact .int k n
 | str b s h=>exact .str b s h
 | snil=>exact .snil
 | sl hc hm hl h ih=>simp[V.flat] at hf
 | slz=>simp[V.flat] at hf
 | sz=>simp[V.flat] at hf
 | bs h ih=>exact .bs (ih rfl)
 | lst h ih=>simp[V.flat] at hf
 | nl h ih=>simp[V.flat] at hf
 | si h ih=>simp[V.flat] at hf
 | eref h ih=>simp[V.flat] at hf
 | cref hm hl h ih=>simp[V.flat] at hf
 | pnil=>exact .pnil
 | agg hl h ih=>simp only[V.flat] at hf;exact .agg hl fun i d u hd hu=>ih i d u hd hu (qP hf i d hd)
 | tup hl h ih=>simp only[V.flat] at hf;exact .tup hl fun i d u hd hu=>ih i d u hd hu (qP hf i d hd)
 | ifc h ih=>simp only[V.flat] at hf;exact .ifc (ih hf)
 | inil=>exact .inil
 | fn hl h ih=>simp only[V.flat] at hf;exact .fn hl fun i d u hd hu=>ih i d u hd hu (qP hf i d hd)
 | fnil=>exact .fnil
mutual
theorem V.flat_pure:∀(v:V),v.flat=true→v.pure=true
 | .agg cs,h=>by simp only[V.flat] at h;simp only[V.pure];exact zV cs h
 | .tup cs,h=>by simp only[V.flat] at h;simp only[V.pure];exact zV cs h
 | .ifc _ v,h=>by simp only[V.flat] at h;simp only[V.pure];exact V.flat_pure v h
 | .fn _ cs,h=>by simp only[V.flat] at h;simp only[V.pure];exact zV cs h
 | .bool _,_ | .bs _,_ | .int _ _,_ | .str _,_ | .snil,_ | .pnil,_ | .inil,_ | .fnil,_=>rfl
theorem zV:∀(l:List V),z6 l=true→pureL l=true
 | [],_=>rfl
 | v::r,h=>by simp_all[z6,Bool.and_eq_true,pureL,V.flat_pure,zV]
end
def zs (res:V) (bs:List Nat) (lf:List OK) (l:List Nat):List Nat:=if bs.isEmpty&&lf.isEmpty&&res.flat then [] else l
theorem Q4 {res:V} {bs:List Nat} {lf:List OK} {l:List Nat} {s:Nat} (h:s∈zs res bs lf l):s∈l:=by
 grind[zs]
def depth:Nat:=8
def aCall (Γ:Orc) (T:Tab) (f:Nat) (args:List V) (d:Nat):Option (V×Tab):=
 match viewL (viewA depth T) [] args with
 | some (xs,l,bs)=>
  if bs.Nodup∧bs.length<1000000 then
   match boxesOf depth T bs with
   | some (lb,l2)=>
    match Γ f xs lb with
    | some (res,lb',lf)=>
     if lf.length≤4 then
      match revive (T.freezes (zs res bs lf (l++l2))) bs lb' with
      | some T2=>match fresh bs d T2 0 lf with
       | some T3=>(ren T3 bs d lf.length res).map fun v=>(v,T3)
       | none=>none
      | none=>none
     else none
    | none=>none
   | none=>none
  else none
 | none=>none
theorem xu:∀(bs:List Nat) (lb':List OK) (T T2:Tab),bs.Nodup→revive T bs lb'=some T2→bs.length=lb'.length∧(∀t,t∉bs→T2.get t=T.get t)∧
  ∀(j s:Nat),bs[j]? = some s→∃ty cs cs',(T.get s).k=.box ty cs∧lb'[j]? = some (.box ty cs')∧pureL cs'=true∧T2.get s=⟨(T.get s).gen,.box ty cs'⟩
 | [],[],T,T2,_,h=>by simp[revive] at h;subst h;simp
 | [],_::_,T,T2,_,h=>by simp[revive] at h
 | _::_,[],T,T2,_,h=>by simp[revive] at h
 | s::r,k::lb',T,T2,hn,h=>by
  simp only[List.nodup_cons] at hn
  simp only[revive] at h
  split at h
  ·rename_i ty cs ty' cs' hk
   split at h
   ·rename_i hc
    obtain⟨rfl,hp⟩:=hc
    obtain⟨h0,h1,h2⟩:=xu r lb' _ T2 hn.2 h
    refine⟨by simp[h0],fun t ht=>?_,fun j u hu=>?_⟩
    ·simp only[List.mem_cons,not_or] at ht
     rw[h1 t ht.2,Tab.get_put,if_neg (Ne.symm ht.1)]
    ·cases j with
     | zero=>
      simp at hu;subst hu
      exact⟨ty,cs,cs',hk,rfl,hp,by rw[h1 s hn.1,Tab.get_put,if_pos rfl]⟩
     | succ j=>
      simp at hu
      obtain⟨ty1,cs1,cs1',e1,e2,e3,e4⟩:=h2 j u hu
      have hne:s≠u:=by rintro rfl;exact hn.1 (List.mem_of_getElem? hu)
      rw[Tab.get_put,if_neg hne] at e1 e4
      exact⟨ty1,cs1,cs1',e1,by simpa using e2,e3,e4⟩
   ·cases h
  ·cases h
theorem jv {d i j:Nat} (h:fsite d i=fsite d j):i=j:=by grind[fsite]
theorem kX (bs:List Nat) (d:Nat):∀(lf:List OK) (j0:Nat) (T T3:Tab),fresh bs d T j0 lf=some T3→(∀t,(∀j,j<lf.length→t≠fsite d (j0+j))→T3.get t=T.get t)∧
  ∀(j:Nat) (k:OK),lf[j]? = some k→okFresh k=true∧fsite d (j0+j)∉bs∧T3.get (fsite d (j0+j))=⟨(T.get (fsite d (j0+j))).gen+1,k⟩
 | [],j0,T,T3,h=>by grind[fresh]
 | k::r,j0,T,T3,h=>by
  simp only[fresh] at h
  split at h
  ·rename_i hc
   obtain⟨h1,h2⟩:=kX bs d r (j0+1) _ T3 h
   refine⟨fun t ht=>?_,fun j k' hk=>?_⟩
   ·rw[h1 t fun j hj=>by have:=ht (j+1) (by simp;omega);grind,Tab.get_put,if_neg]
    exact fun e=>ht 0 (by simp) (by rw[←e];rfl)
   ·cases j with
    | zero=>
     grind[jv,Tab.get_put]
    | succ j=>
     simp at hk
     obtain⟨a1,a2,a3⟩:=h2 j k' hk
     rw[show j0+1+j=j0+(j+1) from by omega] at a2 a3
     refine⟨a1,a2,?_⟩
     rw[a3,Tab.get_put,if_neg]
     grind[jv]
  ·cases h
theorem vk {n:Nat} {T:Tab}:∀(bs:List Nat) (lb:List OK) (l2:List Nat),boxesOf n T bs=some (lb,l2)→lb.length=bs.length∧
  ∀(j s:Nat),bs[j]? = some s→∃ty cs xs l',(T.get s).k=.box ty cs∧lb[j]? = some (.box ty xs)∧mapV (view n T) cs=some (xs,l')∧∀s'∈l',s'∈l2
 | [],lb,l2,h=>by simp[boxesOf] at h;obtain⟨rfl,rfl⟩:=h;simp
 | s::r,lb,l2,h=>by
  simp only[boxesOf] at h
  split at h
  ·rename_i ty cs hk
   split at h
   ·rename_i xs l hm
    split at h
    ·rename_i ks l' hr
     simp at h
     obtain⟨rfl,rfl⟩:=h
     obtain⟨h0,h1⟩:=vk r ks l' hr
     refine⟨by simp[h0],fun j u hu=>?_⟩
     cases j with
     | zero=>simp at hu;subst hu;exact⟨ty,cs,xs,l,hk,rfl,hm,fun s' hs'=>by simp[hs']⟩
     | succ j=>
      simp at hu
      obtain⟨ty1,cs1,xs1,l1,e1,e2,e3,e4⟩:=h1 j u hu
      exact⟨ty1,cs1,xs1,l1,e1,by simpa using e2,e3,fun s' hs'=>by simp[e4 s' hs']⟩
    ·cases h
   ·cases h
  ·cases h
theorem kR {f:V→Option (V×List Nat)}:∀(cs xs:List V) (l:List Nat),mapV f cs=some (xs,l)→xs.length=cs.length
 | [],xs,l,h=>by simp[mapV] at h;rw[h.1]
 | v::r,xs,l,h=>by
  simp only[mapV] at h
  split at h
  ·split at h
   ·rename_i ys l2 hm
    simp at h
    rw[←h.1]
    simp[kR r ys l2 hm]
   ·cases h
  ·cases h
theorem pure_lr {T:Tab} {ι:Nat→Nat} {S S':Addr→Prop} {w:World} {T':Tab} {ι':Nat→Nat} (hs:∀p,S p→S' p) {v:V} {cv:Value} (hp:v.pure=true) (h:Rv T ι S w v cv):Rv T' ι' S' w v cv:=
 .pure ((h.pure_ hp).mono fun p hp=>⟨hs p hp,rfl⟩)
section
variable {κ : Cx} {ι : Nat → Nat} {st : St} {a : Act} {w : World}
theorem kI {T:Tab} {bs:List Nat} {d nf:Nat} {v:V} (h:v.pure=true):ren1 T bs d nf v=some v:=by
 unfold ren1
 split
 ·cases h
 ·cases h
 ·cases h
 ·rw[if_pos h]
theorem kH {T:Tab} {bs:List Nat} {d nf:Nat}:∀{l:List V},pureL l=true→renL T bs d nf l=some l
 | [],_=>rfl
 | v::l,h=>by
  simp_all[pureL,Bool.and_eq_true,renL,kI,kH]
theorem Je {T:Tab} {bs:List Nat} {d nf:Nat} {v:V} (h:v.pure=true):ren T bs d nf v=some v:=by
 (unfold ren<;>grind[ren,V.pure,kH,kI])
theorem ZC {Γ:Orc} (hΓ:∀f xs lb res lb' lf,Γ f xs lb=some (res,lb',lf)→Spec κ.P f xs lb res lb' lf) (h:RelI κ ι st a w) {f:Nat} {args xs:List V} {l:List Nat} {res:V} {lb':List OK} {cargs:Array Value}
  (hview:viewL (viewA depth st.o) [] args=some (xs,l,[])) (hg:Γ f xs []=some (res,lb',[])) (hfl:res.flat=true) (hr:LR (Rv st.o ι (Stable κ.D st.o ι w) w) args cargs.toList):
  Calls κ.P f cargs w fun e w'=>∃cv ι',e=.returned cv∧To κ st.o ι w st.o ι' w'∧Rv st.o ι' (Stable κ.D st.o ι' w') w' res cv:=by
 have hto1:=To.freezes h l
 have h1:=To.rel h hto1
 generalize hT1:st.o.freezes l=T1 at *
 have hgetF:∀s,T1.get s=if s∈l then⟨(st.o.get s).gen,(st.o.get s).k.freeze⟩ else st.o.get s:=fun s=>by grind[Tab.get_freezes]
 have hfz:∀s,s∈l→(T1.get s).k=(st.o.get s).k.freeze∧(T1.get s).gen=(st.o.get s).gen:=fun s hs=>by grind
 have hbx:∀s ty cs,(st.o.get s).k=.box ty cs→T1.get s=st.o.get s:=by
  intro s ty cs hk
  rw[hgetF]
  split
  ·cases hs:st.o.get s;rw[hs] at hk;simp at hk;subst hk;rfl
  ·rfl
 let β:Nat→Nat:=fun _=>0
 let S:Addr→Prop:=Stable κ.D T1 ι w
 have hdead:∀t,(tabU [] []).get t=⟨0,.dead⟩:=by
  grind[get_tabU]
 have hnl:∀t,¬(tabU [] []).live t:=fun t hl=>by grind[Tab.live,OK.live]
 have hSB:∀p,S p→Stable S (tabU [] []) β w p:=fun p hp=>⟨hp,hp.2.1,fun t hl e=>absurd hl (hnl t)⟩
 have hTRB:TR S (tabU [] []) β w:=⟨fun t=>by rw[hdead t];trivial,fun t u ht hu e=>absurd ht (hnl t),fun t ht=>absurd ht (hnl t)⟩
 have hargs:LR (Rv (tabU [] []) β (Stable S (tabU [] []) β w) w) xs cargs.toList:=by
  have hra:=ja (R:=Rv T1 ι (Stable κ.D T1 ι w) w) (R':=fun bs x u=>RA { st with o:=T1 } κ ι w bs x u) (fun _ _ _ _ _=>xm) (fun bs r x u hxu=>?_) args [] [] xs l cargs.toList hview
   (hr.mono fun d u hd=>hd.mono hto1.goes) fun bs v x l' bs2 u hm hv hs hu=>kg h1 hv (fun s hs'=>hfz s (hs s hs')) hbx hu
  ·refine hra.mono fun x u hxu=>?_
   rcases hxu with hp | ⟨j,off,s,hj,rfl,rfl⟩ | ⟨f,ys,us,rfl,rfl,hl⟩
   ·exact .pure (hp.mono fun p hp=>⟨hSB p hp,rfl⟩)
   ·simp at hj
   ·have:=hl.mono (R':=Rv (tabU [] []) β (Stable S (tabU [] []) β w) w) fun x u hxu=>by
     rcases hxu with hp | ⟨j,off,s,hj,rfl,rfl⟩
     ·exact .pure (hp.mono fun p hp=>⟨hSB p hp,rfl⟩)
     ·simp at hj
    exact .fn this.1 this.2
  ·rcases hxu with hp | ⟨j,off,s,hj,e1,e2⟩ | ⟨f,ys,us,e1,e2,hl⟩
   ·exact .inl hp
   ·exact .inr (.inl ⟨j,off,s,by grind,e1,e2⟩)
   ·(refine .inr (.inr ⟨f,ys,us,e1,e2,hl.mono fun x u hxu=>?_⟩)<;>grind[List.getElem?_append_left,List.getElem?_eq_some_iff])
 refine(hΓ f xs [] res lb' [] hg w cargs β S hTRB hargs).mono fun e w'=>?_
 rintro⟨cv,β',rfl,hkept,htrU,hres,hlen,hβ1,hβ2⟩
 refine⟨cv,ι,rfl,?_,.pure (xf (hres.pure_ (V.flat_pure res hfl)) hfl)⟩
 refine call_to h [] [] (fun t _ _=>⟨rfl,rfl⟩) (fun t ht=>by simp at ht) (fun t ht=>by simp at ht) (fun t ht=>by simp at ht) (fun t ht=>by simp at ht) ?_ (fun _ t ht=>by simp at ht)
 grind
theorem XQ {Γ:Orc} (hΓ:∀f xs lb res lb' lf,Γ f xs lb=some (res,lb',lf)→Spec κ.P f xs lb res lb' lf) (h:RelI κ ι st a w) {f d:Nat} {args:List V} {v:V} {T':Tab} {cargs:Array Value}
  (hx:aCall Γ st.o f args d=some (v,T')) (hr:LR (Rv st.o ι (Stable κ.D st.o ι w) w) args cargs.toList):
  Calls κ.P f cargs w fun e w'=>∃cv ι',e=.returned cv∧To κ st.o ι w T' ι' w'∧Rv T' ι' (Stable κ.D T' ι' w') w' v cv:=by
 unfold aCall at hx
 split at hx
 ·rename_i xs l bs hview
  split at hx
  ·rename_i hndl
   obtain⟨hnd,hbl⟩:=hndl
   split at hx
   ·rename_i lb l2 hbox
    split at hx
    ·rename_i res lb' lf hg
     split at hx
     case isFalse=>cases hx
     rename_i hlf4
     split at hx
     ·rename_i T2 hrev
      split at hx
      ·rename_i T3 hfresh
       cases hren:ren T3 bs d lf.length res with
       | none=>grind
       | some v'=>
        simp[hren] at hx
        obtain⟨rfl,rfl⟩:=hx
        by_cases hflat:(bs.isEmpty&&lf.isEmpty&&res.flat)=true
        ·simp only[Bool.and_eq_true,List.isEmpty_iff] at hflat
         obtain⟨⟨hb0,hf0⟩,hfl⟩:=hflat
         subst hb0;subst hf0
         simp[boxesOf] at hbox
         obtain⟨rfl,rfl⟩:=hbox
         have hz:zs res [] [] (l++[])=[]:=by simp[zs,hfl]
         rw[hz] at hrev
         have hlb0:lb'=[]:=by (cases lb'<;>simp_all[revive])
         subst hlb0
         simp[revive] at hrev
         subst hrev
         simp[fresh] at hfresh
         subst hfresh
         rw[Je (V.flat_pure res hfl)] at hren
         injection hren with hren;subst hren
         exact ZC hΓ h hview hg hfl hr
        rw[show zs res bs lf (l++l2)=l++l2 from by grind[zs]] at hrev
        have hto1:=To.freezes h (l++l2)
        have h1:=To.rel h hto1
        generalize hT1:st.o.freezes (l++l2)=T1 at *
        have hgetF:∀s,T1.get s=if s∈l++l2 then⟨(st.o.get s).gen,(st.o.get s).k.freeze⟩ else st.o.get s:=fun s=>by grind[Tab.get_freezes]
        have hfz:∀s,s∈l∨s∈l2→(T1.get s).k=(st.o.get s).k.freeze∧(T1.get s).gen=(st.o.get s).gen:=fun s hs=>by grind
        have hbx:∀s ty cs,(st.o.get s).k=.box ty cs→T1.get s=st.o.get s:=by
         intro s ty cs hk
         rw[hgetF]
         split
         ·cases hs:st.o.get s;rw[hs] at hk;simp at hk;subst hk;rfl
         ·rfl
        obtain⟨hlb,hboxes⟩:=vk bs lb l2 hbox
        obtain⟨hlb',hnotbs,hrevs⟩:=xu bs lb' T1 T2 hnd hrev
        obtain⟨hnotf,hfr⟩:=kX bs d lf 0 T2 T3 hfresh
        simp only[Nat.zero_add] at hnotf hfr
        let β:Nat→Nat:=fun t=>match bs[t-1000000]? with | some s=>ι s | none=>0
        let S:Addr→Prop:=Stable κ.D T1 ι w
        have getB:∀t k,(tabU lb []).get t=⟨0,k⟩→k.live→∃j s,t=1000000+j∧bs[j]? = some s∧lb[j]? = some k∧β t=ι s:=by
         intro t k hk hl
         rw[get_tabU] at hk
         split at hk
         ·rename_i k' hk'
          split at hk'
          ·rename_i hge
           injection hk with _ e;subst e
           have hj:t-1000000<bs.length:=by grind
           (refine⟨t-1000000,bs[t-1000000],by omega,List.getElem?_eq_getElem hj,hk',?_⟩<;>grind[List.getElem?_eq_getElem])
          ·cases hk'
         ·split at hk
          ·grind
          ·injection hk with _ e;subst e;exact hl.elim
        have liveB:∀t,(tabU lb []).live t→∃j s k,t=1000000+j∧bs[j]? = some s∧lb[j]? = some k∧β t=ι s∧(tabU lb []).get t=⟨0,k⟩:=by
         intro t hl
         have hg0:((tabU lb []).get t).gen=0:=by
          grind[get_tabU]
         have hgk:(tabU lb []).get t=⟨0,((tabU lb []).get t).k⟩:=by (cases hq:(tabU lb []).get t<;>grind[tabU,get])
         (obtain⟨j,s,e1,e2,e3,e4⟩:=getB t _ hgk hl<;>grind)
        have boxT1:∀(j s:Nat),bs[j]? = some s→∃ty cs,(T1.get s).k=.box ty cs:=by
         grind
        have hSB:∀p,S p→Stable S (tabU lb []) β w p:=by
         intro p hp
         refine⟨hp,hp.2.1,fun t hl e=>?_⟩
         obtain⟨j,s,k,_,hs,_,hβ,_⟩:=liveB t hl
         obtain⟨ty,cs,hk⟩:=boxT1 j s hs
         have:=hp.2.2 s (by simp[Tab.live,hk,OK.live]) (by rw[←hβ,e])
         rw[hk] at this
         exact this.elim
        have hTRB:TR S (tabU lb []) β w:=by
         refine⟨fun t=>?_,fun t u ht hu e=>?_,fun t ht=>?_⟩
         ·by_cases hl:(tabU lb []).live t
          ·obtain⟨j,s,k,rfl,hs,hk,hβ,hget⟩:=liveB t hl
           obtain⟨ty,cs,ys,l',hks,hlbj,hm,hsub⟩:=hboxes j s hs
           rw[hk] at hlbj;injection hlbj with hlbj;subst hlbj
           rw[hget,hβ]
           have hob:=h1.tr.ob s
           simp only[hbx s ty cs hks,hks] at hob
           obtain⟨arr,fz,a1,a2,a3,a4⟩:=hob
           have hlr:=zq (R':=Rp (Stable κ.D T1 ι w) w) cs ys l' arr.toList hm ⟨by simpa using a3.symm,a4⟩ fun v x l'' u _ hv hs'' hu=>
            view_ok h1 depth v x l'' u hv (fun s' hs'=>hfz s' (.inr (hsub s' (hs'' s' hs')))) hu
           exact⟨arr,fz,a1,a2,by rw[hlr.1];simp,fun i dd u hd hu=>.pure ((hlr.2 i dd u hd hu).mono fun p hp=>⟨hSB p hp,rfl⟩)⟩
          ·cases hkk:((tabU lb []).get t).k with
           | dead=>trivial
           | nrow ty fz nl L=>
            (left<;>grind[absurd,Tab.live,OK.live])
           | _=>exact absurd (by simp[Tab.live,hkk,OK.live]) hl
         ·obtain⟨i,s,k,rfl,hs,_,hβ,_⟩:=liveB t ht
          obtain⟨j,s',k',rfl,hs',_,hβ',_⟩:=liveB u hu
          obtain⟨ty,cs,hk1⟩:=boxT1 i s hs
          obtain⟨ty',cs',hk2⟩:=boxT1 j s' hs'
          have:s=s':=h1.tr.inj s s' (by simp[Tab.live,hk1,OK.live]) (by simp[Tab.live,hk2,OK.live]) (by grind)
          grind[hi,List.getElem?_eq_some_iff,List.getElem?_inj]
         ·obtain⟨i,s,k,rfl,hs,_,hβ,_⟩:=liveB t ht
          obtain⟨ty,cs,hk1⟩:=boxT1 i s hs
          rw[hβ]
          exact h1.tr.lt s (by simp[Tab.live,hk1,OK.live])
        have ptrB:∀(j off s:Nat),bs[j]? = some s→Rv (tabU lb []) β (Stable S (tabU lb []) β w) w (.ptr (1000000+j) 0 off) (.pointer (some ⟨ι s,off,none⟩)):=by
         intro j off s hs
         refine .ptr ⟨_,rfl⟩ (Nat.zero_le _) fun _ _=>?_
         grind
        have hargs:LR (Rv (tabU lb []) β (Stable S (tabU lb []) β w) w) xs cargs.toList:=by
         have hra:=ja (R:=Rv T1 ι (Stable κ.D T1 ι w) w) (R':=fun bs x u=>RA { st with o:=T1 } κ ι w bs x u) (fun _ _ _ _ _=>xm) (fun bs r x u hxu=>?_) args [] bs xs l cargs.toList hview
          (hr.mono fun d u hd=>hd.mono hto1.goes) fun bs v x l' bs2 u hm hv hs hu=>kg h1 hv (fun s hs'=>hfz s (.inl (hs s hs'))) hbx hu
         ·refine hra.mono fun x u hxu=>?_
          rcases hxu with hp | ⟨j,off,s,hj,rfl,rfl⟩ | ⟨f,ys,us,rfl,rfl,hl⟩
          ·exact .pure (hp.mono fun p hp=>⟨hSB p hp,rfl⟩)
          ·exact ptrB j off s hj
          ·have:=hl.mono (R':=Rv (tabU lb []) β (Stable S (tabU lb []) β w) w) fun x u hxu=>by
            rcases hxu with hp | ⟨j,off,s,hj,rfl,rfl⟩
            ·exact .pure (hp.mono fun p hp=>⟨hSB p hp,rfl⟩)
            grind
           exact .fn this.1 this.2
         ·rcases hxu with hp | ⟨j,off,s,hj,e1,e2⟩ | ⟨f,ys,us,e1,e2,hl⟩
          ·exact .inl hp
          ·exact .inr (.inl ⟨j,off,s,by grind,e1,e2⟩)
          ·(refine .inr (.inr ⟨f,ys,us,e1,e2,hl.mono fun x u hxu=>?_⟩)<;>grind[List.getElem?_append_left,List.getElem?_eq_some_iff])
        refine(hΓ f xs lb res lb' lf hg w cargs β S hTRB hargs).mono fun e w'=>?_
        rintro⟨cv,β',rfl,hkept,htrU,hres,hlen,hβ1,hβ2⟩
        let fs:List Nat:=(List.range lf.length).map (fsite d)
        let ι':Nat→Nat:=fun t=>if t∈fs then β' (2000000+(t-d) / 100000) else ι t
        have mem_fs:∀t,t∈fs↔∃j,j<lf.length∧t=fsite d j:=fun t=>by
         grind
        have ι_fs:∀j,j<lf.length→ι' (fsite d j)=β' (2000000+j):=fun j hj=>by
         have:(fsite d j-d) / 100000=j:=by unfold fsite;omega
         grind
        have ι_not:∀t,t∉fs→ι' t=ι t:=fun t ht=>by grind
        have bs_not:∀t∈bs,t∉fs:=by
         intro t ht hf
         obtain⟨j,hj,rfl⟩:=(mem_fs t).1 hf
         exact(hfr j lf[j] (List.getElem?_eq_getElem hj)).2.1 ht
        have T3_not:∀t,t∉fs→T3.get t=T2.get t:=fun t ht=>hnotf t fun j hj e=>ht ((mem_fs t).2 ⟨j,hj,e⟩)
        have hbll:lb'.length<1000000:=by omega
        have getUf:∀j k,lf[j]? = some k→(tabU lb' lf).get (2000000+j)=⟨0,k⟩:=by
         intro j k hk
         rw[get_tabU]
         grind
        have getUb:∀j k,lb'[j]? = some k→(tabU lb' lf).get (1000000+j)=⟨0,k⟩:=by
         simp_all[get_tabU,if_true]
        have βb:∀j s,bs[j]? = some s→β' (1000000+j)=ι s:=by
         grind
        have h2:∀t∈bs,t∉fs∧ι' t=ι t∧∃ty cs cs',(T1.get t).k=.box ty cs∧T3.get t=⟨(T1.get t).gen,.box ty cs'⟩:=by
         intro t ht
         (obtain⟨j,hj⟩:=List.mem_iff_getElem?.1 ht<;>grind[List.mem_iff_getElem?])
        have h3:∀t∈fs,(T1.get t).gen<(T3.get t).gen∧w.heap.size≤ι' t:=by
         intro t ht
         obtain⟨j,hj,rfl⟩:=(mem_fs t).1 ht
         obtain⟨a1,a2,a3⟩:=hfr j lf[j] (List.getElem?_eq_getElem hj)
         grind
        have liveU:∀j,j<lf.length→T3.live (fsite d j)→(tabU lb' lf).live (2000000+j):=by
         intro j hj hlv
         (obtain⟨a1,a2,a3⟩:=hfr j lf[j] (List.getElem?_eq_getElem hj)<;>grind[List.getElem?_eq_getElem,Tab.live])
        have hSU:Goes κ.D T1 ι w T3 ι' w'→∀p,Stable (fun p=>S p∨w.heap.size≤p.block) (tabU lb' lf) β' w' p→Stable κ.D T3 ι' w' p:=by
         intro H p hp
         rcases hp.1 with hs | hs
         ·exact(H.st p hs).1
         ·refine⟨.inr (.inl (Nat.le_trans h.kept.size hs)),hp.2.1,fun t hl e=>?_⟩
          by_cases hf:t∈fs
          ·obtain⟨j,hj,rfl⟩:=(mem_fs t).1 hf
           have:=hp.2.2 (2000000+j) (liveU j hj hl) (by rw[←ι_fs j hj];exact e)
           rw[getUf j _ (List.getElem?_eq_getElem hj)] at this
           rw[(hfr j lf[j] (List.getElem?_eq_getElem hj)).2.2]
           exact this
          ·rw[ι_not t hf] at e
           have hl1:T1.live t:=by
            (by_cases hb:t∈bs<;>grind[Tab.live,OK.live])
           have:=h1.tr.lt t hl1
           omega
        have hto2:To κ T1 ι w T3 ι' w':=by
         refine call_to h1 bs fs (fun t hb hf=>⟨by rw[T3_not t hf,hnotbs t hb],ι_not t hf⟩) h2 h3 ?_ ?_ ?_ ?_
         ·intro t ht hl
          obtain⟨j,hj,rfl⟩:=(mem_fs t).1 ht
          rw[ι_fs j hj]
          exact htrU.lt _ (liveU j hj hl)
         ·intro t ht u hu hl1 hl2 e
          obtain⟨i,hi,rfl⟩:=(mem_fs t).1 ht
          obtain⟨j,hj,rfl⟩:=(mem_fs u).1 hu
          rw[ι_fs i hi,ι_fs j hj] at e
          have:=htrU.inj _ _ (liveU i hi hl1) (liveU j hj hl2) e
          grind
         ·refine hkept.mono fun b _ hb=>?_
          grind
         ·intro H t ht
          have hmono:=hSU H
          by_cases hf:t∈fs
          ·obtain⟨j,hj,rfl⟩:=(mem_fs t).1 hf
           obtain⟨a1,a2,a3⟩:=hfr j lf[j] (List.getElem?_eq_getElem hj)
           have hob:=htrU.ob (2000000+j)
           rw[getUf j _ (List.getElem?_eq_getElem hj)] at hob
           rw[a3,ι_fs j hj]
           simp only at hob ⊢
           generalize lf[j]=k at *
           cases k with
           | box ty cs=>
            obtain⟨arr,fz,b1,b2,b3,b4⟩:=hob
            exact⟨arr,fz,b1,b2,b3,fun i dd u hd hu=>pure_lr hmono (pureL_get a1 i dd hd) (b4 i dd u hd hu)⟩
           | row ty sz fz0 cs=>
            obtain⟨arr,fz,cap,b1,b2,b3,b4,b5,b6⟩:=hob
            exact⟨arr,fz,cap,b1,b2,b3,b4,b5,fun i dd u hd hu=>pure_lr hmono (pureL_get a1 i dd hd) (b6 i dd u hd hu)⟩
           | dead=>trivial
           | iter s pos=>simp[okFresh] at a1
           | mp M=>simp[okFresh] at a1
           | nrow ty fz0 nl L=>
            rcases hob with hb | ⟨arr,fz,cap,b1,b2,b3,b4,b5,b6⟩
            ·exact .inl hb
            ·exact .inr ⟨arr,fz,cap,b1,b2,b3,b4,b5,fun i dd u hd hu=>pure_lr hmono (TL.pure_cells hd) (b6 i dd u hd hu)⟩
          ·have hb:t∈bs:=ht.resolve_right hf
           obtain⟨j,hj⟩:=List.mem_iff_getElem?.1 hb
           obtain⟨ty,cs,cs',e1,e2,e3,e4⟩:=hrevs j t hj
           have hob:=htrU.ob (1000000+j)
           rw[getUb j _ e2,βb j t hj] at hob
           obtain⟨arr,fz,b1,b2,b3,b4⟩:=hob
           rw[T3_not t hf,e4,ι_not t hf]
           exact⟨arr,fz,b1,b2,b3,fun i dd u hd hu=>pure_lr hmono (pureL_get e3 i dd hd) (b4 i dd u hd hu)⟩
        have hmono:=hSU hto2.goes
        have hren1:∀(x y:V) (cx:Value),ren1 T3 bs d lf.length x=some y→Rv (tabU lb' lf) β' (Stable (fun p=>S p∨w.heap.size≤p.block) (tabU lb' lf) β' w') w' x cx→
          Rv T3 ι' (Stable κ.D T3 ι' w') w' y cx:=by
         intro x y cx hxy hcx
         unfold ren1 at hxy
         split at hxy
         ·rename_i t
          split at hxy
          ·rename_i hc
           injection hxy with hxy;subst hxy
           obtain⟨hge,hlt⟩:=hc
           refine .acc hcx.acc_form (Nat.le_refl _) fun ty fz nl L e=>?_
           obtain⟨a1,a2,a3⟩:=hfr (t-2000000) lf[t-2000000] (List.getElem?_eq_getElem hlt)
           rw[a3] at e
           simp at e
           have hg:(tabU lb' lf).get t=⟨0,.nrow ty fz nl L⟩:=by
            grind
           have:=hcx.acc_ hg
           grind
          ·cases hxy
         ·rename_i t off n
          split at hxy
          ·rename_i hc
           injection hxy with hxy;subst hxy
           obtain⟨hge,hlt⟩:=hc
           have hv:∃a c,cx=.slice (some a) n c:=by
            cases hcx with
            | pure h=>cases h
            | own hv _ _=>exact hv
           refine .own hv (Nat.le_refl _) fun ty sz fz0 cs e=>?_
           obtain⟨a1,a2,a3⟩:=hfr (t-2000000) lf[t-2000000] (List.getElem?_eq_getElem hlt)
           rw[a3] at e
           simp at e
           have hg:(tabU lb' lf).get t=⟨0,.row ty sz fz0 cs⟩:=by
            grind
           have:=hcx.own_ hg
           grind
          ·cases hxy
         ·rename_i t off
          split at hxy
          ·rename_i hge
           split at hxy
           ·rename_i hlt
            injection hxy with hxy;subst hxy
            have hform:∃a,cx=.pointer (some a):=by
             cases hcx with
             | pure h=>cases h
             | ptr hv _ _=>exact hv
            refine .ptr hform (Nat.le_refl _) fun _ hlive=>?_
            have hlv:=liveU _ hlt hlive
            rw[show 2000000+(t-2000000)=t from by omega] at hlv
            have hg:((tabU lb' lf).get t).gen=0:=by
             have:=getUf (t-2000000) _ (List.getElem?_eq_getElem hlt)
             grind
            have:=hcx.ptr_ hg hlv
            grind
           ·cases hxy
          ·split at hxy
           ·rename_i hge
            split at hxy
            ·rename_i s hs
             injection hxy with hxy;subst hxy
             obtain⟨ty,cs,cs',e1,e2,e3,e4⟩:=hrevs _ s hs
             have hgU:=getUb _ _ e2
             rw[show 1000000+(t-1000000)=t from by omega] at hgU
             have:=hcx.ptr_ (by rw[hgU]) (by simp[Tab.live,hgU,OK.live])
             subst this
             refine .ptr ⟨_,rfl⟩ (Nat.le_refl _) fun _ _=>?_
             grind
            ·cases hxy
           ·cases hxy
         grind[pure_lr]
        refine⟨cv,ι',rfl,hto1.trans hto2,?_⟩
        unfold ren at hren
        split at hren
        ·rename_i vs
         obtain⟨us,rfl,hl,hh⟩:=hres.tup_
         have hrl:∀(vs ys:List V) (us:List Value),renL T3 bs d lf.length vs=some ys→LR (Rv (tabU lb' lf) β' (Stable (fun p=>S p∨w.heap.size≤p.block) (tabU lb' lf) β' w') w') vs us→
           LR (Rv T3 ι' (Stable κ.D T3 ι' w') w') ys us:=by
          intro vs
          induction vs with
          | nil=>
           intro ys us hy hlr
           simp[renL] at hy;subst hy
           have:us=[]:=List.eq_nil_of_length_eq_zero (by simpa using hlr.1.symm)
           subst this
           exact .nil
          | cons x r ih=>
           intro ys us hy hlr
           obtain⟨u,us',rfl,hu,hr'⟩:=hlr.head
           simp only[renL] at hy
           split at hy
           ·rename_i y ys' hy1 hy2
            injection hy with hy;subst hy
            exact .cons (hren1 x y u hy1 hu) (ih ys' us' hy2 hr')
           ·cases hy
         cases hrn:renL T3 bs d lf.length vs with
         | none=>simp[hrn] at hren
         | some ys=>
          simp[hrn] at hren;subst hren
          have:=hrl vs ys us hrn ⟨hl,hh⟩
          exact .tup this.1 this.2
        ·exact hren1 res v' cv hren hres
      ·cases hx
     ·cases hx
    ·cases hx
   ·cases hx
  ·cases hx
 ·cases hx
end
end Go.Abs
