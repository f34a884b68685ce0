/- NodeDeaf: for all arguments the call returns true. The law is brought to a function of Lean's own (W_..) by the machine of the texts beside it, and that is reckoned; no condition. -/
import Derived.Test.YtgpgmncgbebgdaaGreatExtIn
import Derived.Test.YtgpgmncgbebgdaaGreatExtDl
import Derived.Test.YtgpgmncgbebgdaaGreatExtCm
import Derived.Test.YtgpgmncgbebgdaaGreatRows
import Derived.WalkKit
import Derived.ProofKit
import Derived.OpenShut
import Derived.ShutString
import Derived.ChangeOld
import Derived.Below
import Derived.Shelf.RegionOpenPlain
import Derived.Deep.RegionLaw
import Derived.Lib.Walk
namespace Go.Proofs.YtgpgmncgbebgdaaGreat.nodeDeafX
open Go.Abs Go.RowKit Go.ChangeShapes Go.WideShapes Go.ChangeAt
set_option maxRecDepth 100000
set_option linter.unusedVariables false
set_option linter.unusedSimpArgs false
noncomputable section
abbrev T_:Ty:=(.pair (.int .i64) (.pair (.int .i64) (.pair (.int .i64) (.pair (.int .i64) (.pair (.int .i64) (.pair (.int .i64) (.pair (.list (.int .i64)) (.pair (.int .i64) (.pair (.int .i64) .str)))))))))
abbrev M_:Type:=Int×Int×Int×Int×Int×Int×(List Int)×Int×Int×List UInt8
abbrev A0_:Type:=Int×Int×List (Int×List UInt8)×List (Int×List UInt8)×List (Int×Int×Int×List UInt8×Int)×Int×Int
abbrev A1_:Type:=Int×Int×Int×Int×Int×Int×List Int×Int×Int×Int×Int×Int×List (Int×Int×Int)
abbrev A2_:Type:=Int×Int×Int×Int×Int×Int×List Int×Int×Int×List UInt8
abbrev A3_:Type:=Bool×Int×List UInt8×A1_×A0_×Int
abbrev A4_:Type:=Int×Int×Int×List UInt8×Int
abbrev A5_:Type:=List (Int×List UInt8)×A0_
abbrev T0_:Ty:=.pair (.int .i64) (.pair (.int .i64) (.pair (.int .i64) (.pair (.int .i64) (.pair (.int .i64) (.pair (.int .i64) (.pair (.list (.int .i64)) (.pair (.int .i64) (.pair (.int .i64) (.pair (.int .i64) (.pair (.int .i64) (.pair (.int .i64) (.list (.agg (.pair (.int .i64) (.pair (.int .i64) (.int .i64))))))))))))))))
abbrev T1_:Ty:=.pair (.int .i64) (.pair (.int .i64) (.pair (.list (.agg (.pair (.int .i64) .str))) (.pair (.list (.agg (.pair (.int .i64) .str))) (.pair (.list (.agg (.pair (.int .i64) (.pair (.int .i64) (.pair (.int .i64) (.pair .str (.int .i64))))))) (.agg (.pair (.int .i64) (.int .i64)))))))
abbrev T2_:Ty:=.pair .bool (.pair (.int .i64) (.pair .str (.pair (.agg T0_) (.pair (.agg T1_) (.int .i64)))))
abbrev T3_:Ty:=.agg (.pair (.int .i64) (.pair (.int .i64) (.int .i64)))
abbrev T4_:Ty:=.agg (.pair (.int .i64) (.pair (.int .i64) (.pair (.int .i64) (.pair .str (.int .i64)))))
abbrev T5_:Ty:=.agg (.pair (.int .i64) .str)
abbrev T6_:Ty:=.pair (.int .i64) (.int .i64)
abbrev T7_:Ty:=.pair (.list (.int .u8)) (.int .i64)
abbrev T8_:Ty:=.pair (.list (.int .u8)) .bool
abbrev P0:Program:=Tryz.prog
def bodyOf (fn:Func):Code:=fn.body.getD .skip
def L0:Lend:=fun f=>aget [] [(142,[0]),(155,[0]),(171,[0]),(177,[0])] f
def kpL (l:List Bool):Nat→Bool:=fun j=>l.getD j true
theorem own:ownKnob Tryz.prog.godebug=none:=by kernel_rfl
theorem laidOut:laidOutB Tryz.prog=true:=by kernel_rfl
theorem mixed:P0.follows .mixedOrders=true:=by decide +kernel
theorem progOk_:progOk P0=true:=by decide +kernel

theorem delU155:Tryz.prog.underlying 32=some (.slice 69):=by kernel_rfl
theorem delE155:∃(inf:TypeInfo) (z:Value),Tryz.prog.info? 69=some inf∧inf.size=2∧inf.zero=some z∧z.cells.size=2∧(∀u∈z.cells.toList,u.oneCell'=true):=delE_of (by kernel_rfl)
set_option maxHeartbeats 4000000 in
theorem delW155 {inf:TypeInfo} {z:Value} (hinf:Tryz.prog.info? 69=some inf) (hsz:inf.size=2) (hzz:inf.zero=some z) (hzs:z.cells.size=2) (hz1:∀u∈z.cells.toList,u.oneCell'=true) (w:World) (b i k c:Nat) (arr:Array Value) (tb:Nat) (fz:Nat×Nat) (cs:List Value) (hmem:w.heap[b]? = some (.cells arr tb fz)) (hf:∀j,j<arr.size→¬(fz.1≤j∧j<fz.2))
    (hi:i<k+1) (hnc:k+1≤c) (hn:k+1≤140737488355328) (hsize:arr.size=c*2) (hcs:cs=(arr.toList.take ((k+1)*2)).drop ((i+1)*2)) (h1c:∀u∈cs,u.oneCell'=true) (A1 A2:Array Value)
    (hA1:A1=(arr.toList.take (i*2)++(cs++arr.toList.drop (i*2+cs.length))).toArray) (hA2:A2=(A1.toList.take (k*2)++(z.cells.toList++A1.toList.drop (k*2+z.cells.toList.length))).toArray):
    Calls Tryz.prog 155 #[.slice (some ⟨b,0,none⟩) (k+1) c,.int .i64 (i:Nat),.int .i64 ((i:Int)+1)] w fun e w'=>e=.returned (.slice (some ⟨b,0,none⟩) k c)∧w'=(w.drew.setRow b A1).setRow b A2:=by
  have mixed:=mixed
  have hz2:¬((i:Int)=(i:Int)+1):=by omega
  have hcl:cs.length=(k-i)*2:=by rw[hcs];simp;omega
  have hA1s:A1.size=arr.size:=by rw[hA1];simp[hcl];omega
  obtain⟨Ad,hA,hsrc⟩:∃Ad:Addr,(if c=i+1 then(some ⟨b,0,none⟩:Option Addr) else some ⟨b,(i+1)*2,none⟩)=some Ad∧(∀(t:Nat) (u:Value),cs[t]? = some u→w.drew.cell? (Ad.add t)=some u):=by
    by_cases h:c=i+1
    · refine⟨⟨b,0,none⟩,by simp[h],fun t u hu=>?_⟩
      have h0:cs=[]:=List.eq_nil_of_length_eq_zero (by rw[hcl,show k-i=0 by omega,Nat.zero_mul])
      rw[h0] at hu;simp at hu
    · refine⟨⟨b,(i+1)*2,none⟩,by simp[h],fun t u hu=>?_⟩
      rw[hcs,List.getElem?_drop,List.getElem?_take] at hu
      split at hu
      · rw[Addr.add_lit]
        have e:w.drew.cell? ⟨b,(i+1)*2+t,none⟩=arr[(i+1)*2+t]?:=by simp[World.cell?,show w.drew.heap=w.heap from rfl,hmem]
        rw[e];simpa using hu
      · cases hu
  obtain⟨W1,hW1⟩:∃W1,W1=w.drew.setRow b A1:=⟨_,rfl⟩
  have hm1:W1.heap[b]? = some (.cells A1 tb fz):=by rw[hW1];exact setRow_heap w.drew b arr A1 tb fz hmem
  have hap:∀ty m' c',m'=k-i→(Builtin.append_ #[32,32] ty #[.slice (some ⟨b,0,none⟩) i c,.slice (some Ad) m' c']).run Tryz.prog w.drew=.ok (.slice (some ⟨b,0,none⟩) k c) W1:=fun ty m' c' hm=>by
    subst hm
    have h:=run_appendR (P:=Tryz.prog) delU155 hinf w.drew hmem hf i c ty Ad (k-i) c' cs (by rw[hsz];exact hcl) hsrc h1c (by omega) (by rw[hsize,hsz])
    rw[hsz] at h
    rw[h,hW1,hA1,show i+(k-i)=k by omega]
  have hclr:∀ty m' c',m'=1→(Builtin.clear_ #[32] ty #[.slice (some ⟨b,k*2,none⟩) m' c']).run Tryz.prog W1=.ok (.tuple #[]) (W1.setRow b A2):=fun ty m' c' hm=>by
    subst hm
    rw[hA2]
    exact run_clearR (P:=Tryz.prog) delU155 hinf hzz W1 hm1 (by rw[hA1s];exact hf) (k*2) c' ty hz1 (by simp[hzs];rw[hA1s,hsize];omega)
  have hic:i≤c:=by omega
  have hjc:i+1≤c:=by omega
  have hb3:¬(c=k):=by omega
  have hb1:(0:Int)≤(i:Int)+1:=by omega
  have hb4:((k+1:Nat):Int)=(k:Int)+1:=by omega
  have hb5:(0:Int)≤(k:Int):=by omega
  have hb6:(k:Int)≤(k:Int)+1:=by omega
  have hb7:(k:Int)+1≤(c:Int):=by omega
  have hb8:(i:Int)+1≤(k:Int)+1:=by omega
  have hb2:(i:Int)+1≤((k+1:Nat):Int):=by omega
  rw[←hW1]
  clear hcs hA1 hA2 hW1 hm1 hsrc hcl
  go_enter Tryz.func155,Tryz.ntmps155
  go_wp2_with fail
  go_region_law_o (refine step_append_runR rfl _ _ 32 32 rfl (.slice (some ⟨b,0,none⟩) i c) (.slice (some Ad) (k-i) (c-(i+1))) (by simp[Act.eval,Act.put]) (by simp[Act.eval,Act.put]) (hap _ _ _ rfl) ?_)
  go_wp2
  go_ret
  exact⟨rfl,rfl⟩
theorem delF155:DelF Tryz.prog 155 2:=by
  intro w b i n c arr tb fz hmem hsize hf h1c hi hnc hn
  obtain⟨inf,z,hinf,hsz,hzz,hzs,hz1⟩:=delE155
  obtain⟨k,rfl⟩:∃k,n=k+1:=⟨n-1,by omega⟩
  simp only[Nat.add_sub_cancel]
  obtain⟨cs,hcs⟩:∃cs,cs=(arr.toList.take ((k+1)*2)).drop ((i+1)*2):=⟨_,rfl⟩
  have hsl:arr.toList.length=arr.size:=Array.length_toList
  have hcl:cs.length=(k-i)*2:=by rw[hcs,List.length_drop,List.length_take,hsl,hsize];omega
  have hzl:z.cells.toList.length=2:=by rw[Array.length_toList,hzs]
  refine(delW155 hinf hsz hzz hzs hz1 w b i k c arr tb fz cs hmem hf hi hnc hn hsize hcs (fun u hu=>h1c u (by rw[hcs] at hu;exact List.mem_of_mem_drop hu)) _ _ rfl rfl).mono fun x w'=>?_
  rintro⟨rfl,rfl⟩
  have hA1s:(arr.toList.take (i*2)++(cs++arr.toList.drop (i*2+cs.length))).toArray.size=arr.size:=by simp[hcl];omega
  have hm1:=setRow_heap w.drew b arr (arr.toList.take (i*2)++(cs++arr.toList.drop (i*2+cs.length))).toArray tb fz hmem
  have hA1t:(arr.toList.take (i*2)++(cs++arr.toList.drop (i*2+cs.length))).toArray.toList.take (k*2)=arr.toList.take (i*2)++cs:=by
    rw[List.toList_toArray,←List.append_assoc]
    exact List.take_left' (by rw[List.length_append,List.length_take,hcl,hsl,hsize];omega)
  generalize hA1:(arr.toList.take (i*2)++(cs++arr.toList.drop (i*2+cs.length))).toArray=A1 at *
  have hA1l:A1.toList.length=A1.size:=Array.length_toList
  have hA2s:(A1.toList.take (k*2)++(z.cells.toList++A1.toList.drop (k*2+z.cells.toList.length))).toArray.size=A1.size:=by simp only[List.size_toArray,List.length_append,List.length_take,List.length_drop,hzl,hA1l,hA1s,hsize];omega
  have hm2:=setRow_heap (w.drew.setRow b A1) b A1 (A1.toList.take (k*2)++(z.cells.toList++A1.toList.drop (k*2+z.cells.toList.length))).toArray tb fz hm1
  refine⟨rfl,rfl,rfl,rfl,_,hm2,by rw[hA2s,hA1s],?_,by simp[World.setRow],fun j hj=>?_⟩
  · rw[List.toList_toArray,List.take_left' (by rw[List.length_take,hA1l,hA1s,hsize];omega),hA1t,hcs]
  · rw[setRow_other _ _ _ _ hj,setRow_other _ _ _ _ hj];rfl

set_option linter.unusedSimpArgs false
set_option linter.unusedVariables false

theorem iqU171:Tryz.prog.underlying 29=some (.slice 53):=by kernel_rfl
theorem iqI171:Tryz.prog.underlying 3=some (.int .i64):=by kernel_rfl
theorem iqE171:∃(inf:TypeInfo) (z:Value),Tryz.prog.info? 53=some inf∧inf.size=3∧inf.zero=some z∧z.cells.size=3∧inf.bytes=24:=insE_of (by kernel_rfl)
set_option maxHeartbeats 4000000 in
theorem iqShift171 {inf:TypeInfo} (hinf:Tryz.prog.info? 53=some inf) (hsz:inf.size=3) (w:World) (b i n c vb vo vc:Nat) (arr:Array Value) (tb:Nat) (fz:Nat×Nat) (cs vs:List Value) (hmem:w.heap[b]? = some (.cells arr tb fz)) (hf:∀j,j<arr.size→¬(fz.1≤j∧j<fz.2))
    (hi:i<n) (hroom:n+1≤c) (hsize:arr.size=c*3) (hby:(n+1)*24≤140737488355328) (hbn:vb≠b)
    (hcs:cs=(arr.toList.take (n*3)).drop (i*3)) (hvl:vs.length=3) (hvs:∀(j:Nat) (u:Value),vs[j]? = some u→w.cell? ⟨vb,vo+j,none⟩=some u) (h1c:∀u∈cs,u.oneCell'=true) (h1v:∀u∈vs,u.oneCell'=true)
    (hov:∀y,(callFunc 189 #[.slice (some ⟨vb,vo,none⟩) 1 vc,.slice (some ⟨b,(i+1)*3,none⟩) (n-i) y]).run Tryz.prog w=.ok (.value (.bool false)) w) (A1 A2:Array Value)
    (hA1:A1=(arr.toList.take ((i+1)*3)++(cs++arr.toList.drop ((i+1)*3+cs.length))).toArray) (hA2:A2=(A1.toList.take (i*3)++(vs++A1.toList.drop (i*3+vs.length))).toArray):
    Calls Tryz.prog 171 #[.slice (some ⟨b,0,none⟩) n c,.int .i64 (i:Nat),.slice (some ⟨vb,vo,none⟩) 1 vc] w fun e w'=>e=.returned (.slice (some ⟨b,0,none⟩) (n+1) c)∧w'=(w.drew.setRow b A1).setRow b A2:=by
  have mixed:=mixed
  have hz2:¬((i:Int)=(n:Int)):=by omega
  have hw1:IntKind.i64.wrap ((i:Int)+(1:Int))=(i:Int)+(1:Int):=by rw[IntKind.wrap_i64];omega
  have hw2:IntKind.i64.wrap ((n:Int)+(1:Int))=(n:Int)+(1:Int):=by rw[IntKind.wrap_i64];omega
  have hcl:cs.length=(n-i)*3:=by rw[hcs];simp;omega
  have hA1s:A1.size=arr.size:=by rw[hA1];simp[hcl];omega
  have hcp1:∀ty dc sc,(Builtin.copy_ #[29,29] ty #[.slice (some ⟨b,(i+1)*3,none⟩) (n-i) dc,.slice (some ⟨b,i*3,none⟩) (n+1-i) sc]).run Tryz.prog w.drew=.ok (.int .i64 ((n-i:Nat):Int)) (w.drew.setRow b A1):=fun ty dc sc=>by
    rw[hA1]
    refine run_copyR iqU171 hinf w.drew (fz:=fz) hmem hf _ _ _ (m:=n+1-i) (k:=n-i) (by omega) (lenOf_slice _ _ _ _) (run_firstCells_some w.drew _ _ _ _ _ _ (by rw[hsz];exact hcl) (fun j v hj=>?_)) (by omega) h1c
    rw[hcs,List.getElem?_drop,List.getElem?_take] at hj
    split at hj
    · have:(⟨b,i*3,none⟩:Addr).add j=⟨b,i*3+j,none⟩:=by unfold Addr.add;split<;>simp_all
      rw[this]
      have e:w.drew.cell? ⟨b,i*3+j,none⟩=arr[i*3+j]?:=by simp[World.cell?,show w.drew.heap=w.heap from rfl,hmem]
      rw[e];simpa using hj
    · cases hj
  have hcp2:∀(W:World),W.heap=(w.drew.setRow b A1).heap→∀ty dc,(Builtin.copy_ #[29,29] ty #[.slice (some ⟨b,i*3,none⟩) (n+1-i) dc,.slice (some ⟨vb,vo,none⟩) 1 vc]).run Tryz.prog W=.ok (.int .i64 ((1:Nat):Int)) (W.setRow b A2):=fun W hW ty dc=>by
    rw[hA2]
    have hm1:W.heap[b]? = some (.cells A1 tb fz):=by rw[hW];exact setRow_heap w.drew b arr A1 tb fz hmem
    refine run_copyR iqU171 hinf W (fz:=fz) hm1 (by rw[hA1s];exact hf) _ _ _ (m:=1) (k:=1) (by omega) (lenOf_slice _ _ _ _) (run_firstCells_some W _ _ _ _ _ _ (by rw[hsz];exact hvl) (fun j v hj=>?_)) (by omega) h1v
    have:(⟨vb,vo,none⟩:Addr).add j=⟨vb,vo+j,none⟩:=by unfold Addr.add;split<;>simp_all
    rw[this]
    have e:W.cell? ⟨vb,vo+j,none⟩=w.cell? ⟨vb,vo+j,none⟩:=cell_congr (by rw[hW];exact setRow_other w.drew b vb A1 hbn)
    rw[e];exact hvs j v hj
  have hb1:(0:Int)≤(i:Int)+1:=by omega
  have hin:i≤n:=by omega
  have hb2:¬(c=i+1):=by omega
  have hb4:¬(c=i):=by omega
  have hb3:(i:Int)≤(n:Int)+1:=by omega
  clear hcs hA1 hA2
  go_enter Tryz.func171,Tryz.ntmps171
  go_wp2_with (simp only[hov])
  go_region_law_o (refine step_copy_runR rfl _ _ 29 29 rfl _ _ (by simp[Act.eval,Act.put]) (by simp[Act.eval,Act.put]) (hcp1 _ _ _) ?_)
  go_wp2_with (at_builtin;refine wpList_copy_runR _ rfl _ _ 29 29 rfl _ _ rfl rfl (hcp2 _ rfl _ _) ?_)
  go_ret
  exact⟨rfl,rfl⟩
set_option maxHeartbeats 4000000 in
theorem iqGrow171 {inf:TypeInfo} {z:Value} (hinf:Tryz.prog.info? 53=some inf) (hsz:inf.size=3) (hzz:inf.zero=some z) (hzs:z.cells.size=3) (hbb:inf.bytes=24) (w:World) (b i n c vb vo vc:Nat) (arr:Array Value) (tb:Nat) (fz:Nat×Nat) (cs vs:List Value) (hmem:w.heap[b]? = some (.cells arr tb fz))
    (hi:i<n) (hnc:n≤c) (hroom:¬(n+1≤c)) (hsize:arr.size=c*3) (hby:(n+1)*24≤140737488355328) (va:Array Value) (tv:Nat) (fv:Nat×Nat) (hmemv:w.heap[vb]? = some (.cells va tv fv))
    (hcs:cs=(arr.toList.take (n*3)).drop (i*3)) (hvl:vs.length=3) (hvs:∀(j:Nat) (u:Value),vs[j]? = some u→va[vo+j]? = some u) (h1c:∀u∈cs,u.oneCell'=true) (h1v:∀u∈vs,u.oneCell'=true)
    (G:Nat) (hG:G=grownCap w (n+1) c 53) (ROW A1 A2:Array Value)
    (hROW:ROW=(arr.toList.take (i*3)).toArray++Builtin.zeroCells z.cells (n+1-i)++Builtin.zeroCells z.cells (G-(n+1)))
    (hA1:A1=(ROW.toList.take (i*3)++(vs++ROW.toList.drop (i*3+vs.length))).toArray) (hA2:A2=(A1.toList.take ((i+1)*3)++(cs++A1.toList.drop ((i+1)*3+cs.length))).toArray):
    Calls Tryz.prog 171 #[.slice (some ⟨b,0,none⟩) n c,.int .i64 (i:Nat),.slice (some ⟨vb,vo,none⟩) 1 vc] w fun e w'=>e=.returned (.slice (some ⟨w.heap.size,0,none⟩) (n+1) G)∧w'=(((w.drew.alloc (.cells ROW 53)).setRow w.heap.size A1).drew).setRow w.heap.size A2:=by
  have mixed:=mixed
  have hz2:¬((i:Int)=(n:Int)):=by omega
  have hw1:IntKind.i64.wrap ((i:Int)+(1:Int))=(i:Int)+(1:Int):=by rw[IntKind.wrap_i64];omega
  have hw2:IntKind.i64.wrap ((n:Int)+(1:Int))=(n:Int)+(1:Int):=by rw[IntKind.wrap_i64];omega
  have hw3:IntKind.i64.wrap ((n:Int)+(1:Int)-(i:Int))=(n:Int)+(1:Int)-(i:Int):=by rw[IntKind.wrap_i64];omega
  have hcl:cs.length=(n-i)*3:=by rw[hcs];simp;omega
  have hGn:n+1≤G:=by rw[hG];exact grownCap_ge w _ _ _
  have hbw:b<w.heap.size:=(Array.getElem?_eq_some_iff.1 hmem).1
  have hvw:vb<w.heap.size:=(Array.getElem?_eq_some_iff.1 hmemv).1
  have hzc:∀k,(Builtin.zeroCells z.cells k).size=k*3:=fun k=>by rw[size_zeroCells,hzs]
  have hRs:ROW.size=G*3:=by
    rw[hROW];simp only[Array.size_append,hzc,List.size_toArray,List.length_take,Array.length_toList];omega
  have hA1s:A1.size=ROW.size:=by rw[hA1];simp[hvl];omega
  have hold:(Builtin.firstCells inf.size i (.slice (some ⟨b,0,none⟩) i c)).run Tryz.prog w.drew=.ok (arr.toList.take (i*3)).toArray w.drew:=by
    rw[hsz]
    refine run_firstCells_some w.drew 3 i ⟨b,0,none⟩ i c (arr.toList.take (i*3)) (by rw[List.length_take];simp;omega) (fun j v hj=>?_)
    rw[List.getElem?_take] at hj
    split at hj
    · have:(⟨b,0,none⟩:Addr).add j=⟨b,j,none⟩:=by unfold Addr.add;split<;>simp_all
      rw[this]
      have e:w.drew.cell? ⟨b,j,none⟩=arr[j]?:=by simp[World.cell?,show w.drew.heap=w.heap from rfl,hmem]
      rw[e];simpa using hj
    · cases hj
  have hik:i+(n+1-i)=n+1:=by omega
  have hkk:(n:Int)+1-(i:Int)=((n+1-i:Nat):Int):=by omega
  obtain⟨W1,hW1⟩:∃W1,W1=w.drew.alloc (.cells ROW 53):=⟨_,rfl⟩
  have hrz:∀ty,(Builtin.append_ #[29,3] ty #[.slice (some ⟨b,0,none⟩) i c,.int .i64 ((n:Int)+1-(i:Int))]).run Tryz.prog w=.ok (.slice (some ⟨w.heap.size,0,none⟩) (n+1) G) W1:=fun ty=>by
    have hnx:=nextslicecap_le (need:=n+1) (old:=c) (by omega)
    have h:=Lib.run_append_grow_zeros w 29 3 ty 53 inf z .i64 .i64 iqU171 iqI171 hinf hzz (some ⟨b,0,none⟩) i c (arr.toList.take (i*3)) hold (n+1-i) (by omega) (by omega) (by omega) (by omega) (by rw[hbb];omega) (by rw[hbb,hik];omega)
    rw[hik,←hG,←hROW,←hW1] at h
    rw[hkk]
    exact h
  have hWn:W1.heap[w.heap.size]? = some (.cells ROW 53 (0,0)):=by rw[hW1];exact heap_alloc_new w.drew _
  have hWo:∀j,j<w.heap.size→W1.heap[j]? = w.heap[j]?:=fun j hj=>by rw[hW1];exact heap_alloc_old w.drew _ hj
  have hcp1:∀(W:World),W.heap=W1.heap→∀ty dc,(Builtin.copy_ #[29,29] ty #[.slice (some ⟨w.heap.size,i*3,none⟩) (n+1-i) dc,.slice (some ⟨vb,vo,none⟩) 1 vc]).run Tryz.prog W=.ok (.int .i64 ((1:Nat):Int)) (W.setRow w.heap.size A1):=fun W hW ty dc=>by
    rw[hA1]
    refine run_copyR iqU171 hinf W (fz:=(0,0)) (by rw[hW];exact hWn) (fun j _ hj=>by simp at hj) _ _ _ (m:=1) (k:=1) (by omega) (lenOf_slice _ _ _ _) (run_firstCells_some W _ _ _ _ _ _ (by rw[hsz];exact hvl) (fun j v hj=>?_)) (by omega) h1v
    have:(⟨vb,vo,none⟩:Addr).add j=⟨vb,vo+j,none⟩:=by unfold Addr.add;split<;>simp_all
    rw[this]
    have e:W.cell? ⟨vb,vo+j,none⟩=va[vo+j]?:=by simp[World.cell?,hW,hWo vb hvw,hmemv]
    rw[e];exact hvs j v hj
  have hcp2:∀(W:World),W.heap=(W1.setRow w.heap.size A1).heap→∀ty dc sc,(Builtin.copy_ #[29,29] ty #[.slice (some ⟨w.heap.size,(i+1)*3,none⟩) (n-i) dc,.slice (some ⟨b,i*3,none⟩) (n-i) sc]).run Tryz.prog W=.ok (.int .i64 ((n-i:Nat):Int)) (W.setRow w.heap.size A2):=fun W hW ty dc sc=>by
    rw[hA2]
    have hm1:W.heap[w.heap.size]? = some (.cells A1 53 (0,0)):=by rw[hW];exact setRow_heap W1 w.heap.size ROW A1 53 (0,0) hWn
    refine run_copyR iqU171 hinf W (fz:=(0,0)) hm1 (fun j _ hj=>by simp at hj) _ _ _ (m:=n-i) (k:=n-i) (by omega) (lenOf_slice _ _ _ _) (run_firstCells_some W _ _ _ _ _ _ (by rw[hsz];exact hcl) (fun j v hj=>?_)) (by omega) h1c
    rw[hcs,List.getElem?_drop,List.getElem?_take] at hj
    split at hj
    · have:(⟨b,i*3,none⟩:Addr).add j=⟨b,i*3+j,none⟩:=by unfold Addr.add;split<;>simp_all
      rw[this]
      have e:W.cell? ⟨b,i*3+j,none⟩=arr[i*3+j]?:=by
        have e1:W.heap[b]? = w.heap[b]?:=by rw[hW,setRow_other W1 w.heap.size b A1 (by omega)];exact hWo b hbw
        simp[World.cell?,e1,hmem]
      rw[e];simpa using hj
    · cases hj
  have hb1:(0:Int)≤(i:Int)+1:=by omega
  have hin:i≤n:=by omega
  have hb2:¬(G=i+1):=by omega
  have hb4:¬(c=i):=by omega
  have hb5:¬(G=i):=by omega
  have hb3:(i:Int)≤(n:Int)+1:=by omega
  have hb6:(c:Int)<(n:Int)+1:=by omega
  have hb7:i≤c:=by omega
  rw[←hW1]
  clear hG hcs hA1 hA2 hW1 hold hROW hWn hWo hik hkk
  go_enter Tryz.func171,Tryz.ntmps171
  go_wp2_with (first
    | (at_builtin;refine Lib.wpList_append_run _ rfl _ _ _ _ rfl _ _ rfl rfl _ _ (hrz _) ?_)
    | (at_builtin;refine wpList_copy_runR _ rfl _ _ 29 29 rfl _ _ rfl rfl (hcp1 _ (by exact rfl) _ _) ?_))
  have hF:((W1.setRow w.heap.size A1).drew).heap=(W1.setRow w.heap.size A1).heap:=rfl
  go_region_law_o (refine step_copy_runR rfl _ _ 29 29 rfl (.slice (some ⟨w.heap.size,(i+1)*3,none⟩) (n-i) (G-(i+1))) (.slice (some ⟨b,i*3,none⟩) (n-i) (c-i)) (by simp[Act.eval,Act.put]) (by simp[Act.eval,Act.put]) (hcp2 _ hF 3 (G-(i+1)) (c-i)) ?_)
  go_wp2
  go_ret
  exact⟨rfl,rfl⟩
theorem insP171:InsP Tryz.prog 171 53 3 24:=by
  intro w b i n c vb vo vc arr va tb tv fz fv vs hmem hsize hf hmemv hbn hvl hvs h1v h1c hi hnc hby
  obtain⟨inf,z,hinf,hsz,hzz,hzs,hbb⟩:=iqE171
  obtain⟨cs,hcs⟩:∃cs,cs=(arr.toList.take (n*3)).drop (i*3):=⟨_,rfl⟩
  have h1:∀u∈cs,u.oneCell'=true:=fun u hu=>h1c u (by rw[hcs] at hu;exact List.mem_of_mem_drop hu)
  have hcl:cs.length=(n-i)*3:=by rw[hcs];simp;omega
  by_cases hroom:n+1≤c
  · have hvo:vo<va.size:=by
      have:=hvs 0 vs[0] (List.getElem?_eq_getElem (by omega))
      have:=(Array.getElem?_eq_some_iff.1 this).1
      omega
    have hov:∀y,(callFunc 189 #[.slice (some ⟨vb,vo,none⟩) 1 vc,.slice (some ⟨b,(i+1)*3,none⟩) (n-i) y]).run Tryz.prog w=.ok (.value (.bool false)) w:=fun y=>by
      rw[run_callFunc_extern Tryz.func189 (by kernel_rfl) (by kernel_rfl) (by kernel_rfl) (e:=Extern.SlicesOverlaps.overlaps #[29,29] #[4]) (by kernel_rfl),
        overlaps_apart2 w 29 4 53 iqU171 3 (fun w=>by rw[run_size hinf,hsz]) ⟨vb,vo,none⟩ ⟨b,(i+1)*3,none⟩ 1 vc (n-i) y hbn tv tb va.size arr.size (by simp[World.shape?,hmemv]) (by simp[World.shape?,hmem]) (by omega)
          (by have:=hf ((i+1)*3) (by omega);simp only[World.frozen?,hmem];simp;omega) (by have:=hf arr.size (Nat.le_refl _);simp only[World.frozen?,hmem];simp;omega)]
      rfl
    refine(iqShift171 hinf hsz w b i n c vb vo vc arr tb fz cs vs hmem (fun j hj=>hf j (by omega)) hi hroom hsize hby hbn hcs hvl (fun j u hj=>by simpa [World.cell?,hmemv] using hvs j u hj) h1 h1v hov _ _ rfl rfl).mono fun x w'=>?_
    rintro⟨rfl,rfl⟩
    have hA1s:(arr.toList.take ((i+1)*3)++(cs++arr.toList.drop ((i+1)*3+cs.length))).toArray.size=arr.size:=by simp[hcl];omega
    have hm1:=setRow_heap w.drew b arr (arr.toList.take ((i+1)*3)++(cs++arr.toList.drop ((i+1)*3+cs.length))).toArray tb fz hmem
    generalize hA1:(arr.toList.take ((i+1)*3)++(cs++arr.toList.drop ((i+1)*3+cs.length))).toArray=A1 at *
    have hA2s:(A1.toList.take (i*3)++(vs++A1.toList.drop (i*3+vs.length))).toArray.size=A1.size:=by simp[hvl];omega
    have hm2:=setRow_heap (w.drew.setRow b A1) b A1 (A1.toList.take (i*3)++(vs++A1.toList.drop (i*3+vs.length))).toArray tb fz hm1
    refine⟨b,c,tb,_,fz,rfl,rfl,rfl,rfl,hm2,fun j hj=>hf j (by rw[hA2s,hA1s] at hj;exact hj),by rw[hA2s,hA1s];exact hsize,hroom,?_,.inl ⟨rfl,rfl,by rw[hA2s,hA1s],by rw[setRow_size,setRow_size];rfl,fun j hj=>?_⟩⟩
    · subst hA1
      exact insShiftL arr.toList vs cs (i*3) (n*3) 3 ((i+1)*3) ((n+1)*3) (by omega) (by omega) (by omega) (by simp;omega) hvl hcs
    · rw[setRow_other _ _ _ _ hj,setRow_other _ _ _ _ hj];rfl
  · refine(iqGrow171 hinf hsz hzz hzs hbb w b i n c vb vo vc arr tb fz cs vs hmem hi hnc hroom hsize hby va tv fv hmemv hcs hvl hvs h1 h1v _ rfl _ _ _ rfl rfl rfl).mono fun x w'=>?_
    rintro⟨rfl,rfl⟩
    have hGn:n+1≤grownCap w (n+1) c 53:=grownCap_ge w _ _ _
    have hzc:∀k,(Builtin.zeroCells z.cells k).size=k*3:=fun k=>by rw[size_zeroCells,hzs]
    have hRs:((arr.toList.take (i*3)).toArray++Builtin.zeroCells z.cells (n+1-i)++Builtin.zeroCells z.cells (grownCap w (n+1) c 53-(n+1))).size=grownCap w (n+1) c 53*3:=by
      simp only[Array.size_append,hzc,List.size_toArray,List.length_take,Array.length_toList];omega
    have hRt:((arr.toList.take (i*3)).toArray++Builtin.zeroCells z.cells (n+1-i)++Builtin.zeroCells z.cells (grownCap w (n+1) c 53-(n+1))).toList.take (i*3)=arr.toList.take (i*3):=by
      simp only[Array.toList_append,List.append_assoc]
      exact List.take_left' (by simp;omega)
    generalize hG:grownCap w (n+1) c 53=G at *
    generalize hR:(arr.toList.take (i*3)).toArray++Builtin.zeroCells z.cells (n+1-i)++Builtin.zeroCells z.cells (G-(n+1))=ROW at *
    have hm0:(w.drew.alloc (.cells ROW 53)).heap[w.heap.size]? = some (.cells ROW 53 (0,0)):=heap_alloc_new w.drew _
    have hA1s:(ROW.toList.take (i*3)++(vs++ROW.toList.drop (i*3+vs.length))).toArray.size=ROW.size:=by simp[hvl];omega
    have hm1:=setRow_heap (w.drew.alloc (.cells ROW 53)) w.heap.size ROW (ROW.toList.take (i*3)++(vs++ROW.toList.drop (i*3+vs.length))).toArray 53 (0,0) hm0
    generalize hA1:(ROW.toList.take (i*3)++(vs++ROW.toList.drop (i*3+vs.length))).toArray=A1 at *
    have hA2s:(A1.toList.take ((i+1)*3)++(cs++A1.toList.drop ((i+1)*3+cs.length))).toArray.size=A1.size:=by simp[hcl];omega
    have hm2:=setRow_heap ((w.drew.alloc (.cells ROW 53)).setRow w.heap.size A1).drew w.heap.size A1 (A1.toList.take ((i+1)*3)++(cs++A1.toList.drop ((i+1)*3+cs.length))).toArray 53 (0,0) hm1
    refine⟨w.heap.size,G,53,_,(0,0),rfl,rfl,rfl,rfl,hm2,fun j _ hj=>by simp at hj,by rw[hA2s,hA1s];exact hRs,hGn,?_,.inr ⟨rfl,rfl,?_,fun j hj=>?_⟩⟩
    · subst hA1
      exact insGrowL arr.toList ROW.toList vs cs (i*3) (n*3) 3 ((i+1)*3) ((n+1)*3) (by omega) (by omega) (by omega) (by simp;omega) hvl hcs hRt
    · rw[setRow_size]
      show ((w.drew.alloc (.cells ROW 53)).setRow w.heap.size A1).heap.size=_
      rw[setRow_size]
      simp
    · rw[setRow_other _ _ _ _ (by omega)]
      show ((w.drew.alloc (.cells ROW 53)).setRow w.heap.size A1).heap[j]? = _
      rw[setRow_other _ _ _ _ (by omega)]
      exact heap_alloc_old w.drew _ hj


theorem iqU177:Tryz.prog.underlying 32=some (.slice 69):=by kernel_rfl
theorem iqI177:Tryz.prog.underlying 3=some (.int .i64):=by kernel_rfl
theorem iqE177:∃(inf:TypeInfo) (z:Value),Tryz.prog.info? 69=some inf∧inf.size=2∧inf.zero=some z∧z.cells.size=2∧inf.bytes=24:=insE_of (by kernel_rfl)
set_option maxHeartbeats 4000000 in
theorem iqShift177 {inf:TypeInfo} (hinf:Tryz.prog.info? 69=some inf) (hsz:inf.size=2) (w:World) (b i n c vb vo vc:Nat) (arr:Array Value) (tb:Nat) (fz:Nat×Nat) (cs vs:List Value) (hmem:w.heap[b]? = some (.cells arr tb fz)) (hf:∀j,j<arr.size→¬(fz.1≤j∧j<fz.2))
    (hi:i<n) (hroom:n+1≤c) (hsize:arr.size=c*2) (hby:(n+1)*24≤140737488355328) (hbn:vb≠b)
    (hcs:cs=(arr.toList.take (n*2)).drop (i*2)) (hvl:vs.length=2) (hvs:∀(j:Nat) (u:Value),vs[j]? = some u→w.cell? ⟨vb,vo+j,none⟩=some u) (h1c:∀u∈cs,u.oneCell'=true) (h1v:∀u∈vs,u.oneCell'=true)
    (hov:∀y,(callFunc 191 #[.slice (some ⟨vb,vo,none⟩) 1 vc,.slice (some ⟨b,(i+1)*2,none⟩) (n-i) y]).run Tryz.prog w=.ok (.value (.bool false)) w) (A1 A2:Array Value)
    (hA1:A1=(arr.toList.take ((i+1)*2)++(cs++arr.toList.drop ((i+1)*2+cs.length))).toArray) (hA2:A2=(A1.toList.take (i*2)++(vs++A1.toList.drop (i*2+vs.length))).toArray):
    Calls Tryz.prog 177 #[.slice (some ⟨b,0,none⟩) n c,.int .i64 (i:Nat),.slice (some ⟨vb,vo,none⟩) 1 vc] w fun e w'=>e=.returned (.slice (some ⟨b,0,none⟩) (n+1) c)∧w'=(w.drew.setRow b A1).setRow b A2:=by
  have mixed:=mixed
  have hz2:¬((i:Int)=(n:Int)):=by omega
  have hw1:IntKind.i64.wrap ((i:Int)+(1:Int))=(i:Int)+(1:Int):=by rw[IntKind.wrap_i64];omega
  have hw2:IntKind.i64.wrap ((n:Int)+(1:Int))=(n:Int)+(1:Int):=by rw[IntKind.wrap_i64];omega
  have hcl:cs.length=(n-i)*2:=by rw[hcs];simp;omega
  have hA1s:A1.size=arr.size:=by rw[hA1];simp[hcl];omega
  have hcp1:∀ty dc sc,(Builtin.copy_ #[32,32] ty #[.slice (some ⟨b,(i+1)*2,none⟩) (n-i) dc,.slice (some ⟨b,i*2,none⟩) (n+1-i) sc]).run Tryz.prog w.drew=.ok (.int .i64 ((n-i:Nat):Int)) (w.drew.setRow b A1):=fun ty dc sc=>by
    rw[hA1]
    refine run_copyR iqU177 hinf w.drew (fz:=fz) hmem hf _ _ _ (m:=n+1-i) (k:=n-i) (by omega) (lenOf_slice _ _ _ _) (run_firstCells_some w.drew _ _ _ _ _ _ (by rw[hsz];exact hcl) (fun j v hj=>?_)) (by omega) h1c
    rw[hcs,List.getElem?_drop,List.getElem?_take] at hj
    split at hj
    · have:(⟨b,i*2,none⟩:Addr).add j=⟨b,i*2+j,none⟩:=by unfold Addr.add;split<;>simp_all
      rw[this]
      have e:w.drew.cell? ⟨b,i*2+j,none⟩=arr[i*2+j]?:=by simp[World.cell?,show w.drew.heap=w.heap from rfl,hmem]
      rw[e];simpa using hj
    · cases hj
  have hcp2:∀(W:World),W.heap=(w.drew.setRow b A1).heap→∀ty dc,(Builtin.copy_ #[32,32] ty #[.slice (some ⟨b,i*2,none⟩) (n+1-i) dc,.slice (some ⟨vb,vo,none⟩) 1 vc]).run Tryz.prog W=.ok (.int .i64 ((1:Nat):Int)) (W.setRow b A2):=fun W hW ty dc=>by
    rw[hA2]
    have hm1:W.heap[b]? = some (.cells A1 tb fz):=by rw[hW];exact setRow_heap w.drew b arr A1 tb fz hmem
    refine run_copyR iqU177 hinf W (fz:=fz) hm1 (by rw[hA1s];exact hf) _ _ _ (m:=1) (k:=1) (by omega) (lenOf_slice _ _ _ _) (run_firstCells_some W _ _ _ _ _ _ (by rw[hsz];exact hvl) (fun j v hj=>?_)) (by omega) h1v
    have:(⟨vb,vo,none⟩:Addr).add j=⟨vb,vo+j,none⟩:=by unfold Addr.add;split<;>simp_all
    rw[this]
    have e:W.cell? ⟨vb,vo+j,none⟩=w.cell? ⟨vb,vo+j,none⟩:=cell_congr (by rw[hW];exact setRow_other w.drew b vb A1 hbn)
    rw[e];exact hvs j v hj
  have hb1:(0:Int)≤(i:Int)+1:=by omega
  have hin:i≤n:=by omega
  have hb2:¬(c=i+1):=by omega
  have hb4:¬(c=i):=by omega
  have hb3:(i:Int)≤(n:Int)+1:=by omega
  clear hcs hA1 hA2
  go_enter Tryz.func177,Tryz.ntmps177
  go_wp2_with (simp only[hov])
  go_region_law_o (refine step_copy_runR rfl _ _ 32 32 rfl _ _ (by simp[Act.eval,Act.put]) (by simp[Act.eval,Act.put]) (hcp1 _ _ _) ?_)
  go_wp2_with (at_builtin;refine wpList_copy_runR _ rfl _ _ 32 32 rfl _ _ rfl rfl (hcp2 _ rfl _ _) ?_)
  go_ret
  exact⟨rfl,rfl⟩
set_option maxHeartbeats 4000000 in
theorem iqGrow177 {inf:TypeInfo} {z:Value} (hinf:Tryz.prog.info? 69=some inf) (hsz:inf.size=2) (hzz:inf.zero=some z) (hzs:z.cells.size=2) (hbb:inf.bytes=24) (w:World) (b i n c vb vo vc:Nat) (arr:Array Value) (tb:Nat) (fz:Nat×Nat) (cs vs:List Value) (hmem:w.heap[b]? = some (.cells arr tb fz))
    (hi:i<n) (hnc:n≤c) (hroom:¬(n+1≤c)) (hsize:arr.size=c*2) (hby:(n+1)*24≤140737488355328) (va:Array Value) (tv:Nat) (fv:Nat×Nat) (hmemv:w.heap[vb]? = some (.cells va tv fv))
    (hcs:cs=(arr.toList.take (n*2)).drop (i*2)) (hvl:vs.length=2) (hvs:∀(j:Nat) (u:Value),vs[j]? = some u→va[vo+j]? = some u) (h1c:∀u∈cs,u.oneCell'=true) (h1v:∀u∈vs,u.oneCell'=true)
    (G:Nat) (hG:G=grownCap w (n+1) c 69) (ROW A1 A2:Array Value)
    (hROW:ROW=(arr.toList.take (i*2)).toArray++Builtin.zeroCells z.cells (n+1-i)++Builtin.zeroCells z.cells (G-(n+1)))
    (hA1:A1=(ROW.toList.take (i*2)++(vs++ROW.toList.drop (i*2+vs.length))).toArray) (hA2:A2=(A1.toList.take ((i+1)*2)++(cs++A1.toList.drop ((i+1)*2+cs.length))).toArray):
    Calls Tryz.prog 177 #[.slice (some ⟨b,0,none⟩) n c,.int .i64 (i:Nat),.slice (some ⟨vb,vo,none⟩) 1 vc] w fun e w'=>e=.returned (.slice (some ⟨w.heap.size,0,none⟩) (n+1) G)∧w'=(((w.drew.alloc (.cells ROW 69)).setRow w.heap.size A1).drew).setRow w.heap.size A2:=by
  have mixed:=mixed
  have hz2:¬((i:Int)=(n:Int)):=by omega
  have hw1:IntKind.i64.wrap ((i:Int)+(1:Int))=(i:Int)+(1:Int):=by rw[IntKind.wrap_i64];omega
  have hw2:IntKind.i64.wrap ((n:Int)+(1:Int))=(n:Int)+(1:Int):=by rw[IntKind.wrap_i64];omega
  have hw3:IntKind.i64.wrap ((n:Int)+(1:Int)-(i:Int))=(n:Int)+(1:Int)-(i:Int):=by rw[IntKind.wrap_i64];omega
  have hcl:cs.length=(n-i)*2:=by rw[hcs];simp;omega
  have hGn:n+1≤G:=by rw[hG];exact grownCap_ge w _ _ _
  have hbw:b<w.heap.size:=(Array.getElem?_eq_some_iff.1 hmem).1
  have hvw:vb<w.heap.size:=(Array.getElem?_eq_some_iff.1 hmemv).1
  have hzc:∀k,(Builtin.zeroCells z.cells k).size=k*2:=fun k=>by rw[size_zeroCells,hzs]
  have hRs:ROW.size=G*2:=by
    rw[hROW];simp only[Array.size_append,hzc,List.size_toArray,List.length_take,Array.length_toList];omega
  have hA1s:A1.size=ROW.size:=by rw[hA1];simp[hvl];omega
  have hold:(Builtin.firstCells inf.size i (.slice (some ⟨b,0,none⟩) i c)).run Tryz.prog w.drew=.ok (arr.toList.take (i*2)).toArray w.drew:=by
    rw[hsz]
    refine run_firstCells_some w.drew 2 i ⟨b,0,none⟩ i c (arr.toList.take (i*2)) (by rw[List.length_take];simp;omega) (fun j v hj=>?_)
    rw[List.getElem?_take] at hj
    split at hj
    · have:(⟨b,0,none⟩:Addr).add j=⟨b,j,none⟩:=by unfold Addr.add;split<;>simp_all
      rw[this]
      have e:w.drew.cell? ⟨b,j,none⟩=arr[j]?:=by simp[World.cell?,show w.drew.heap=w.heap from rfl,hmem]
      rw[e];simpa using hj
    · cases hj
  have hik:i+(n+1-i)=n+1:=by omega
  have hkk:(n:Int)+1-(i:Int)=((n+1-i:Nat):Int):=by omega
  obtain⟨W1,hW1⟩:∃W1,W1=w.drew.alloc (.cells ROW 69):=⟨_,rfl⟩
  have hrz:∀ty,(Builtin.append_ #[32,3] ty #[.slice (some ⟨b,0,none⟩) i c,.int .i64 ((n:Int)+1-(i:Int))]).run Tryz.prog w=.ok (.slice (some ⟨w.heap.size,0,none⟩) (n+1) G) W1:=fun ty=>by
    have hnx:=nextslicecap_le (need:=n+1) (old:=c) (by omega)
    have h:=Lib.run_append_grow_zeros w 32 3 ty 69 inf z .i64 .i64 iqU177 iqI177 hinf hzz (some ⟨b,0,none⟩) i c (arr.toList.take (i*2)) hold (n+1-i) (by omega) (by omega) (by omega) (by omega) (by rw[hbb];omega) (by rw[hbb,hik];omega)
    rw[hik,←hG,←hROW,←hW1] at h
    rw[hkk]
    exact h
  have hWn:W1.heap[w.heap.size]? = some (.cells ROW 69 (0,0)):=by rw[hW1];exact heap_alloc_new w.drew _
  have hWo:∀j,j<w.heap.size→W1.heap[j]? = w.heap[j]?:=fun j hj=>by rw[hW1];exact heap_alloc_old w.drew _ hj
  have hcp1:∀(W:World),W.heap=W1.heap→∀ty dc,(Builtin.copy_ #[32,32] ty #[.slice (some ⟨w.heap.size,i*2,none⟩) (n+1-i) dc,.slice (some ⟨vb,vo,none⟩) 1 vc]).run Tryz.prog W=.ok (.int .i64 ((1:Nat):Int)) (W.setRow w.heap.size A1):=fun W hW ty dc=>by
    rw[hA1]
    refine run_copyR iqU177 hinf W (fz:=(0,0)) (by rw[hW];exact hWn) (fun j _ hj=>by simp at hj) _ _ _ (m:=1) (k:=1) (by omega) (lenOf_slice _ _ _ _) (run_firstCells_some W _ _ _ _ _ _ (by rw[hsz];exact hvl) (fun j v hj=>?_)) (by omega) h1v
    have:(⟨vb,vo,none⟩:Addr).add j=⟨vb,vo+j,none⟩:=by unfold Addr.add;split<;>simp_all
    rw[this]
    have e:W.cell? ⟨vb,vo+j,none⟩=va[vo+j]?:=by simp[World.cell?,hW,hWo vb hvw,hmemv]
    rw[e];exact hvs j v hj
  have hcp2:∀(W:World),W.heap=(W1.setRow w.heap.size A1).heap→∀ty dc sc,(Builtin.copy_ #[32,32] ty #[.slice (some ⟨w.heap.size,(i+1)*2,none⟩) (n-i) dc,.slice (some ⟨b,i*2,none⟩) (n-i) sc]).run Tryz.prog W=.ok (.int .i64 ((n-i:Nat):Int)) (W.setRow w.heap.size A2):=fun W hW ty dc sc=>by
    rw[hA2]
    have hm1:W.heap[w.heap.size]? = some (.cells A1 69 (0,0)):=by rw[hW];exact setRow_heap W1 w.heap.size ROW A1 69 (0,0) hWn
    refine run_copyR iqU177 hinf W (fz:=(0,0)) hm1 (fun j _ hj=>by simp at hj) _ _ _ (m:=n-i) (k:=n-i) (by omega) (lenOf_slice _ _ _ _) (run_firstCells_some W _ _ _ _ _ _ (by rw[hsz];exact hcl) (fun j v hj=>?_)) (by omega) h1c
    rw[hcs,List.getElem?_drop,List.getElem?_take] at hj
    split at hj
    · have:(⟨b,i*2,none⟩:Addr).add j=⟨b,i*2+j,none⟩:=by unfold Addr.add;split<;>simp_all
      rw[this]
      have e:W.cell? ⟨b,i*2+j,none⟩=arr[i*2+j]?:=by
        have e1:W.heap[b]? = w.heap[b]?:=by rw[hW,setRow_other W1 w.heap.size b A1 (by omega)];exact hWo b hbw
        simp[World.cell?,e1,hmem]
      rw[e];simpa using hj
    · cases hj
  have hb1:(0:Int)≤(i:Int)+1:=by omega
  have hin:i≤n:=by omega
  have hb2:¬(G=i+1):=by omega
  have hb4:¬(c=i):=by omega
  have hb5:¬(G=i):=by omega
  have hb3:(i:Int)≤(n:Int)+1:=by omega
  have hb6:(c:Int)<(n:Int)+1:=by omega
  have hb7:i≤c:=by omega
  rw[←hW1]
  clear hG hcs hA1 hA2 hW1 hold hROW hWn hWo hik hkk
  go_enter Tryz.func177,Tryz.ntmps177
  go_wp2_with (first
    | (at_builtin;refine Lib.wpList_append_run _ rfl _ _ _ _ rfl _ _ rfl rfl _ _ (hrz _) ?_)
    | (at_builtin;refine wpList_copy_runR _ rfl _ _ 32 32 rfl _ _ rfl rfl (hcp1 _ (by exact rfl) _ _) ?_))
  have hF:((W1.setRow w.heap.size A1).drew).heap=(W1.setRow w.heap.size A1).heap:=rfl
  go_region_law_o (refine step_copy_runR rfl _ _ 32 32 rfl (.slice (some ⟨w.heap.size,(i+1)*2,none⟩) (n-i) (G-(i+1))) (.slice (some ⟨b,i*2,none⟩) (n-i) (c-i)) (by simp[Act.eval,Act.put]) (by simp[Act.eval,Act.put]) (hcp2 _ hF 3 (G-(i+1)) (c-i)) ?_)
  go_wp2
  go_ret
  exact⟨rfl,rfl⟩
theorem insP177:InsP Tryz.prog 177 69 2 24:=by
  intro w b i n c vb vo vc arr va tb tv fz fv vs hmem hsize hf hmemv hbn hvl hvs h1v h1c hi hnc hby
  obtain⟨inf,z,hinf,hsz,hzz,hzs,hbb⟩:=iqE177
  obtain⟨cs,hcs⟩:∃cs,cs=(arr.toList.take (n*2)).drop (i*2):=⟨_,rfl⟩
  have h1:∀u∈cs,u.oneCell'=true:=fun u hu=>h1c u (by rw[hcs] at hu;exact List.mem_of_mem_drop hu)
  have hcl:cs.length=(n-i)*2:=by rw[hcs];simp;omega
  by_cases hroom:n+1≤c
  · have hvo:vo<va.size:=by
      have:=hvs 0 vs[0] (List.getElem?_eq_getElem (by omega))
      have:=(Array.getElem?_eq_some_iff.1 this).1
      omega
    have hov:∀y,(callFunc 191 #[.slice (some ⟨vb,vo,none⟩) 1 vc,.slice (some ⟨b,(i+1)*2,none⟩) (n-i) y]).run Tryz.prog w=.ok (.value (.bool false)) w:=fun y=>by
      rw[run_callFunc_extern Tryz.func191 (by kernel_rfl) (by kernel_rfl) (by kernel_rfl) (e:=Extern.SlicesOverlaps.overlaps #[32,32] #[4]) (by kernel_rfl),
        overlaps_apart2 w 32 4 69 iqU177 2 (fun w=>by rw[run_size hinf,hsz]) ⟨vb,vo,none⟩ ⟨b,(i+1)*2,none⟩ 1 vc (n-i) y hbn tv tb va.size arr.size (by simp[World.shape?,hmemv]) (by simp[World.shape?,hmem]) (by omega)
          (by have:=hf ((i+1)*2) (by omega);simp only[World.frozen?,hmem];simp;omega) (by have:=hf arr.size (Nat.le_refl _);simp only[World.frozen?,hmem];simp;omega)]
      rfl
    refine(iqShift177 hinf hsz w b i n c vb vo vc arr tb fz cs vs hmem (fun j hj=>hf j (by omega)) hi hroom hsize hby hbn hcs hvl (fun j u hj=>by simpa [World.cell?,hmemv] using hvs j u hj) h1 h1v hov _ _ rfl rfl).mono fun x w'=>?_
    rintro⟨rfl,rfl⟩
    have hA1s:(arr.toList.take ((i+1)*2)++(cs++arr.toList.drop ((i+1)*2+cs.length))).toArray.size=arr.size:=by simp[hcl];omega
    have hm1:=setRow_heap w.drew b arr (arr.toList.take ((i+1)*2)++(cs++arr.toList.drop ((i+1)*2+cs.length))).toArray tb fz hmem
    generalize hA1:(arr.toList.take ((i+1)*2)++(cs++arr.toList.drop ((i+1)*2+cs.length))).toArray=A1 at *
    have hA2s:(A1.toList.take (i*2)++(vs++A1.toList.drop (i*2+vs.length))).toArray.size=A1.size:=by simp[hvl];omega
    have hm2:=setRow_heap (w.drew.setRow b A1) b A1 (A1.toList.take (i*2)++(vs++A1.toList.drop (i*2+vs.length))).toArray tb fz hm1
    refine⟨b,c,tb,_,fz,rfl,rfl,rfl,rfl,hm2,fun j hj=>hf j (by rw[hA2s,hA1s] at hj;exact hj),by rw[hA2s,hA1s];exact hsize,hroom,?_,.inl ⟨rfl,rfl,by rw[hA2s,hA1s],by rw[setRow_size,setRow_size];rfl,fun j hj=>?_⟩⟩
    · subst hA1
      exact insShiftL arr.toList vs cs (i*2) (n*2) 2 ((i+1)*2) ((n+1)*2) (by omega) (by omega) (by omega) (by simp;omega) hvl hcs
    · rw[setRow_other _ _ _ _ hj,setRow_other _ _ _ _ hj];rfl
  · refine(iqGrow177 hinf hsz hzz hzs hbb w b i n c vb vo vc arr tb fz cs vs hmem hi hnc hroom hsize hby va tv fv hmemv hcs hvl hvs h1 h1v _ rfl _ _ _ rfl rfl rfl).mono fun x w'=>?_
    rintro⟨rfl,rfl⟩
    have hGn:n+1≤grownCap w (n+1) c 69:=grownCap_ge w _ _ _
    have hzc:∀k,(Builtin.zeroCells z.cells k).size=k*2:=fun k=>by rw[size_zeroCells,hzs]
    have hRs:((arr.toList.take (i*2)).toArray++Builtin.zeroCells z.cells (n+1-i)++Builtin.zeroCells z.cells (grownCap w (n+1) c 69-(n+1))).size=grownCap w (n+1) c 69*2:=by
      simp only[Array.size_append,hzc,List.size_toArray,List.length_take,Array.length_toList];omega
    have hRt:((arr.toList.take (i*2)).toArray++Builtin.zeroCells z.cells (n+1-i)++Builtin.zeroCells z.cells (grownCap w (n+1) c 69-(n+1))).toList.take (i*2)=arr.toList.take (i*2):=by
      simp only[Array.toList_append,List.append_assoc]
      exact List.take_left' (by simp;omega)
    generalize hG:grownCap w (n+1) c 69=G at *
    generalize hR:(arr.toList.take (i*2)).toArray++Builtin.zeroCells z.cells (n+1-i)++Builtin.zeroCells z.cells (G-(n+1))=ROW at *
    have hm0:(w.drew.alloc (.cells ROW 69)).heap[w.heap.size]? = some (.cells ROW 69 (0,0)):=heap_alloc_new w.drew _
    have hA1s:(ROW.toList.take (i*2)++(vs++ROW.toList.drop (i*2+vs.length))).toArray.size=ROW.size:=by simp[hvl];omega
    have hm1:=setRow_heap (w.drew.alloc (.cells ROW 69)) w.heap.size ROW (ROW.toList.take (i*2)++(vs++ROW.toList.drop (i*2+vs.length))).toArray 69 (0,0) hm0
    generalize hA1:(ROW.toList.take (i*2)++(vs++ROW.toList.drop (i*2+vs.length))).toArray=A1 at *
    have hA2s:(A1.toList.take ((i+1)*2)++(cs++A1.toList.drop ((i+1)*2+cs.length))).toArray.size=A1.size:=by simp[hcl];omega
    have hm2:=setRow_heap ((w.drew.alloc (.cells ROW 69)).setRow w.heap.size A1).drew w.heap.size A1 (A1.toList.take ((i+1)*2)++(cs++A1.toList.drop ((i+1)*2+cs.length))).toArray 69 (0,0) hm1
    refine⟨w.heap.size,G,69,_,(0,0),rfl,rfl,rfl,rfl,hm2,fun j _ hj=>by simp at hj,by rw[hA2s,hA1s];exact hRs,hGn,?_,.inr ⟨rfl,rfl,?_,fun j hj=>?_⟩⟩
    · subst hA1
      exact insGrowL arr.toList ROW.toList vs cs (i*2) (n*2) 2 ((i+1)*2) ((n+1)*2) (by omega) (by omega) (by omega) (by simp;omega) hvl hcs hRt
    · rw[setRow_size]
      show ((w.drew.alloc (.cells ROW 69)).setRow w.heap.size A1).heap.size=_
      rw[setRow_size]
      simp
    · rw[setRow_other _ _ _ _ (by omega)]
      show ((w.drew.alloc (.cells ROW 69)).setRow w.heap.size A1).heap[j]? = _
      rw[setRow_other _ _ _ _ (by omega)]
      exact heap_alloc_old w.drew _ hj


set_option maxHeartbeats 4000000 in
theorem insEndN171 (w:World) (n c:Nat) (a:Addr) (vc:Nat) (hnc:n≤c) (hc0:c=0) (hn:n≤140737488355328) (x:Option Addr) (m k:Nat) {w1:World}
    (hap:∀ty,(Builtin.append_ #[29,29] ty #[.slice none n c,.slice (some a) 1 vc]).run Tryz.prog w=.ok (.slice x m k) w1):
    Calls Tryz.prog 171 #[.slice none n c,.int .i64 (n:Nat),.slice (some a) 1 vc] w fun e w'=>e=.returned (.slice x m k)∧w'=w1:=by
  have mixed:=mixed
  have hb1:(0:Int)≤(n:Int):=by omega
  have hb2:(n:Int)≤(n:Int):=Int.le_refl _
  have hb7:(n:Int)≤(c:Int):=by omega
  have hn0:n=0:=by omega
  subst hc0 hn0
  all_goals
    go_enter Tryz.func171,Tryz.ntmps171
    go_wp2_with (at_builtin;refine Lib.wpList_append_run _ rfl _ _ _ _ rfl _ _ rfl rfl _ _ (hap _) ?_)
    all_goals
      go_ret
      exact⟨rfl,rfl⟩


set_option maxHeartbeats 4000000 in
theorem insEndS171 (w:World) (b:Addr) (n c:Nat) (a:Addr) (vc:Nat) (hnc:n≤c) (hn:n≤140737488355328) (x:Option Addr) (m k:Nat) {w1:World}
    (hap:∀ty,(Builtin.append_ #[29,29] ty #[.slice (some b) n c,.slice (some a) 1 vc]).run Tryz.prog w=.ok (.slice x m k) w1):
    Calls Tryz.prog 171 #[.slice (some b) n c,.int .i64 (n:Nat),.slice (some a) 1 vc] w fun e w'=>e=.returned (.slice x m k)∧w'=w1:=by
  have mixed:=mixed
  have hb1:(0:Int)≤(n:Int):=by omega
  have hb2:(n:Int)≤(n:Int):=Int.le_refl _
  have hb7:(n:Int)≤(c:Int):=by omega
  have hb8:True:=trivial
  by_cases hcn:c=n
  all_goals
    go_enter Tryz.func171,Tryz.ntmps171
    go_wp2_with (at_builtin;refine Lib.wpList_append_run _ rfl _ _ _ _ rfl _ _ rfl rfl _ _ (hap _) ?_)
    all_goals
      go_ret
      exact⟨rfl,rfl⟩


set_option maxHeartbeats 4000000 in
theorem insEndN177 (w:World) (n c:Nat) (a:Addr) (vc:Nat) (hnc:n≤c) (hc0:c=0) (hn:n≤140737488355328) (x:Option Addr) (m k:Nat) {w1:World}
    (hap:∀ty,(Builtin.append_ #[32,32] ty #[.slice none n c,.slice (some a) 1 vc]).run Tryz.prog w=.ok (.slice x m k) w1):
    Calls Tryz.prog 177 #[.slice none n c,.int .i64 (n:Nat),.slice (some a) 1 vc] w fun e w'=>e=.returned (.slice x m k)∧w'=w1:=by
  have mixed:=mixed
  have hb1:(0:Int)≤(n:Int):=by omega
  have hb2:(n:Int)≤(n:Int):=Int.le_refl _
  have hb7:(n:Int)≤(c:Int):=by omega
  have hn0:n=0:=by omega
  subst hc0 hn0
  all_goals
    go_enter Tryz.func177,Tryz.ntmps177
    go_wp2_with (at_builtin;refine Lib.wpList_append_run _ rfl _ _ _ _ rfl _ _ rfl rfl _ _ (hap _) ?_)
    all_goals
      go_ret
      exact⟨rfl,rfl⟩


set_option maxHeartbeats 4000000 in
theorem insEndS177 (w:World) (b:Addr) (n c:Nat) (a:Addr) (vc:Nat) (hnc:n≤c) (hn:n≤140737488355328) (x:Option Addr) (m k:Nat) {w1:World}
    (hap:∀ty,(Builtin.append_ #[32,32] ty #[.slice (some b) n c,.slice (some a) 1 vc]).run Tryz.prog w=.ok (.slice x m k) w1):
    Calls Tryz.prog 177 #[.slice (some b) n c,.int .i64 (n:Nat),.slice (some a) 1 vc] w fun e w'=>e=.returned (.slice x m k)∧w'=w1:=by
  have mixed:=mixed
  have hb1:(0:Int)≤(n:Int):=by omega
  have hb2:(n:Int)≤(n:Int):=Int.le_refl _
  have hb7:(n:Int)≤(c:Int):=by omega
  have hb8:True:=trivial
  by_cases hcn:c=n
  all_goals
    go_enter Tryz.func177,Tryz.ntmps177
    go_wp2_with (at_builtin;refine Lib.wpList_append_run _ rfl _ _ _ _ rfl _ _ rfl rfl _ _ (hap _) ?_)
    all_goals
      go_ret
      exact⟨rfl,rfl⟩


theorem insN171:InsE Tryz.prog 171 29 53 3 24:=by
  refine⟨iqU171,?_,fun w base n c a vc hnc hbn hn x m k w1 hap=>?_⟩
  · obtain⟨inf,z,h1,h2,h3,h4,h5⟩:=iqE171
    exact⟨inf,z,h1,h2,h3,h4,h5⟩
  · cases base with
    | none=>exact insEndN171 w n c a vc hnc (hbn rfl) hn x m k hap
    | some b=>exact insEndS171 w b n c a vc hnc hn x m k hap

theorem insN177:InsE Tryz.prog 177 32 69 2 24:=by
  refine⟨iqU177,?_,fun w base n c a vc hnc hbn hn x m k w1 hap=>?_⟩
  · obtain⟨inf,z,h1,h2,h3,h4,h5⟩:=iqE177
    exact⟨inf,z,h1,h2,h3,h4,h5⟩
  · cases base with
    | none=>exact insEndN177 w n c a vc hnc (hbn rfl) hn x m k hap
    | some b=>exact insEndS177 w b n c a vc hnc hn x m k hap

def u_bB:Uf:=⟨156,18,Tryz.f156,[.val .str,.val .str],[],
⟨[(4,.val .bool)],[]⟩,[],
[],
[],fun y=>(valW .bool y,[],[])⟩
def V_bB (N:Nat) (x:List UInt8×List UInt8):Option (Bool):=
 cnd (decide ((↑(List.length x.2):Int)≤(↑(List.length x.1):Int))) (cnd (decide ((0:Int)≤(↑(List.length x.2):Int))&&decide ((↑(List.length x.2):Int)≤(↑(List.length x.1):Int))) (some (List.drop (0:Nat) (List.take (Int.toNat (↑(List.length x.2):Int)) x.1)==x.2)) none) (some false)
theorem q_bB:∀N x,u_bB.F L0 P0 (orcOf []) N x=V_bB N x:=by intros;kernel_rfl
def W_bB (N:Nat):=V_bB N
theorem con_bB_ok (N:Nat):(u_bB.con (W_bB N)).ok P0:=Uf.ok mixed (q_bB N) trivial Tryz.func156 (by kernel_rfl) fun x y=>by kernel_rfl
def u_bC:Uf:=⟨107,8,Tryz.f107,[.val .str,.val .str],[],
⟨[(4,.val .bool)],[]⟩,[],
[],
[],fun y=>(valW .bool y,[],[])⟩
def V_bC (w_bB:List UInt8×List UInt8→Option (Bool)) (N:Nat) (x:List UInt8×List UInt8):Option (Bool):=
 obind (w_bB x) fun b=>some b
theorem q_bC:∀w_bB N x,u_bC.F L0 P0 (orcOf [u_bB.con w_bB]) N x=V_bC w_bB N x:=by intros;kernel_rfl
def W_bC (N:Nat):=V_bC (W_bB N) N
theorem con_bC_ok (N:Nat):(u_bC.con (W_bC N)).ok P0:=Uf.ok mixed (q_bC (W_bB N) N) ⟨con_bB_ok N,trivial⟩ Tryz.func107 (by kernel_rfl) fun x y=>by kernel_rfl
def u_bE:Uf:=⟨52,14,Tryz.f52,[.val .str,.val (.int .i32)],[],
⟨[(4,.val (.int .i64))],[]⟩,[],
[],
[],fun y=>(valW (.int .i64) y,[],[])⟩
def V_bE (w_bC:List UInt8×List UInt8→Option (Bool)) (N:Nat) (x:List UInt8×Int):Option (Int):=
 cnd (decide (x.2=(65533:Int))) (obind (w_bC (x.1,[(239:UInt8),(191:UInt8),(189:UInt8)])) fun b=>cnd (!b) (some (-1:Int)) (some (wr .i64 x.2))) (some (wr .i64 x.2))
theorem q_bE:∀w_bC N x,u_bE.F L0 P0 (orcOf [u_bC.con w_bC]) N x=V_bE w_bC N x:=by intros;kernel_rfl
def W_bE (N:Nat):=V_bE (W_bC N) N
theorem con_bE_ok (N:Nat):(u_bE.con (W_bE N)).ok P0:=Uf.ok mixed (q_bE (W_bC N) N) ⟨con_bC_ok N,trivial⟩ Tryz.func52 (by kernel_rfl) fun x y=>by kernel_rfl
def u_bP:Uf:=⟨26,36,Tryz.f26,[.val .str],[],
⟨[(2,.val .bool)],[]⟩,[],
[(3,.loop [] ⟨[(3,.val (.int .i64)),(8,.ptr 600008 0)],[(600008,.iter)]⟩ [(.exit 0,⟨[(3,.val (.int .i64))],[]⟩),(.ret,⟨[(2,.val .bool)],[]⟩)])],
[],fun y=>(valW .bool y,[],[])⟩
def V_bP (w_bE:List UInt8×Int→Option (Int)) (N:Nat) (x:List UInt8):Option (Bool):=
 obind (loopN N (fun(v:Int×List UInt8×Int)=>cnd (decide (Int.toNat v.2.2<List.length v.2.1)) (cnd (decide ((0:Int)≤(↑(Int.toNat v.2.2):
 Int))&&decide ((↑(Int.toNat v.2.2):Int)≤(↑(List.length x):Int))) (obind (w_bE (List.drop (Int.toNat (↑(Int.toNat v.2.2):Int))
 (List.take (List.length x) x),(↑(Prod.fst (Utf8.decode { data:={ toList:=v.2.1 } } (Int.toNat v.2.2))):Int))) fun b=>cnd (decide (b <
 (33:Int))) (some (Sum.inr (Sum.inr false))) (cnd (decide ((127:Int)≤b)) (cnd (decide (b≤(159:Int))) (some (Sum.inr (Sum.inr false))) (some
 (Sum.inl (wr .i64 (v.1+(1:Int)),v.2.1,(↑(Int.toNat v.2.2+Prod.snd (Utf8.decode { data:={ toList:=v.2.1 } } (Int.toNat v.2.2))):Int)))))
 (some (Sum.inl (wr .i64 (v.1+(1:Int)),v.2.1,(↑(Int.toNat v.2.2+Prod.snd (Utf8.decode { data:={ toList:=v.2.1 } } (Int.toNat v.2.2))):
 Int)))))) none) (some (Sum.inr (Sum.inl v.1)))) ((0:Int),x,(↑(0:Nat):Int))) fun(b:Int⊕Bool)=>selim (fun(b:Int)=>cnd (decide ((1:Int)
 ≤ b)) (some (decide (b≤(8:Int)))) (some false)) (fun(c:Bool)=>some c) b
theorem q_bP:∀w_bE N x,u_bP.F L0 P0 (orcOf [u_bE.con w_bE]) N x=V_bP w_bE N x:=by intros;kernel_rfl
def W_bP (N:Nat):=V_bP (W_bE N) N
theorem con_bP_ok (N:Nat):(u_bP.con (W_bP N)).ok P0:=Uf.ok mixed (q_bP (W_bE N) N) ⟨con_bE_ok N,trivial⟩ Tryz.func26 (by kernel_rfl) fun x y=>by kernel_rfl
def as_f:List AS:=[.val (.list (.int .i64))]
def bs_f:List BS:=[]
def pout_f:Pat:=⟨[(2,.acc 700005)],[(700005,.nrow 3 (.int .i64) false true)]⟩
def G_f  (N:Nat):OrcT:=orcOf []
def F_f  (N:Nat) (x:List Int):Option (List Int):=
  (evT (G_f  N) L0 P0 []
    [] N 400 (bodyOf Tryz.f108) ⟨8,slots 0 [.nl ⟨(.int .i64),x⟩],tabU (lbOf as_f bs_f x) [],[]⟩).elim (kRet 8 pout_f (kpL []) (lbOf as_f bs_f x))
def out_f (y:List Int):V×List OK×List OK:=(.acc 2000000 0,[],[.nrow 3 false true ⟨(.int .i64),y⟩])
def V_f  (N:Nat) (x:List Int):Option (List Int):=
 cnd (decide (List.length x*(8:Nat)≤(140737488355328:Nat))) (some x) none
theorem FV_f_eq  (N:Nat) (x:List Int):F_f  N x=V_f  N x:=by kernel_rfl
def W_f (N:Nat) (x:List Int):Option (List Int):=V_f  N x
theorem F_f_eq (N:Nat) (x:List Int):F_f  N x=W_f N x:=(FV_f_eq  N x).trans (by kernel_rfl)
def conw_f (w:List Int→Option (List Int)):Con:=⟨108,as_f,bs_f,List Int,w,out_f⟩
def con_f (N:Nat):Con:=conw_f (W_f N)
theorem R_f_eq (x:List Int) (y:List Int):retOf2 P0 Tryz.f108 (kpL []) (lbOf as_f bs_f x) (patS ⟨8,[],[],[]⟩ pout_f y)=some (out_f y):=by kernel_rfl
def FA_slices_Clone_int:Option (List Int):=(evT (G_f 1) L0 P0 [] [] 1 400 (bodyOf Tryz.f108) ⟨8,slots 0 [.snil],tabU [] [],[]⟩).elim (kRet 8 pout_f (kpL []) [])
theorem FA_slices_Clone_int_eq:FA_slices_Clone_int=some []:=by kernel_rfl
theorem WN_slices_Clone_int (N:Nat) (r:List Int) (h:W_f N []=some r):r=[]:=by
  have e:W_f N []=some []:=by kernel_rfl
  rw[e] at h;injection h with h;exact h.symm
theorem con_f_ok (N:Nat):Con.ok P0 (con_f N):=⟨⟨Tryz.f108,Tryz.func108,by kernel_rfl,by kernel_rfl⟩,fun(x:List Int) (r:List Int) (hr:W_f N x=some r)=>
  clone_split (e:=(.int .i64)) (ty:=3) (l:=x) (r:=r)
    (spec2_evT (Γ:=G_f 1) (Λ:=L0) (lb:=[]) (pout:=pout_f) (kp:=kpL []) mixed (orcOf_ok [] (by simp)) Tryz.func108 (c:=bodyOf Tryz.f108) (by kernel_rfl) (by kernel_rfl) (of_decide_eq_true (by kernel_rfl)) FA_slices_Clone_int_eq (R_f_eq x []))
    (spec2_evT (Γ:=G_f N) (Λ:=L0) (lb:=[]) (pout:=pout_f) (kp:=kpL []) mixed (orcOf_ok [] (by simp)) Tryz.func108 (c:=bodyOf Tryz.f108) (by kernel_rfl) (by kernel_rfl) (of_decide_eq_true (by kernel_rfl)) ((F_f_eq N x).trans hr) (R_f_eq x r))
    (fun h=>by subst h;exact WN_slices_Clone_int N r hr)⟩
def as_e:List AS:=[.val (.list T3_)]
def bs_e:List BS:=[]
def pout_e:Pat:=⟨[(2,.acc 700005)],[(700005,.nrow 53 T3_ false true)]⟩
def G_e  (N:Nat):OrcT:=orcOf []
def F_e  (N:Nat) (x:List (Int×Int×Int)):Option (List (Int×Int×Int)):=
  (evT (G_e  N) L0 P0 []
    [] N 400 (bodyOf Tryz.f109) ⟨8,slots 0 [.nl ⟨T3_,x⟩],tabU (lbOf as_e bs_e x) [],[]⟩).elim (kRet 8 pout_e (kpL []) (lbOf as_e bs_e x))
def out_e (y:List (Int×Int×Int)):V×List OK×List OK:=(.acc 2000000 0,[],[.nrow 53 false true ⟨T3_,y⟩])
def V_e  (N:Nat) (x:List (Int×Int×Int)):Option (List (Int×Int×Int)):=
 cnd (decide (List.length x*(24:Nat)≤(140737488355328:Nat))) (some x) none
theorem FV_e_eq  (N:Nat) (x:List (Int×Int×Int)):F_e  N x=V_e  N x:=by kernel_rfl
def W_e (N:Nat) (x:List (Int×Int×Int)):Option (List (Int×Int×Int)):=V_e  N x
theorem F_e_eq (N:Nat) (x:List (Int×Int×Int)):F_e  N x=W_e N x:=(FV_e_eq  N x).trans (by kernel_rfl)
def conw_e (w:List (Int×Int×Int)→Option (List (Int×Int×Int))):Con:=⟨109,as_e,bs_e,List (Int×Int×Int),w,out_e⟩
def con_e (N:Nat):Con:=conw_e (W_e N)
theorem R_e_eq (x:List (Int×Int×Int)) (y:List (Int×Int×Int)):retOf2 P0 Tryz.f109 (kpL []) (lbOf as_e bs_e x) (patS ⟨8,[],[],[]⟩ pout_e y)=some (out_e y):=by kernel_rfl
def FA_slices_Clone_api_Kid:Option (List (Int×Int×Int)):=(evT (G_e 1) L0 P0 [] [] 1 400 (bodyOf Tryz.f109) ⟨8,slots 0 [.snil],tabU [] [],[]⟩).elim (kRet 8 pout_e (kpL []) [])
theorem FA_slices_Clone_api_Kid_eq:FA_slices_Clone_api_Kid=some []:=by kernel_rfl
theorem WN_slices_Clone_api_Kid (N:Nat) (r:List (Int×Int×Int)) (h:W_e N []=some r):r=[]:=by
  have e:W_e N []=some []:=by kernel_rfl
  rw[e] at h;injection h with h;exact h.symm
theorem con_e_ok (N:Nat):Con.ok P0 (con_e N):=⟨⟨Tryz.f109,Tryz.func109,by kernel_rfl,by kernel_rfl⟩,fun(x:List (Int×Int×Int)) (r:List (Int×Int×Int)) (hr:W_e N x=some r)=>
  clone_split (e:=T3_) (ty:=53) (l:=x) (r:=r)
    (spec2_evT (Γ:=G_e 1) (Λ:=L0) (lb:=[]) (pout:=pout_e) (kp:=kpL []) mixed (orcOf_ok [] (by simp)) Tryz.func109 (c:=bodyOf Tryz.f109) (by kernel_rfl) (by kernel_rfl) (of_decide_eq_true (by kernel_rfl)) FA_slices_Clone_api_Kid_eq (R_e_eq x []))
    (spec2_evT (Γ:=G_e N) (Λ:=L0) (lb:=[]) (pout:=pout_e) (kp:=kpL []) mixed (orcOf_ok [] (by simp)) Tryz.func109 (c:=bodyOf Tryz.f109) (by kernel_rfl) (by kernel_rfl) (of_decide_eq_true (by kernel_rfl)) ((F_e_eq N x).trans hr) (R_e_eq x r))
    (fun h=>by subst h;exact WN_slices_Clone_api_Kid N r hr)⟩
def u_v:Uf:=⟨53,12,Tryz.f53,[.val (.agg T0_)],[],
⟨[(2,.ptr 600002 0)],[(600002,.box 31 (.val T0_))]⟩,[],
[],
[],fun y=>(valW (.agg T0_) y,[],[])⟩
def V_v (w_f:List Int→Option (List Int)) (w_e:List (Int×Int×Int)→Option (List (Int×Int×Int))) (N:Nat) (x:A1_):Option A1_:=
 obind (w_f x.2.2.2.2.2.2.1) fun b=>obind (w_e x.2.2.2.2.2.2.2.2.2.2.2.2) fun b_1=>some (x.1,x.2.1,x.2.2.1,
 x.2.2.2.1,x.2.2.2.2.1,x.2.2.2.2.2.1,b,x.2.2.2.2.2.2.2.1,x.2.2.2.2.2.2.2.2.1,x.2.2.2.2.2.2.2.2.2.1,x.2.2.2.2.2.2.2.2.2.2.1,
 x.2.2.2.2.2.2.2.2.2.2.2.1,b_1)
theorem q_v:∀w_f w_e N x,u_v.F L0 P0 (orcOf [conw_f w_f,conw_e w_e]) N x=V_v w_f w_e N x:=by intros;kernel_rfl
def W_v (N:Nat):=V_v (W_f N) (W_e N) N
theorem con_v_ok (N:Nat):(u_v.con (W_v N)).ok P0:=Uf.ok mixed (q_v (W_f N) (W_e N) N) ⟨con_f_ok N,con_e_ok N,trivial⟩ Tryz.func53 (by kernel_rfl) fun x y=>by kernel_rfl
def as_c:List AS:=[.val (.list T5_)]
def bs_c:List BS:=[]
def pout_c:Pat:=⟨[(2,.acc 700005)],[(700005,.nrow 69 T5_ false true)]⟩
def G_c  (N:Nat):OrcT:=orcOf []
def F_c  (N:Nat) (x:List (Int×List UInt8)):Option (List (Int×List UInt8)):=
  (evT (G_c  N) L0 P0 []
    [] N 400 (bodyOf Tryz.f110) ⟨8,slots 0 [.nl ⟨T5_,x⟩],tabU (lbOf as_c bs_c x) [],[]⟩).elim (kRet 8 pout_c (kpL []) (lbOf as_c bs_c x))
def out_c (y:List (Int×List UInt8)):V×List OK×List OK:=(.acc 2000000 0,[],[.nrow 69 false true ⟨T5_,y⟩])
def V_c  (N:Nat) (x:List (Int×List UInt8)):Option (List (Int×List UInt8)):=
 cnd (decide (List.length x*(24:Nat)≤(140737488355328:Nat))) (some x) none
theorem FV_c_eq  (N:Nat) (x:List (Int×List UInt8)):F_c  N x=V_c  N x:=by kernel_rfl
def W_c (N:Nat) (x:List (Int×List UInt8)):Option (List (Int×List UInt8)):=V_c  N x
theorem F_c_eq (N:Nat) (x:List (Int×List UInt8)):F_c  N x=W_c N x:=(FV_c_eq  N x).trans (by kernel_rfl)
def conw_c (w:List (Int×List UInt8)→Option (List (Int×List UInt8))):Con:=⟨110,as_c,bs_c,List (Int×List UInt8),w,out_c⟩
def con_c (N:Nat):Con:=conw_c (W_c N)
theorem R_c_eq (x:List (Int×List UInt8)) (y:List (Int×List UInt8)):retOf2 P0 Tryz.f110 (kpL []) (lbOf as_c bs_c x) (patS ⟨8,[],[],[]⟩ pout_c y)=some (out_c y):=by kernel_rfl
def FA_slices_Clone_api_Item:Option (List (Int×List UInt8)):=(evT (G_c 1) L0 P0 [] [] 1 400 (bodyOf Tryz.f110) ⟨8,slots 0 [.snil],tabU [] [],[]⟩).elim (kRet 8 pout_c (kpL []) [])
theorem FA_slices_Clone_api_Item_eq:FA_slices_Clone_api_Item=some []:=by kernel_rfl
theorem WN_slices_Clone_api_Item (N:Nat) (r:List (Int×List UInt8)) (h:W_c N []=some r):r=[]:=by
  have e:W_c N []=some []:=by kernel_rfl
  rw[e] at h;injection h with h;exact h.symm
theorem con_c_ok (N:Nat):Con.ok P0 (con_c N):=⟨⟨Tryz.f110,Tryz.func110,by kernel_rfl,by kernel_rfl⟩,fun(x:List (Int×List UInt8)) (r:List (Int×List UInt8)) (hr:W_c N x=some r)=>
  clone_split (e:=T5_) (ty:=69) (l:=x) (r:=r)
    (spec2_evT (Γ:=G_c 1) (Λ:=L0) (lb:=[]) (pout:=pout_c) (kp:=kpL []) mixed (orcOf_ok [] (by simp)) Tryz.func110 (c:=bodyOf Tryz.f110) (by kernel_rfl) (by kernel_rfl) (of_decide_eq_true (by kernel_rfl)) FA_slices_Clone_api_Item_eq (R_c_eq x []))
    (spec2_evT (Γ:=G_c N) (Λ:=L0) (lb:=[]) (pout:=pout_c) (kp:=kpL []) mixed (orcOf_ok [] (by simp)) Tryz.func110 (c:=bodyOf Tryz.f110) (by kernel_rfl) (by kernel_rfl) (of_decide_eq_true (by kernel_rfl)) ((F_c_eq N x).trans hr) (R_c_eq x r))
    (fun h=>by subst h;exact WN_slices_Clone_api_Item N r hr)⟩
def as_d:List AS:=[.val (.list T4_)]
def bs_d:List BS:=[]
def pout_d:Pat:=⟨[(2,.acc 700005)],[(700005,.nrow 55 T4_ false true)]⟩
def G_d  (N:Nat):OrcT:=orcOf []
def F_d  (N:Nat) (x:List A4_):Option (List A4_):=
  (evT (G_d  N) L0 P0 []
    [] N 400 (bodyOf Tryz.f111) ⟨8,slots 0 [.nl ⟨T4_,x⟩],tabU (lbOf as_d bs_d x) [],[]⟩).elim (kRet 8 pout_d (kpL []) (lbOf as_d bs_d x))
def out_d (y:List A4_):V×List OK×List OK:=(.acc 2000000 0,[],[.nrow 55 false true ⟨T4_,y⟩])
def V_d  (N:Nat) (x:List A4_):Option (List A4_):=
 cnd (decide (List.length x*(48:Nat)≤(140737488355328:Nat))) (some x) none
theorem FV_d_eq  (N:Nat) (x:List A4_):F_d  N x=V_d  N x:=by kernel_rfl
def W_d (N:Nat) (x:List A4_):Option (List A4_):=V_d  N x
theorem F_d_eq (N:Nat) (x:List A4_):F_d  N x=W_d N x:=(FV_d_eq  N x).trans (by kernel_rfl)
def conw_d (w:List A4_→Option (List A4_)):Con:=⟨111,as_d,bs_d,List A4_,w,out_d⟩
def con_d (N:Nat):Con:=conw_d (W_d N)
theorem R_d_eq (x:List A4_) (y:List A4_):retOf2 P0 Tryz.f111 (kpL []) (lbOf as_d bs_d x) (patS ⟨8,[],[],[]⟩ pout_d y)=some (out_d y):=by kernel_rfl
def FA_slices_Clone_api_Event:Option (List A4_):=(evT (G_d 1) L0 P0 [] [] 1 400 (bodyOf Tryz.f111) ⟨8,slots 0 [.snil],tabU [] [],[]⟩).elim (kRet 8 pout_d (kpL []) [])
theorem FA_slices_Clone_api_Event_eq:FA_slices_Clone_api_Event=some []:=by kernel_rfl
theorem WN_slices_Clone_api_Event (N:Nat) (r:List A4_) (h:W_d N []=some r):r=[]:=by
  have e:W_d N []=some []:=by kernel_rfl
  rw[e] at h;injection h with h;exact h.symm
theorem con_d_ok (N:Nat):Con.ok P0 (con_d N):=⟨⟨Tryz.f111,Tryz.func111,by kernel_rfl,by kernel_rfl⟩,fun(x:List A4_) (r:List A4_) (hr:W_d N x=some r)=>
  clone_split (e:=T4_) (ty:=55) (l:=x) (r:=r)
    (spec2_evT (Γ:=G_d 1) (Λ:=L0) (lb:=[]) (pout:=pout_d) (kp:=kpL []) mixed (orcOf_ok [] (by simp)) Tryz.func111 (c:=bodyOf Tryz.f111) (by kernel_rfl) (by kernel_rfl) (of_decide_eq_true (by kernel_rfl)) FA_slices_Clone_api_Event_eq (R_d_eq x []))
    (spec2_evT (Γ:=G_d N) (Λ:=L0) (lb:=[]) (pout:=pout_d) (kp:=kpL []) mixed (orcOf_ok [] (by simp)) Tryz.func111 (c:=bodyOf Tryz.f111) (by kernel_rfl) (by kernel_rfl) (of_decide_eq_true (by kernel_rfl)) ((F_d_eq N x).trans hr) (R_d_eq x r))
    (fun h=>by subst h;exact WN_slices_Clone_api_Event N r hr)⟩
def u_a:Uf:=⟨54,16,Tryz.f54,[.val (.agg T1_)],[],
⟨[(2,.ptr 600002 0)],[(600002,.box 37 (.val T1_))]⟩,[],
[],
[],fun y=>(valW (.agg T1_) y,[],[])⟩
def V_a (w_c:List (Int×List UInt8)→Option (List (Int×List UInt8))) (w_d:List A4_→Option (List A4_)) (N:Nat) (x:A0_):Option A0_:=
 obind (w_c x.2.2.1) fun b=>obind (w_c x.2.2.2.1) fun b_1=>obind (w_d x.2.2.2.2.1) fun b_2=>some (x.1,x.2.1,b,b_1,b_2,x.2.2.2.2.2)
theorem q_a:∀w_c w_d N x,u_a.F L0 P0 (orcOf [conw_c w_c,conw_d w_d]) N x=V_a w_c w_d N x:=by intros;kernel_rfl
def W_a (N:Nat):=V_a (W_c N) (W_d N) N
theorem con_a_ok (N:Nat):(u_a.con (W_a N)).ok P0:=Uf.ok mixed (q_a (W_c N) (W_d N) N) ⟨con_c_ok N,con_d_ok N,trivial⟩ Tryz.func54 (by kernel_rfl) fun x y=>by kernel_rfl
def u_i:Uf:=⟨27,12,Tryz.f27,[.val (.agg T2_)],[],
⟨[(2,.ptr 600002 0)],[(600002,.box 39 (.val T2_))]⟩,[],
[],
[],fun y=>(valW (.agg T2_) y,[],[])⟩
def V_i (w_v:A1_→Option A1_) (w_a:A0_→Option A0_) (N:Nat) (x:A3_):Option A3_:=
 obind (w_v x.2.2.2.1) fun b=>obind (w_a x.2.2.2.2.1) fun b_1=>some (x.1,x.2.1,x.2.2.1,b,b_1,x.2.2.2.2.2)
theorem q_i:∀w_v w_a N x,u_i.F L0 P0 (orcOf [u_v.con w_v,u_a.con w_a]) N x=V_i w_v w_a N x:=by intros;kernel_rfl
def W_i (N:Nat):=V_i (W_v N) (W_a N) N
theorem con_i_ok (N:Nat):(u_i.con (W_i N)).ok P0:=Uf.ok mixed (q_i (W_v N) (W_a N) N) ⟨con_v_ok N,con_a_ok N,trivial⟩ Tryz.func27 (by kernel_rfl) fun x y=>by kernel_rfl
def u_b6:Uf:=⟨28,22,Tryz.f28,[.val (.int .i64),.val (.int .i64),.val (.int .i64),.val (.int .i64)],[],
⟨[(8,.ptr 600008 0)],[(600008,.box 31 (.val T0_))]⟩,[],
[],
[],fun y=>(valW (.agg T0_) y,[],[])⟩
def V_b6 (N:Nat) (x:Int×Int×Int×Int):Option A1_:=
 cnd (decide (x.1=(1:Int))) (some (x.1,x.2.1,x.2.2.1,(0:Int),(0:Int),x.2.2.2,[(1:Int)],(0:Int),x.2.2.1,(0:Int),(0:Int),(0:Int),[])) (some (x.1,x.2.1,x.2.2.1,(0:Int),(0:Int),x.2.2.2,[],(0:Int),(0:Int),(0:Int),(0:Int),(0:Int),[]))
theorem q_b6:∀N x,u_b6.F L0 P0 (orcOf []) N x=V_b6 N x:=by intros;kernel_rfl
def W_b6 (N:Nat):=V_b6 N
theorem con_b6_ok (N:Nat):(u_b6.con (W_b6 N)).ok P0:=Uf.ok mixed (q_b6 N) trivial Tryz.func28 (by kernel_rfl) fun x y=>by kernel_rfl
def u_bu:Uf:=⟨12,43,Tryz.f12,[.val (.agg T2_),.val (.int .i64),.val .str,.val (.int .i64)],[],
⟨[(8,.ptr 600008 0),(9,.val .bool)],[(600008,.box 39 (.val T2_))]⟩,[],
[],
[(1000001,.reg [(7,[],⟨[(4,.ptr 600004 0),(8,.ptr 600008 0),(17,.val .bool)],[(600004,.box 39 (.val T2_)),(600008,.box 39 (.val T2_))]⟩),(4,[],⟨[(4,.ptr 600004 0),(8,.ptr 600008 0),(21,.val .bool)],[(600004,.box 39 (.val T2_)),(600008,.box 39 (.val T2_))]⟩),(4,[],⟨[(4,.ptr 600004 0),(8,.ptr 600008 0),(25,.val .bool)],[(600004,.box 39 (.val T2_)),(600008,.box 39 (.val T2_))]⟩)])],fun y=>(.tup [valW (.agg T2_) y.2,valW .bool y.1],[],[])⟩
def V_bu (w_bP:List UInt8→Option (Bool)) (w_i:A3_→Option A3_) (w_b6:Int×Int×Int×Int→Option A1_) (N:Nat) (x:A3_×Int×List UInt8×Int):Option (Bool×A3_):=
 obind (cnd x.1.1 (some (true,x.1,false,(0:Int),[],((0:Int),(0:Int),(0:Int),(0:Int),(0:Int),(0:Int),[],(0:Int),(0:Int),(0:Int),(0:Int),
 (0:Int),[]),((0:Int),(0:Int),[],[],[],(0:Int),(0:Int)),(0:Int))) (obind (w_bP x.2.2.1) fun b=>some (!b,x.1,false,(0:Int),[],
 ((0:Int),(0:Int),(0:Int),(0:Int),(0:Int),(0:Int),[],(0:Int),(0:Int),(0:Int),(0:Int),(0:Int),[]),((0:Int),(0:Int),[],[],[],(0:Int),
 (0:Int)),(0:Int)))) fun(b:Bool×A3_×A3_)=>obind (cnd b.1 (some (true,
 b.2)) (some (decide (x.2.1<(1:Int)),b.2))) fun(b:Bool×A3_×A3_)=>obind (cnd
 b.1 (some (true,b.2)) (some (decide ((8:Int)<x.2.1),b.2))) fun(b:Bool×A3_×A3_)=>cnd b.1 (obind (w_i b.2.1) fun b=>some (false,b)) (cnd (decide ((1073741824:Int)≤b.2.1.2.1)) (obind (w_i b.2.1) fun
 b=>some (false,b)) (obind (w_b6 (x.2.1,wr .i64 (b.2.1.2.1+(1:Int)),(0:Int),x.2.2.2)) fun b_1=>some (true,true,wr .i64 (b.2.1.2.1
 + (1:Int)),x.2.2.1,b_1,((0:Int),(0:Int),[],[],[],(0:Int),(0:Int)),(0:Int))))
theorem q_bu:∀w_bP w_i w_b6 N x,u_bu.F L0 P0 (orcOf [u_bP.con w_bP,u_i.con w_i,u_b6.con w_b6]) N x=V_bu w_bP w_i w_b6 N x:=by intros;kernel_rfl
def W_bu (N:Nat):=V_bu (W_bP N) (W_i N) (W_b6 N) N
theorem con_bu_ok (N:Nat):(u_bu.con (W_bu N)).ok P0:=Uf.ok mixed (q_bu (W_bP N) (W_i N) (W_b6 N) N) ⟨con_bP_ok N,con_i_ok N,con_b6_ok N,trivial⟩ Tryz.func12 (by kernel_rfl) fun x y=>by kernel_rfl
def u_k:Uf:=⟨104,12,Tryz.f104,[.val (.agg T1_)],[],
⟨[(2,.val (.alt 158 (.agg (.int .i64)) (.alt1 209 (.agg .unit))))],[]⟩,[],
[],
[],fun y=>(valW (.alt 158 (.agg (.int .i64)) (.alt1 209 (.agg .unit))) y,[],[])⟩
def V_k (N:Nat) (x:A0_):Option (Int⊕Unit):=
 cnd (decide (x.1<(1:Int))) (some (Sum.inr ())) (some (Sum.inl x.1))
theorem q_k:∀N x,u_k.F L0 P0 (orcOf []) N x=V_k N x:=by intros;kernel_rfl
def W_k (N:Nat):=V_k N
theorem con_k_ok (N:Nat):(u_k.con (W_k N)).ok P0:=Uf.ok mixed (q_k N) trivial Tryz.func104 (by kernel_rfl) fun x y=>by kernel_rfl
def u_aj:Uf:=⟨105,15,Tryz.f105,[.val (.list T4_),.val (.int .i64),.val .str],[],
⟨[(6,.val (.list T4_))],[]⟩,[],
[],
[],fun y=>(valW (.list T4_) y,[],[])⟩
def V_aj (w_d:List A4_→Option (List A4_)) (N:Nat) (x:List A4_×Int×List UInt8):Option (List A4_):=
 obind (w_d x.1) fun b=>cnd (decide ((List.length b+List.length [((1:Int),x.2.1,x.2.1,x.2.2,(0:Int))])*(48:Nat)≤(140737488355328:Nat))) (some (b++[((1:Int),x.2.1,x.2.1,x.2.2,(0:Int))])) none
theorem q_aj:∀w_d N x,u_aj.F L0 P0 (orcOf [conw_d w_d]) N x=V_aj w_d N x:=by intros;kernel_rfl
def W_aj (N:Nat):=V_aj (W_d N) N
theorem con_aj_ok (N:Nat):(u_aj.con (W_aj N)).ok P0:=Uf.ok mixed (q_aj (W_d N) N) ⟨con_d_ok N,trivial⟩ Tryz.func105 (by kernel_rfl) fun x y=>by kernel_rfl
def as_az:List AS:=[.acc 0,.val (.int .i64),.val (.int .i64)]
def bs_az:List BS:=[.nrow 69 T5_ true]
def out_az (y:List (Int×List UInt8)):V×List OK×List OK:=(.acc 2000000 0,[.dead],[.nrow 69 false true ⟨T5_,y⟩])
def W_az (N:Nat) (x:Int×Int×List (Int×List UInt8)):Option (List (Int×List UInt8)):=
  cnd (decide ((0:Int)≤x.1)&&decide (x.1<((↑(List.length x.2.2):Int):Int))&&decide (x.2.1=x.1+(1:Int))&&decide (List.length x.2.2 ≤
    (140737488355328:Nat))&&decide ((2:Nat)≤List.length x.2.2)) (some (List.take (Int.toNat x.1) x.2.2++List.drop (Int.toNat x.1+(1:Nat))
    x.2.2)) none
def conw_az (w:Int×Int×List (Int×List UInt8)→Option (List (Int×List UInt8))):Con:=⟨155,as_az,bs_az,List (Int×List UInt8),w,out_az⟩
def con_az (N:Nat):Con:=conw_az (W_az N)
theorem con_az_ok (N:Nat):Con.ok P0 (con_az N):=⟨⟨Tryz.f155,Tryz.func155,by kernel_rfl,by kernel_rfl⟩,fun(x:Int×Int×List (Int×List UInt8)) (r:List (Int×List UInt8)) (hr:W_az N x=some r)=>by
  obtain⟨i,j,l⟩:=x
  exact del_con2 (e:=T5_) (ty:=69) (nl:=true) (l:=l) (r:=r) (i:=i) (j:=j) delF155 rfl (by decide) hr⟩
def u_ak:Uf:=⟨106,34,Tryz.f106,[.val (.list T5_),.val T5_],[],
⟨[(4,.val (.list T5_))],[]⟩,[],
[],
[],fun y=>(valW (.list T5_) y,[],[])⟩
def V_ak (w_c:List (Int×List UInt8)→Option (List (Int×List UInt8))) (w_az:Int×Int×List (Int×List UInt8)→Option (List (Int×List UInt8))) (N:Nat) (x:List (Int×List UInt8)×Int×List UInt8):Option (List (Int×List UInt8)):=
 obind (w_c x.1) fun b=>cnd (decide ((0:Int)<(↑(List.length x.1):Int))) (cnd (decide ((0:Int)≤wr .i64 ((↑(List.length
 x.1):Int)-(1:Int)))&&decide (wr .i64 ((↑(List.length x.1):Int)-(1:Int))<(↑(List.length x.1):Int))) (cnd (decide (x.2.1≤Prod.fst
 (List.getD x.1 (Int.toNat (wr .i64 ((↑(List.length x.1):Int)-(1:Int)))) ((0:Int),[])))) (some b) (cnd (decide ((List.length b+List.length
 [x.2])*(24:Nat)≤(140737488355328:Nat))) (cnd (decide ((6:Int)<(↑(List.length (b++[x.2])):Int))) (obind (w_az
 ((0:Int),(1:Int),b++[x.2])) fun b=>some b) (some (b++[x.2]))) none)) none) (cnd (decide ((List.length b+List.length [x.2])*(24:Nat) ≤
 (140737488355328:Nat))) (cnd (decide ((6:Int)<(↑(List.length (b++[x.2])):Int))) (obind (w_az ((0:Int),(1:Int),b++
 [x.2])) fun b=>some b) (some (b++[x.2]))) none)
theorem q_ak:∀w_c w_az N x,u_ak.F L0 P0 (orcOf [conw_c w_c,conw_az w_az]) N x=V_ak w_c w_az N x:=by intros;kernel_rfl
def W_ak (N:Nat):=V_ak (W_c N) (W_az N) N
theorem con_ak_ok (N:Nat):(u_ak.con (W_ak N)).ok P0:=Uf.ok mixed (q_ak (W_c N) (W_az N) N) ⟨con_c_ok N,con_az_ok N,trivial⟩ Tryz.func106 (by kernel_rfl) fun x y=>by kernel_rfl
def u_bX:Uf:=⟨51,48,Tryz.f51,[.val (.agg T1_),.val .str],[],
⟨[(4,.ptr 600004 0),(5,.val .bool)],[(600004,.box 37 (.val T1_))]⟩,[],
[],
[(6,.cut [] [(.normal,⟨[(4,.ptr 600004 0),(6,.ptr 600006 0),(7,.val (.int .i64))],[(600004,.box 37 (.val T1_)),(600006,.box 37 (.val T1_))]⟩)])],fun y=>(.tup [valW (.agg T1_) y.2,valW .bool y.1],[],[])⟩
def V_bX (w_a:A0_→Option A0_) (w_k:A0_→Option (Int⊕Unit)) (w_aj:List A4_×Int×List UInt8→Option (List A4_)) (w_ak:List (Int×List UInt8)×Int×List UInt8→Option (List (Int×List UInt8))) (N:Nat) (x:A0_×List UInt8):Option (Bool×A0_):=
 obind (w_a x.1) fun b=>obind (obind (w_k x.1) fun b_1=>selim (fun(b_2:Int)=>some (b_2,((0:Int),(0:Int),[],[],[],
 (0:Int),(0:Int)),b)) (fun(c:PUnit)=>some ((1:Int),((0:Int),(0:Int),[],[],[],(0:Int),(0:Int)),b)) b_1) fun(b:Int×A0_×A0_)=>cnd (decide ((12:Int)<(↑(List.length x.2):Int))) (some
 (false,b.2.2)) (cnd (decide ((1000000:Int)<b.1)) (some (false,b.2.2)) (obind (w_aj (b.2.2.2.2.2.2.1,b.1,x.2)) fun b_1=>obind
 (w_ak (b.2.2.2.2.1,b.1,x.2)) fun b_2=>some (true,wr .i64 (b.1+(1:Int)),b.1,b_2,b.2.2.2.2.2.1,b_1,b.2.2.2.2.2.2.2)))
theorem q_bX:∀w_a w_k w_aj w_ak N x,u_bX.F L0 P0 (orcOf [u_a.con w_a,u_k.con w_k,u_aj.con w_aj,u_ak.con w_ak]) N x=V_bX w_a w_k w_aj w_ak N x:=by intros;kernel_rfl
def W_bX (N:Nat):=V_bX (W_a N) (W_k N) (W_aj N) (W_ak N) N
theorem con_bX_ok (N:Nat):(u_bX.con (W_bX N)).ok P0:=Uf.ok mixed (q_bX (W_a N) (W_k N) (W_aj N) (W_ak N) N) ⟨con_a_ok N,con_k_ok N,con_aj_ok N,con_ak_ok N,trivial⟩ Tryz.func51 (by kernel_rfl) fun x y=>by kernel_rfl
def u_bM:Uf:=⟨87,19,Tryz.f87,[.val (.agg T1_),.val (.agg T1_)],[],
⟨[(4,.val (.list T4_))],[]⟩,[],
[],
[],fun y=>(valW (.list T4_) y,[],[])⟩
def V_bM (w_d:List A4_→Option (List A4_)) (N:Nat) (x:A0_×A0_):Option (List A4_):=
 cnd (decide ((↑(List.length x.1.2.2.2.2.1):Int)≤(↑(List.length x.2.2.2.2.2.1):Int))) (some []) (cnd (decide ((0:Int)≤(↑(List.length
 x.2.2.2.2.2.1):Int))&&decide ((↑(List.length x.2.2.2.2.2.1):Int)≤(↑(List.length x.1.2.2.2.2.1):Int))) (obind (w_d
 (List.drop (Int.toNat (↑(List.length x.2.2.2.2.2.1):Int)) (List.take (List.length x.1.2.2.2.2.1) x.1.2.2.2.2.1))) fun b=>some b) none)
theorem q_bM:∀w_d N x,u_bM.F L0 P0 (orcOf [conw_d w_d]) N x=V_bM w_d N x:=by intros;kernel_rfl
def W_bM (N:Nat):=V_bM (W_d N) N
theorem con_bM_ok (N:Nat):(u_bM.con (W_bM N)).ok P0:=Uf.ok mixed (q_bM (W_d N) N) ⟨con_d_ok N,trivial⟩ Tryz.func87 (by kernel_rfl) fun x y=>by kernel_rfl
def u_z:Uf:=⟨50,16,Tryz.f50,[.val (.agg T2_),.val (.int .i64),.val (.int .i64)],[],
⟨[(6,.ptr 600006 0)],[(600006,.box 46 (.val T_))]⟩,[],
[],
[],fun y=>(valW (.agg T_) y,[],[])⟩
def V_z (N:Nat) (x:A3_×Int×Int):Option (M_):=
 some (x.2.1,x.1.2.2.2.1.1,x.2.2,x.1.2.2.2.1.2.1,(0:Int),(0:Int),[],(0:Int),(0:Int),[])
theorem q_z:∀N x,u_z.F L0 P0 (orcOf []) N x=V_z N x:=by intros;kernel_rfl
def W_z (N:Nat):=V_z N
theorem con_z_ok (N:Nat):(u_z.con (W_z N)).ok P0:=Uf.ok mixed (q_z N) trivial Tryz.func50 (by kernel_rfl) fun x y=>by kernel_rfl
def u_ac:Uf:=⟨81,18,Tryz.f81,[.val (.agg T2_),.val (.int .i64),.val (.int .i64),.val .str],[],
⟨[(8,.ptr 600008 0)],[(600008,.box 46 (.val T_))]⟩,[],
[],
[],fun y=>(valW (.agg T_) y,[],[])⟩
def V_ac (w_z:A3_×Int×Int→Option (M_)) (N:Nat) (x:A3_×Int×Int×List UInt8):Option (M_):=
 obind (w_z (x.1,(7:Int),x.2.1)) fun b=>some (b.1,b.2.1,b.2.2.1,b.2.2.2.1,b.2.2.2.2.1,b.2.2.2.2.2.1,b.2.2.2.2.2.2.1,x.2.2.1,b.2.2.2.2.2.2.2.2.1,x.2.2.2)
theorem q_ac:∀w_z N x,u_ac.F L0 P0 (orcOf [u_z.con w_z]) N x=V_ac w_z N x:=by intros;kernel_rfl
def W_ac (N:Nat):=V_ac (W_z N) N
theorem con_ac_ok (N:Nat):(u_ac.con (W_ac N)).ok P0:=Uf.ok mixed (q_ac (W_z N) N) ⟨con_z_ok N,trivial⟩ Tryz.func81 (by kernel_rfl) fun x y=>by kernel_rfl
def u_ad:Uf:=⟨82,18,Tryz.f82,[.val (.agg T2_),.val (.int .i64),.val (.int .i64),.val (.int .i64)],[],
⟨[(8,.ptr 600008 0)],[(600008,.box 46 (.val T_))]⟩,[],
[],
[],fun y=>(valW (.agg T_) y,[],[])⟩
def V_ad (w_z:A3_×Int×Int→Option (M_)) (N:Nat) (x:A3_×Int×Int×Int):Option (M_):=
 obind (w_z (x.1,(9:Int),x.2.1)) fun b=>some (b.1,b.2.1,b.2.2.1,b.2.2.2.1,b.2.2.2.2.1,b.2.2.2.2.2.1,b.2.2.2.2.2.2.1,x.2.2.1,x.2.2.2,b.2.2.2.2.2.2.2.2.2)
theorem q_ad:∀w_z N x,u_ad.F L0 P0 (orcOf [u_z.con w_z]) N x=V_ad w_z N x:=by intros;kernel_rfl
def W_ad (N:Nat):=V_ad (W_z N) N
theorem con_ad_ok (N:Nat):(u_ad.con (W_ad N)).ok P0:=Uf.ok mixed (q_ad (W_z N) N) ⟨con_z_ok N,trivial⟩ Tryz.func82 (by kernel_rfl) fun x y=>by kernel_rfl
def u_x:Uf:=⟨41,55,Tryz.f41,[.val (.agg T2_),.val (.agg T1_)],[],
⟨[(4,.val (.list (.agg T_)))],[]⟩,[],
[(6,.loop [13,21] ⟨[(2,.ptr 600002 0),(5,.acc 700005),(7,.ptr 600007 0),(23,.val (.int .i64))],[(600002,.box 39 (.val T2_)),(700005,.nrow 46 (.agg T_) true true),(600007,.box 55 (.val (.pair (.int .i64) (.pair (.int .i64) (.pair (.int .i64) (.pair .str (.int .i64)))))))]⟩ [(.exit 2,⟨[(2,.ptr 600002 0),(5,.acc 700005)],[(600002,.box 39 (.val T2_)),(700005,.nrow 46 (.agg T_) true true)]⟩)]),
(3,.loop [13] ⟨[(2,.ptr 600002 0),(5,.acc 700005),(15,.val (.int .i64))],[(600002,.box 39 (.val T2_)),(700005,.nrow 46 (.agg T_) true true)]⟩ [(.exit 0,⟨[(5,.val (.list (.agg T_)))],[]⟩)])],
[],fun y=>(valW (.list (.agg T_)) y,[],[])⟩
def V_x (w_bM:A0_×A0_→Option (List A4_)) (w_ac:A3_×Int×Int×List UInt8→Option (M_)) (w_ad:A3_×Int×Int×Int→Option (M_)) (N:Nat) (x:A3_×A0_):Option (List (M_)):=
 obind (w_bM (x.1.2.2.2.2.1,x.2)) fun b=>obind (loopN N (fun(v:Int×A3_×List A2_)=>cnd (decide (v.1 <
 (↑(List.length b):Int))) (cnd (decide ((0:Int)≤v.1)&&decide (v.1<(↑(List.length b):Int))) (obind (loopN N (fun(v_1:Int×A3_×List A2_×A4_)=>cnd (decide (v_1.1<(↑(List.length v.2.1.2.2.2.1.2.2.2.2.2.2.2.2.2.2.2.2):
 Int))) (cnd (decide ((0:Int)≤v_1.1)&&decide (v_1.1<(↑(List.length v.2.1.2.2.2.1.2.2.2.2.2.2.2.2.2.2.2.2):Int))) (cnd (decide (v_1.2.2.2.1=
 (1:Int))) (obind (w_ac (v_1.2.1,Prod.fst (List.getD v.2.1.2.2.2.1.2.2.2.2.2.2.2.2.2.2.2.2 (Int.toNat v_1.1) ((0:Int),(0:Int),
 (0:Int))),v_1.2.2.2.2.1,v_1.2.2.2.2.2.2.1)) fun b=>cnd (decide ((List.length v_1.2.2.1+List.length [b])*(104:Nat)≤(140737488355328:Nat)))
 (some (Sum.inl (wr .i64 (v_1.1+(1:Int)),v_1.2.1,v_1.2.2.1++[b],v_1.2.2.2))) none) (obind (w_ad (v_1.2.1,Prod.fst (List.getD
 v.2.1.2.2.2.1.2.2.2.2.2.2.2.2.2.2.2.2 (Int.toNat v_1.1) ((0:Int),(0:Int),(0:Int))),v_1.2.2.2.2.1,v_1.2.2.2.2.2.1)) fun b=>cnd (decide
 ((List.length v_1.2.2.1+List.length [b])*(104:Nat)≤(140737488355328:Nat))) (some (Sum.inl (wr .i64 (v_1.1+(1:Int)),v_1.2.1,v_1.2.2.1++
 [b],v_1.2.2.2))) none)) none) (some (Sum.inr (v_1.2.1,v_1.2.2.1)))) ((0:Int),v.2.1,v.2.2,Prod.fst (List.getD b (Int.toNat v.1) ((0:Int),
 (0:Int),(0:Int),[],(0:Int))),Prod.fst (Prod.snd (List.getD b (Int.toNat v.1) ((0:Int),(0:Int),(0:Int),[],(0:Int)))),Prod.fst (Prod.snd
 (Prod.snd (List.getD b (Int.toNat v.1) ((0:Int),(0:Int),(0:Int),[],(0:Int))))),Prod.fst (Prod.snd (Prod.snd (Prod.snd (List.getD b (Int.toNat
 v.1) ((0:Int),(0:Int),(0:Int),[],(0:Int)))))),Prod.snd (Prod.snd (Prod.snd (Prod.snd (List.getD b (Int.toNat v.1) ((0:Int),(0:Int),(0:Int),
 [],(0:Int)))))))) fun(b:A3_×List A2_)=>some (Sum.inl (wr .i64 (v.1+(1:Int)),b))) none) (some (Sum.inr v.2.2)))
 ((0:Int),x.1,[])) fun(b:List A2_)=>some b
theorem q_x:∀w_bM w_ac w_ad N x,u_x.F L0 P0 (orcOf [u_bM.con w_bM,u_ac.con w_ac,u_ad.con w_ad]) N x=V_x w_bM w_ac w_ad N x:=by intros;kernel_rfl
def W_x (N:Nat):=V_x (W_bM N) (W_ac N) (W_ad N) N
theorem con_x_ok (N:Nat):(u_x.con (W_x N)).ok P0:=Uf.ok mixed (q_x (W_bM N) (W_ac N) (W_ad N) N) ⟨con_bM_ok N,con_ac_ok N,con_ad_ok N,trivial⟩ Tryz.func41 (by kernel_rfl) fun x y=>by kernel_rfl
def u_b2:Uf:=⟨22,39,Tryz.f22,[.val (.agg T2_),.val .str],[],
⟨[(4,.ptr 600004 0),(5,.val (.list (.agg T_))),(6,.val .bool)],[(600004,.box 39 (.val T2_))]⟩,[],
[],
[],fun y=>(.tup [valW (.agg T2_) y.2.2,valW (.list (.agg T_)) y.1,valW .bool y.2.1],[],[])⟩
def V_b2 (w_i:A3_→Option A3_) (w_bX:A0_×List UInt8→Option (Bool×A0_)) (w_x:A3_×A0_→Option (List (M_))) (N:Nat) (x:A3_×List UInt8):Option (List (M_)×Bool×A3_):=
 obind (w_i x.1) fun b=>cnd (!x.1.1) (some ([],false,b)) (cnd (decide (x.1.2.2.2.1.1≠(1:Int))) (some ([],false,b)) (obind (w_bX (x.1.2.2.2.2.1,x.2)) fun b_1=>cnd (!b_1.1) (some ([],false,b)) (obind (w_x ((b.1,b.2.1,b.2.2.1,b.2.2.2.1,b_1.2,
 b.2.2.2.2.2),x.1.2.2.2.2.1)) fun b_2=>some (b_2,true,b.1,b.2.1,b.2.2.1,b.2.2.2.1,b_1.2,b.2.2.2.2.2))))
theorem q_b2:∀w_i w_bX w_x N x,u_b2.F L0 P0 (orcOf [u_i.con w_i,u_bX.con w_bX,u_x.con w_x]) N x=V_b2 w_i w_bX w_x N x:=by intros;kernel_rfl
def W_b2 (N:Nat):=V_b2 (W_i N) (W_bX N) (W_x N) N
theorem con_b2_ok (N:Nat):(u_b2.con (W_b2 N)).ok P0:=Uf.ok mixed (q_b2 (W_i N) (W_bX N) (W_x N) N) ⟨con_i_ok N,con_bX_ok N,con_x_ok N,trivial⟩ Tryz.func22 (by kernel_rfl) fun x y=>by kernel_rfl
def u_Z:Uf:=⟨193,47,Tryz.f193,[.val (.list (.int .u8))],[],
⟨[(2,.val (.alt 243 (.agg T6_) (.alt1 247 (.agg .unit))))],[]⟩,[],
[(3,.loop [7] ⟨[(3,.val (.int .i64)),(4,.val (.int .i64)),(9,.val (.int .i64))],[]⟩ [(.exit 0,⟨[],[]⟩),(.ret,⟨[(2,.val (.alt 243 (.agg T6_) (.alt1 247 (.agg .unit))))],[]⟩)])],
[(1000007,.reg [(6,[7],⟨[(28,.val .bool)],[]⟩)])],fun y=>(valW (.alt 243 (.agg T6_) (.alt1 247 (.agg .unit))) y,[],[])⟩
def V_Z (N:Nat) (x:List Int):Option ((Int×Int)⊕Unit):=
 obind (loopN N (fun(v:Int×Int×Int)=>cnd (decide (v.2.2<(↑(List.length x):Int))) (cnd (decide ((0:Int)≤v.2.2)&&decide (v.2.2 <
 (↑(List.length x):Int))) (obind (cnd (decide (v.2.2=(5:Int))) (some true) (some (decide ((1073741824:Int)<wr .i64 (v.1+wr .i64 (wr .i64
 (Int.tmod (List.getD x (Int.toNat v.2.2) (0:Int)) (128:Int))*v.2.1)))))) fun(b:Bool)=>cnd b (some (Sum.inr (Sum.inl ()))) (cnd (decide
 (List.getD x (Int.toNat v.2.2) (0:Int)=(0:Int))) (cnd (decide ((0:Int)<v.2.2)) (some (Sum.inr (Sum.inl ()))) (cnd (decide (List.getD x
 (Int.toNat v.2.2) (0:Int)<(128:Int))) (some (Sum.inr (Sum.inr (Sum.inl (wr .i64 (v.1+wr .i64 (wr .i64 (Int.tmod (List.getD x (Int.toNat v.2.2)
 (0:Int)) (128:Int))*v.2.1)),wr .i64 (v.2.2+(1:Int))))))) (some (Sum.inl (wr .i64 (v.1+wr .i64 (wr .i64 (Int.tmod (List.getD x (Int.toNat
 v.2.2) (0:Int)) (128:Int))*v.2.1)),wr .i64 (v.2.1*(128:Int)),wr .i64 (v.2.2+(1:Int))))))) (cnd (decide (List.getD x (Int.toNat v.2.2)
 (0:Int)<(128:Int))) (some (Sum.inr (Sum.inr (Sum.inl (wr .i64 (v.1+wr .i64 (wr .i64 (Int.tmod (List.getD x (Int.toNat v.2.2) (0:Int)) (128:Int))
 * v.2.1)),wr .i64 (v.2.2+(1:Int))))))) (some (Sum.inl (wr .i64 (v.1+wr .i64 (wr .i64 (Int.tmod (List.getD x (Int.toNat v.2.2) (0:Int))
 (128:Int))*v.2.1)),wr .i64 (v.2.1*(128:Int)),wr .i64 (v.2.2+(1:Int)))))))) none) (some (Sum.inr (Sum.inl ())))) ((0:Int),(1:Int),(0:Int)))
 fun(b:PUnit⊕Int×Int⊕PUnit)=>selim (fun(b:PUnit)=>some (Sum.inr ())) (fun(c:Int×Int⊕PUnit)=>some c) b
theorem q_Z:∀N x,u_Z.F L0 P0 (orcOf []) N x=V_Z N x:=by intros;kernel_rfl
def W_Z (N:Nat):=V_Z N
theorem con_Z_ok (N:Nat):(u_Z.con (W_Z N)).ok P0:=Uf.ok mixed (q_Z N) trivial Tryz.func193 (by kernel_rfl) fun x y=>by kernel_rfl
def u_a7:Uf:=⟨179,17,Tryz.f179,[.val (.list (.int .u8))],[],
⟨[(2,.val (.int .i64)),(3,.val (.int .i64)),(4,.val .bool)],[]⟩,[],
[],
[],fun y=>(.tup [valW (.int .i64) y.1,valW (.int .i64) y.2.1,valW .bool y.2.2],[],[])⟩
def V_a7 (w_Z:List Int→Option ((Int×Int)⊕Unit)) (N:Nat) (x:List Int):Option (Int×Int×Bool):=
 obind (w_Z x) fun b=>selim (fun(b:Int×Int)=>some (b.1,b.2,true)) (fun(c:PUnit)=>some ((0:Int),(0:Int),false)) b
theorem q_a7:∀w_Z N x,u_a7.F L0 P0 (orcOf [u_Z.con w_Z]) N x=V_a7 w_Z N x:=by intros;kernel_rfl
def W_a7 (N:Nat):=V_a7 (W_Z N) N
theorem con_a7_ok (N:Nat):(u_a7.con (W_a7 N)).ok P0:=Uf.ok mixed (q_a7 (W_Z N) N) ⟨con_Z_ok N,trivial⟩ Tryz.func179 (by kernel_rfl) fun x y=>by kernel_rfl
def u_B:Uf:=⟨164,45,Tryz.f164,[.ptr 0 0],[.box 213 (.pair (.list (.int .u8)) (.pair (.int .i64) (.alt 182 (.agg (.int .i64)) .inil)))],
⟨[(0,.ptr 1000000 0),(2,.val (.int .i64))],[(1000000,.box 213 (.val (.pair (.list (.int .u8)) (.pair (.int .i64) (.alt 182 (.agg (.int .i64)) .inil)))))]⟩,[true],
[],
[(6,.cut [] [(.normal,⟨[(0,.ptr 1000000 0)],[(1000000,.box 213 (.val (.pair (.list (.int .u8)) (.pair (.int .i64) (.alt 182 (.agg (.int .i64)) .inil)))))]⟩)])],fun y=>(valW (.int .i64) y.1,[.box 213 (cellsW (.pair (.list (.int .u8)) (.pair (.int .i64) (.alt 182 (.agg (.int .i64)) .inil))) y.2)],[])⟩
def V_B (w_a7:List Int→Option (Int×Int×Bool)) (N:Nat) (x:List Int×(Int×(Int⊕Unit))):Option (Int×(List Int×(Int×(Int⊕Unit)))):=
 selim (fun(b:Int)=>some ((0:Int),x)) (fun(c:PUnit)=>cnd (decide ((0:Int)≤x.2.1)&&decide (x.2.1≤(↑(List.length x.1):Int))) (obind
 (w_a7 (List.drop (Int.toNat x.2.1) (List.take (List.length x.1) x.1))) fun b=>obind (cnd (!b.2.2) (some (x.1,x.2.1,Sum.inl x.2.1))
 (some x)) fun(b_1:List Int×Int×(Int⊕PUnit))=>some (b.1,b_1.1,wr .i64 (b_1.2.1+b.2.1),b_1.2.2)) none) x.2.2
theorem q_B:∀w_a7 N x,u_B.F L0 P0 (orcOf [u_a7.con w_a7]) N x=V_B w_a7 N x:=by intros;kernel_rfl
def W_B (N:Nat):=V_B (W_a7 N) N
theorem con_B_ok (N:Nat):(u_B.con (W_B N)).ok P0:=Uf.ok mixed (q_B (W_a7 N) N) ⟨con_a7_ok N,trivial⟩ Tryz.func164 (by kernel_rfl) fun x y=>by kernel_rfl
def u_aT:Uf:=⟨180,39,Tryz.f180,[.val (.list (.int .u8))],[],
⟨[(2,.val .str),(3,.val (.int .i64)),(4,.val .bool)],[]⟩,[],
[],
[],fun y=>(.tup [valW .str y.1,valW (.int .i64) y.2.1,valW .bool y.2.2],[],[])⟩
def V_aT (w_Z:List Int→Option ((Int×Int)⊕Unit)) (N:Nat) (x:List Int):Option (List UInt8×Int×Bool):=
 obind (w_Z x) fun b=>selim (fun(b:Int×Int)=>cnd (decide (wr .i64 ((↑(List.length x):Int)-b.2)<b.1)) (some ([],(0:Int),
 false)) (cnd (decide ((0:Int)≤b.2)&&decide (b.2≤wr .i64 (b.2+b.1))&&decide (wr .i64 (b.2+b.1)≤(↑(List.length x):Int))) (cnd
 (List.all (List.drop (Int.toNat b.2) (List.take (Int.toNat (wr .i64 (b.2+b.1))) x)) fun(n:Int)=>decide ((0:Int)≤n)&&decide (n <
 (256:Int))) (some (bytesI (List.drop (Int.toNat b.2) (List.take (Int.toNat (wr .i64 (b.2+b.1))) x)),wr .i64 (b.2+b.1),true)) none) none)) (fun
 (c:PUnit)=>some ([],(0:Int),false)) b
theorem q_aT:∀w_Z N x,u_aT.F L0 P0 (orcOf [u_Z.con w_Z]) N x=V_aT w_Z N x:=by intros;kernel_rfl
def W_aT (N:Nat):=V_aT (W_Z N) N
theorem con_aT_ok (N:Nat):(u_aT.con (W_aT N)).ok P0:=Uf.ok mixed (q_aT (W_Z N) N) ⟨con_Z_ok N,trivial⟩ Tryz.func180 (by kernel_rfl) fun x y=>by kernel_rfl
def u_am:Uf:=⟨165,45,Tryz.f165,[.ptr 0 0],[.box 213 (.pair (.list (.int .u8)) (.pair (.int .i64) (.alt 182 (.agg (.int .i64)) .inil)))],
⟨[(0,.ptr 1000000 0),(2,.val .str)],[(1000000,.box 213 (.val (.pair (.list (.int .u8)) (.pair (.int .i64) (.alt 182 (.agg (.int .i64)) .inil)))))]⟩,[true],
[],
[(6,.cut [] [(.normal,⟨[(0,.ptr 1000000 0)],[(1000000,.box 213 (.val (.pair (.list (.int .u8)) (.pair (.int .i64) (.alt 182 (.agg (.int .i64)) .inil)))))]⟩)])],fun y=>(valW .str y.1,[.box 213 (cellsW (.pair (.list (.int .u8)) (.pair (.int .i64) (.alt 182 (.agg (.int .i64)) .inil))) y.2)],[])⟩
def V_am (w_aT:List Int→Option (List UInt8×Int×Bool)) (N:Nat) (x:List Int×(Int×(Int⊕Unit))):Option (List UInt8×(List Int×(Int×(Int⊕Unit)))):=
 selim (fun(b:Int)=>some ([],x)) (fun(c:PUnit)=>cnd (decide ((0:Int)≤x.2.1)&&decide (x.2.1≤(↑(List.length x.1):Int))) (obind
 (w_aT (List.drop (Int.toNat x.2.1) (List.take (List.length x.1) x.1))) fun b=>obind (cnd (!b.2.2) (some (x.1,x.2.1,Sum.inl x.2.1))
 (some x)) fun(b_1:List Int×Int×(Int⊕PUnit))=>some (b.1,b_1.1,wr .i64 (b_1.2.1+b.2.1),b_1.2.2)) none) x.2.2
theorem q_am:∀w_aT N x,u_am.F L0 P0 (orcOf [u_aT.con w_aT]) N x=V_am w_aT N x:=by intros;kernel_rfl
def W_am (N:Nat):=V_am (W_aT N) N
theorem con_am_ok (N:Nat):(u_am.con (W_am N)).ok P0:=Uf.ok mixed (q_am (W_aT N) N) ⟨con_aT_ok N,trivial⟩ Tryz.func165 (by kernel_rfl) fun x y=>by kernel_rfl
def u_at:Uf:=⟨131,46,Tryz.f131,[.val (.list (.int .u8))],[],
⟨[(2,.ptr 600002 0),(3,.val (.alt 182 (.agg (.int .i64)) .inil))],[(600002,.box 46 (.val T_))]⟩,[],
[(6,.loop [] ⟨[(2,.ptr 600002 0),(4,.ptr 600004 0),(5,.ptr 600005 0),(6,.val (.int .i64))],[(600002,.box 46 (.pair (.val (.int .i64)) (.pair (.val (.int .i64)) (.pair (.val (.int .i64)) (.pair (.val (.int .i64)) (.pair (.val (.int .i64)) (.pair (.val (.int .i64)) (.pair (.acc 607002) (.pair (.val (.int .i64)) (.pair (.val (.int .i64)) (.val .str))))))))))),(607002,.nrow 3 (.int .i64) true true),(600004,.box 213 (.val (.pair (.list (.int .u8)) (.pair (.int .i64) (.alt 182 (.agg (.int .i64)) .inil))))),(600005,.box 46 (.pair (.val (.int .i64)) (.pair (.val (.int .i64)) (.pair (.val (.int .i64)) (.pair (.val (.int .i64)) (.pair (.val (.int .i64)) (.pair (.val (.int .i64)) (.pair (.acc 607005) (.pair (.val (.int .i64)) (.pair (.val (.int .i64)) (.val .str))))))))))),(607005,.nrow 3 (.int .i64) true true)]⟩ [(.exit 0,⟨[(2,.ptr 600002 0),(4,.ptr 600004 0),(5,.ptr 600005 0)],[(600002,.box 46 (.pair (.val (.int .i64)) (.pair (.val (.int .i64)) (.pair (.val (.int .i64)) (.pair (.val (.int .i64)) (.pair (.val (.int .i64)) (.pair (.val (.int .i64)) (.pair (.acc 607002) (.pair (.val (.int .i64)) (.pair (.val (.int .i64)) (.val .str))))))))))),(607002,.nrow 3 (.int .i64) true true),(600004,.box 213 (.val (.pair (.list (.int .u8)) (.pair (.int .i64) (.alt 182 (.agg (.int .i64)) .inil))))),(600005,.box 46 (.pair (.val (.int .i64)) (.pair (.val (.int .i64)) (.pair (.val (.int .i64)) (.pair (.val (.int .i64)) (.pair (.val (.int .i64)) (.pair (.val (.int .i64)) (.pair (.acc 607005) (.pair (.val (.int .i64)) (.pair (.val (.int .i64)) (.val .str))))))))))),(607005,.nrow 3 (.int .i64) true true)]⟩)])],
[],fun y=>(.tup [valW (.agg T_) y.2,valW (.alt 182 (.agg (.int .i64)) .inil) y.1],[],[])⟩
def V_at (w_B:List Int×(Int×(Int⊕Unit))→Option (Int×(List Int×(Int×(Int⊕Unit))))) (w_am:List Int×(Int×(Int⊕Unit))→Option (List UInt8×(List Int×(Int×(Int⊕Unit))))) (N:Nat) (x:List Int):Option ((Int⊕Unit)×M_):=
 obind (w_B (x,(0:Int),Sum.inr ())) fun b=>obind (w_B b.2) fun b_1=>obind (w_B b_1.2) fun
 b_2=>obind (w_B b_2.2) fun b_3=>obind (w_B b_3.2) fun b_4=>obind (w_B b_4.2) fun b_5=>
 obind (w_B b_5.2) fun b_6=>obind (loopN N (fun(v:Int×Int×Int×Int×Int×Int×Int×Int×Int×List UInt8×List Int×(List Int×Int×(Int⊕PUnit))×Int×Int×Int×Int×Int×Int×Int×Int×List UInt8×List Int)=>cnd (decide ((0:Int)<v.1)) (selim
 (fun(b:Int)=>some (Sum.inr v.2)) (fun(c:PUnit)=>obind (w_B v.2.2.2.2.2.2.2.2.2.2.2.1) fun b=>cnd (decide ((List.length
 v.2.2.2.2.2.2.2.2.2.2.2.2.2.2.2.2.2.2.2.2.2+List.length [b.1])*(8:Nat)≤(140737488355328:Nat))) (some (Sum.inl (wr .i64 (v.1-(1:Int)),v.2.1,
 v.2.2.1,v.2.2.2.1,v.2.2.2.2.1,v.2.2.2.2.2.1,v.2.2.2.2.2.2.1,v.2.2.2.2.2.2.2.1,v.2.2.2.2.2.2.2.2.1,v.2.2.2.2.2.2.2.2.2.1,
 v.2.2.2.2.2.2.2.2.2.2.1,b.2,v.2.2.2.2.2.2.2.2.2.2.2.2.1,v.2.2.2.2.2.2.2.2.2.2.2.2.2.1,v.2.2.2.2.2.2.2.2.2.2.2.2.2.2.1,
 v.2.2.2.2.2.2.2.2.2.2.2.2.2.2.2.1,v.2.2.2.2.2.2.2.2.2.2.2.2.2.2.2.2.1,v.2.2.2.2.2.2.2.2.2.2.2.2.2.2.2.2.2.1,
 v.2.2.2.2.2.2.2.2.2.2.2.2.2.2.2.2.2.2.1,v.2.2.2.2.2.2.2.2.2.2.2.2.2.2.2.2.2.2.2.1,v.2.2.2.2.2.2.2.2.2.2.2.2.2.2.2.2.2.2.2.2.1,
 v.2.2.2.2.2.2.2.2.2.2.2.2.2.2.2.2.2.2.2.2.2++[b.1]))) none) v.2.2.2.2.2.2.2.2.2.2.2.1.2.2) (some (Sum.inr v.2))) (b_6.1,(0:Int),(0:Int),
 (0:Int),(0:Int),(0:Int),(0:Int),(0:Int),(0:Int),[],[],b_6.2,b.1,b_1.1,b_2.1,b_3.1,b_4.1,b_5.1,(0:Int),(0:Int),[],[])) fun(b:Int×Int×Int×Int×Int×Int×Int×Int×List UInt8×List Int×(List Int×Int×(Int⊕PUnit))×Int×Int×Int×Int×Int×Int×Int×Int×List UInt8×List Int)=>obind (w_B b.2.2.2.2.2.2.2.2.2.2.1) fun b_7=>obind (w_B b_7.2) fun b_8=>obind
 (w_am b_8.2) fun b_9=>some (b_9.2.2.2,b.2.2.2.2.2.2.2.2.2.2.2.1,b.2.2.2.2.2.2.2.2.2.2.2.2.1,b.2.2.2.2.2.2.2.2.2.2.2.2.2.1,
 b.2.2.2.2.2.2.2.2.2.2.2.2.2.2.1,b.2.2.2.2.2.2.2.2.2.2.2.2.2.2.2.1,b.2.2.2.2.2.2.2.2.2.2.2.2.2.2.2.2.1,b.2.2.2.2.2.2.2.2.2.2.2.2.2.2.2.2.2.2.2.2,
 b_7.1,b_8.1,b_9.1)
theorem q_at:∀w_B w_am N x,u_at.F L0 P0 (orcOf [u_B.con w_B,u_am.con w_am]) N x=V_at w_B w_am N x:=by intros;kernel_rfl
def W_at (N:Nat):=V_at (W_B N) (W_am N) N
theorem con_at_ok (N:Nat):(u_at.con (W_at N)).ok P0:=Uf.ok mixed (q_at (W_B N) (W_am N) N) ⟨con_B_ok N,con_am_ok N,trivial⟩ Tryz.func131 (by kernel_rfl) fun x y=>by kernel_rfl
def u_w:Uf:=⟨181,15,Tryz.f181,[.val (.int .i64),.val (.int .i64),.val (.int .i64)],[],
⟨[(6,.val .bool)],[]⟩,[],
[],
[],fun y=>(valW .bool y,[],[])⟩
def V_w (N:Nat) (x:Int×Int×Int):Option (Bool):=
 cnd (decide (x.2.1≤x.1)) (some (decide (x.1≤x.2.2))) (some false)
theorem q_w:∀N x,u_w.F L0 P0 (orcOf []) N x=V_w N x:=by intros;kernel_rfl
def W_w (N:Nat):=V_w N
theorem con_w_ok (N:Nat):(u_w.con (W_w N)).ok P0:=Uf.ok mixed (q_w N) trivial Tryz.func181 (by kernel_rfl) fun x y=>by kernel_rfl
def u_bh:Uf:=⟨183,61,Tryz.f183,[.val (.agg T_)],[],
⟨[(2,.ptr 600002 0)],[(600002,.box 46 (.val T_))]⟩,[],
[],
[(11,.cut [] [(.normal,⟨[(1,.ptr 600001 0),(2,.ptr 600002 0),(3,.ptr 600003 0),(51,.val .bool)],[(600001,.box 46 (.val T_)),(600002,.box 46 (.val T_)),(600003,.box 46 (.val T_))]⟩)])],fun y=>(valW (.agg T_) y,[],[])⟩
def V_bh (N:Nat) (x:M_):Option (M_):=
 cnd (decide (x.1=(2:Int))) (some (x.1,x.2.1,x.2.2.1,x.2.2.2.1,x.2.2.2.2.1,x.2.2.2.2.2.1,x.2.2.2.2.2.2.1,x.2.2.2.2.2.2.2.1,(0:Int),[])) (cnd
 (decide (x.1=(5:Int))) (some (x.1,x.2.1,x.2.2.1,x.2.2.2.1,x.2.2.2.2.1,x.2.2.2.2.2.1,x.2.2.2.2.2.2.1,(0:Int),x.2.2.2.2.2.2.2.2.1,[])) (cnd
 (decide (x.1=(7:Int))) (some (x.1,x.2.1,x.2.2.1,x.2.2.2.1,(0:Int),(0:Int),[],x.2.2.2.2.2.2.2.1,(0:Int),x.2.2.2.2.2.2.2.2.2)) (obind (cnd
 (decide (x.1=(8:Int))) (some (decide (x.1=(8:Int)),x,((0:Int),(0:Int),(0:Int),(0:Int),(0:Int),(0:Int),[],(0:Int),(0:Int),[]),x.1,
 x.2.1,x.2.2.1,x.2.2.2.1,(0:Int),(0:Int),[],(0:Int),(0:Int),[])) (some (decide (x.1=(9:Int)),x,((0:Int),(0:Int),(0:Int),(0:Int),
 (0:Int),(0:Int),[],(0:Int),(0:Int),[]),x.1,x.2.1,x.2.2.1,x.2.2.2.1,(0:Int),(0:Int),[],(0:Int),(0:Int),[]))) fun(b:Bool×A2_×A2_×A2_)=>cnd b.1 (some (b.2.2.2.1,b.2.2.2.2.1,b.2.2.2.2.2.1,b.2.2.2.2.2.2.1,
 b.2.2.2.2.2.2.2.1,b.2.2.2.2.2.2.2.2.1,b.2.2.2.2.2.2.2.2.2.1,b.2.1.2.2.2.2.2.2.2.1,b.2.1.2.2.2.2.2.2.2.2.1,b.2.2.2.2.2.2.2.2.2.2.2.2)) (some
 b.2.2.2))))
theorem q_bh:∀N x,u_bh.F L0 P0 (orcOf []) N x=V_bh N x:=by intros;kernel_rfl
def W_bh (N:Nat):=V_bh N
theorem con_bh_ok (N:Nat):(u_bh.con (W_bh N)).ok P0:=Uf.ok mixed (q_bh N) trivial Tryz.func183 (by kernel_rfl) fun x y=>by kernel_rfl
def u_aM:Uf:=⟨194,26,Tryz.f194,[.val (.list (.int .i64)),.val (.list (.int .i64))],[],
⟨[(4,.val .bool)],[]⟩,[],
[(4,.loop [] ⟨[(13,.val (.int .i64))],[]⟩ [(.exit 0,⟨[],[]⟩),(.ret,⟨[(4,.val .bool)],[]⟩)])],
[],fun y=>(valW .bool y,[],[])⟩
def V_aM (N:Nat) (x:List Int×List Int):Option (Bool):=
 cnd (decide ((↑(List.length x.1):Int)≠(↑(List.length x.2):Int))) (some false) (obind (loopN N (fun(v:Int)=>cnd (decide (v<(↑(List.length
 x.1):Int))) (cnd (decide ((0:Int)≤v)&&decide (v<(↑(List.length x.1):Int))) (cnd (decide ((0:Int)≤v)&&decide (v<(↑(List.length x.2):
 Int))) (cnd (decide (List.getD x.1 (Int.toNat v) (0:Int)≠List.getD x.2 (Int.toNat v) (0:Int))) (some (Sum.inr (Sum.inr false))) (some (Sum.inl (wr
 .i64 (v+(1:Int)))))) none) none) (some (Sum.inr (Sum.inl ())))) (Int.ofNat (0:Nat))) fun(b:PUnit⊕Bool)=>selim (fun(b:PUnit)=>some
 true) (fun(c:Bool)=>some c) b)
theorem q_aM:∀N x,u_aM.F L0 P0 (orcOf []) N x=V_aM N x:=by intros;kernel_rfl
def W_aM (N:Nat):=V_aM N
theorem con_aM_ok (N:Nat):(u_aM.con (W_aM N)).ok P0:=Uf.ok mixed (q_aM N) trivial Tryz.func194 (by kernel_rfl) fun x y=>by kernel_rfl
def u_bd:Uf:=⟨182,73,Tryz.f182,[.val (.agg T_),.val (.agg T_)],[],
⟨[(4,.val .bool)],[]⟩,[],
[],
[(1000001,.reg [(12,[],⟨[(2,.ptr 600002 0),(3,.ptr 600003 0),(16,.val .bool)],[(600002,.box 46 (.val T_)),(600003,.box 46 (.val T_))]⟩),(7,[],⟨[(2,.ptr 600002 0),(3,.ptr 600003 0),(23,.val .bool)],[(600002,.box 46 (.val T_)),(600003,.box 46 (.val T_))]⟩),(7,[],⟨[(2,.ptr 600002 0),(3,.ptr 600003 0),(30,.val .bool)],[(600002,.box 46 (.val T_)),(600003,.box 46 (.val T_))]⟩),(7,[],⟨[(2,.ptr 600002 0),(3,.ptr 600003 0),(37,.val .bool)],[(600002,.box 46 (.val T_)),(600003,.box 46 (.val T_))]⟩),(7,[],⟨[(2,.ptr 600002 0),(3,.ptr 600003 0),(44,.val .bool)],[(600002,.box 46 (.val T_)),(600003,.box 46 (.val T_))]⟩),(7,[],⟨[(2,.ptr 600002 0),(3,.ptr 600003 0),(51,.val .bool)],[(600002,.box 46 (.val T_)),(600003,.box 46 (.val T_))]⟩),(7,[],⟨[(2,.ptr 600002 0),(3,.ptr 600003 0),(58,.val .bool)],[(600002,.box 46 (.val T_)),(600003,.box 46 (.val T_))]⟩),(7,[],⟨[(2,.ptr 600002 0),(3,.ptr 600003 0),(65,.val .bool)],[(600002,.box 46 (.val T_)),(600003,.box 46 (.val T_))]⟩)])],fun y=>(valW .bool y,[],[])⟩
def V_bd (w_aM:List Int×List Int→Option (Bool)) (N:Nat) (x:(M_)×M_):Option (Bool):=
 obind (cnd (decide (x.1.1=x.2.1)) (some (decide (x.1.2.1=x.2.2.1),x)) (some (false,x))) fun(b:Bool×A2_×A2_)=>obind (cnd b.1 (some (decide
 (b.2.1.2.2.1=b.2.2.2.2.1),b.2)) (some (false,b.2))) fun(b:Bool×A2_×A2_)=>obind (cnd b.1 (some (decide (b.2.1.2.2.2.1=b.2.2.2.2.2.1),b.2)) (some
 (false,b.2))) fun(b:Bool×A2_×A2_)=>obind (cnd b.1 (some (decide (b.2.1.2.2.2.2.1=b.2.2.2.2.2.2.1),b.2)) (some (false,b.2))) fun(b:Bool×A2_×A2_)=>obind
 (cnd b.1 (some (decide (b.2.1.2.2.2.2.2.1=b.2.2.2.2.2.2.2.1),b.2)) (some (false,b.2))) fun(b:Bool×A2_×A2_)=>obind (cnd b.1 (obind (w_aM (b.2.1.2.2.2.2.2.2.1,b.2.2.2.2.2.2.2.2.1)) fun b_1=>some (b_1,b.2)) (some (false,b.2))) fun(b:Bool×A2_×A2_)=>obind (cnd b.1 (some (decide
 (b.2.1.2.2.2.2.2.2.2.1=b.2.2.2.2.2.2.2.2.2.1),b.2)) (some (false,b.2))) fun(b:Bool×A2_×A2_)=>obind (cnd b.1 (some (decide (b.2.1.2.2.2.2.2.2.2.2.1
 = b.2.2.2.2.2.2.2.2.2.2.1),b.2)) (some (false,b.2))) fun(b:Bool×A2_×A2_)=>cnd b.1 (some (b.2.1.2.2.2.2.2.2.2.2.2==b.2.2.2.2.2.2.2.2.2.2.2)) (some
 false)
theorem q_bd:∀w_aM N x,u_bd.F L0 P0 (orcOf [u_aM.con w_aM]) N x=V_bd w_aM N x:=by intros;kernel_rfl
def W_bd (N:Nat):=V_bd (W_aM N) N
theorem con_bd_ok (N:Nat):(u_bd.con (W_bd N)).ok P0:=Uf.ok mixed (q_bd (W_aM N) N) ⟨con_aM_ok N,trivial⟩ Tryz.func182 (by kernel_rfl) fun x y=>by kernel_rfl
def u_aO:Uf:=⟨188,19,Tryz.f188,[.val (.list (.int .i64)),.val (.int .i64)],[],
⟨[(4,.val (.int .i64))],[]⟩,[],
[(2,.loop [] ⟨[(8,.val (.int .i64))],[]⟩ [(.exit 0,⟨[],[]⟩),(.ret,⟨[(4,.val (.int .i64))],[]⟩)])],
[],fun y=>(valW (.int .i64) y,[],[])⟩
def V_aO (N:Nat) (x:List Int×Int):Option (Int):=
 obind (loopN N (fun(v:Int)=>cnd (decide (v<(↑(List.length x.1):Int))) (cnd (decide ((0:Int)≤v)&&decide (v<(↑(List.length x.1):Int)))
 (cnd (decide (x.2=List.getD x.1 (Int.toNat v) (0:Int))) (some (Sum.inr (Sum.inr v))) (some (Sum.inl (wr .i64 (v+(1:Int)))))) none) (some
 (Sum.inr (Sum.inl ())))) (Int.ofNat (0:Nat))) fun(b:PUnit⊕Int)=>selim (fun(b:PUnit)=>some (-1:Int)) (fun(c:Int)=>some c) b
theorem q_aO:∀N x,u_aO.F L0 P0 (orcOf []) N x=V_aO N x:=by intros;kernel_rfl
def W_aO (N:Nat):=V_aO N
theorem con_aO_ok (N:Nat):(u_aO.con (W_aO N)).ok P0:=Uf.ok mixed (q_aO N) trivial Tryz.func188 (by kernel_rfl) fun x y=>by kernel_rfl
def u_bk:Uf:=⟨170,9,Tryz.f170,[.val (.list (.int .i64)),.val (.int .i64)],[],
⟨[(4,.val .bool)],[]⟩,[],
[],
[],fun y=>(valW .bool y,[],[])⟩
def V_bk (w_aO:List Int×Int→Option (Int)) (N:Nat) (x:List Int×Int):Option (Bool):=
 obind (w_aO x) fun b=>some (decide ((0:Int)≤b))
theorem q_bk:∀w_aO N x,u_bk.F L0 P0 (orcOf [u_aO.con w_aO]) N x=V_bk w_aO N x:=by intros;kernel_rfl
def W_bk (N:Nat):=V_bk (W_aO N) N
theorem con_bk_ok (N:Nat):(u_bk.con (W_bk N)).ok P0:=Uf.ok mixed (q_bk (W_aO N) N) ⟨con_aO_ok N,trivial⟩ Tryz.func170 (by kernel_rfl) fun x y=>by kernel_rfl
def u_3:Uf:=⟨134,8,Tryz.f134,[.val (.list (.int .i64)),.val (.int .i64)],[],
⟨[(4,.val .bool)],[]⟩,[],
[],
[],fun y=>(valW .bool y,[],[])⟩
def V_3 (w_bk:List Int×Int→Option (Bool)) (N:Nat) (x:List Int×Int):Option (Bool):=
 obind (w_bk x) fun b=>some b
theorem q_3:∀w_bk N x,u_3.F L0 P0 (orcOf [u_bk.con w_bk]) N x=V_3 w_bk N x:=by intros;kernel_rfl
def W_3 (N:Nat):=V_3 (W_bk N) N
theorem con_3_ok (N:Nat):(u_3.con (W_3 N)).ok P0:=Uf.ok mixed (q_3 (W_bk N) N) ⟨con_bk_ok N,trivial⟩ Tryz.func134 (by kernel_rfl) fun x y=>by kernel_rfl
def u_X:Uf:=⟨172,46,Tryz.f172,[.val (.list (.int .i64))],[],
⟨[(2,.val (.alt 220 (.list (.int .i64)) (.alt1 238 (.agg .unit))))],[]⟩,[],
[(4,.loop [21] ⟨[(23,.val (.int .i64))],[]⟩ [(.exit 0,⟨[],[]⟩),(.ret,⟨[(2,.val (.alt 220 (.list (.int .i64)) (.alt1 238 (.agg .unit))))],[]⟩)])],
[(1000001,.reg [(8,[],⟨[(12,.val .bool)],[]⟩)]),
(1000006,.reg [(6,[21],⟨[(33,.val .bool)],[]⟩)])],fun y=>(valW (.alt 220 (.list (.int .i64)) (.alt1 238 (.agg .unit))) y,[],[])⟩
def V_X (w_3:List Int×Int→Option (Bool)) (N:Nat) (x:List Int):Option ((List Int)⊕Unit):=
 obind (cnd (decide ((↑(List.length x):Int)<(1:Int))) (some true) (some (decide ((10:Int)<(↑(List.length x):Int))))) fun(b:Bool)=>cnd b
 (some (Sum.inr ())) (cnd (decide ((0:Int)≤(0:Int))&&decide ((0:Int)<(↑(List.length x):Int))) (cnd (decide (List.getD x (0:Nat) (0:Int) ≠
 (1:Int))) (some (Sum.inr ())) (obind (loopN N (fun(v:Int)=>cnd (decide (v<(↑(List.length x):Int))) (cnd (decide ((0:Int)≤v)&&decide (v
 < (↑(List.length x):Int))) (obind (cnd (decide (List.getD x (Int.toNat v) (0:Int)<(1:Int))) (some true) (some (decide ((8:Int)<List.getD x
 (Int.toNat v) (0:Int))))) fun(b:Bool)=>cnd b (some (Sum.inr (Sum.inr (Sum.inr ())))) (cnd (decide ((0:Int)≤v)&&decide (v≤(↑(List.length
 x):Int))) (obind (w_3 (List.drop (0:Nat) (List.take (Int.toNat v) x),List.getD x (Int.toNat v) (0:Int))) fun b=>cnd b (some (Sum.inr
 (Sum.inr (Sum.inr ())))) (some (Sum.inl (wr .i64 (v+(1:Int)))))) none)) none) (some (Sum.inr (Sum.inl ())))) (Int.ofNat (0:Nat))) fun(b:PUnit ⊕
 List Int⊕PUnit)=>selim (fun(b:PUnit)=>some (Sum.inl x)) (fun(c:List Int⊕PUnit)=>some c) b)) none)
theorem q_X:∀w_3 N x,u_X.F L0 P0 (orcOf [u_3.con w_3]) N x=V_X w_3 N x:=by intros;kernel_rfl
def W_X (N:Nat):=V_X (W_3 N) N
theorem con_X_ok (N:Nat):(u_X.con (W_X N)).ok P0:=Uf.ok mixed (q_X (W_3 N) N) ⟨con_3_ok N,trivial⟩ Tryz.func172 (by kernel_rfl) fun x y=>by kernel_rfl
def u_bb:Uf:=⟨195,12,Tryz.f195,[.val (.list (.int .i64))],[],
⟨[(2,.val .bool)],[]⟩,[],
[],
[],fun y=>(valW .bool y,[],[])⟩
def V_bb (w_X:List Int→Option ((List Int)⊕Unit)) (N:Nat) (x:List Int):Option (Bool):=
 obind (w_X x) fun b=>selim (fun(b:List Int)=>some true) (fun(c:PUnit)=>some false) b
theorem q_bb:∀w_X N x,u_bb.F L0 P0 (orcOf [u_X.con w_X]) N x=V_bb w_X N x:=by intros;kernel_rfl
def W_bb (N:Nat):=V_bb (W_X N) N
theorem con_bb_ok (N:Nat):(u_bb.con (W_bb N)).ok P0:=Uf.ok mixed (q_bb (W_X N) N) ⟨con_X_ok N,trivial⟩ Tryz.func195 (by kernel_rfl) fun x y=>by kernel_rfl
def u_au:Uf:=⟨184,55,Tryz.f184,[.val (.agg T_)],[],
⟨[(2,.val .bool)],[]⟩,[],
[],
[(1000004,.reg [(8,[],⟨[(1,.ptr 600001 0),(15,.val .bool)],[(600001,.box 46 (.val T_))]⟩),(5,[],⟨[(1,.ptr 600001 0),(20,.val .bool)],[(600001,.box 46 (.val T_))]⟩),(5,[],⟨[(1,.ptr 600001 0),(25,.val .bool)],[(600001,.box 46 (.val T_))]⟩)]),
(9,.cut [] [(.normal,⟨[(1,.ptr 600001 0),(42,.val .bool)],[(600001,.box 46 (.val T_))]⟩)]),
(4,.cut [] [(.normal,⟨[(1,.ptr 600001 0),(5,.val .bool)],[(600001,.box 46 (.val T_))]⟩)])],fun y=>(valW .bool y,[],[])⟩
def V_au (w_w:Int×Int×Int→Option (Bool)) (w_bb:List Int→Option (Bool)) (N:Nat) (x:M_):Option (Bool):=
 obind (cnd (decide (x.1=(2:Int))) (some (decide (x.1=(2:Int)),x)) (some (decide (x.1=(5:Int)),x))) fun(b:Bool×A2_)=>cnd b.1 (obind (obind (w_w (b.2.2.2.2.2.1,(0:Int),(1073741824:Int))) fun b_1=>cnd b_1
 (obind (w_w (b.2.2.2.2.2.2.1,(0:Int),(1073741824:Int))) fun b_2=>some (b_2,b.2)) (some (false,b.2))) fun(b:Bool×A2_)=>obind (cnd b.1 (obind (w_bb b.2.2.2.2.2.2.2.1) fun b_1=>some (b_1,b.2)) (some
 (false,b.2))) fun(b:Bool×A2_)=>obind (cnd b.1 (obind (w_w
 (b.2.2.2.2.2.2.2.2.1,(0:Int),(1000000:Int))) fun b_1=>some (b_1,b.2)) (some (false,b.2))) fun(b:Bool×A2_)=>cnd b.1 (obind (w_w (b.2.2.2.2.2.2.2.2.2.1,(0:Int),(1000000:Int))) fun b=>some b) (some false))
 (cnd (decide (x.1=(7:Int))) (obind (w_w (b.2.2.2.2.2.2.2.2.1,(1:Int),(1000000:Int))) fun b_1=>cnd b_1 (some (decide ((↑(List.length
 b.2.2.2.2.2.2.2.2.2.2):Int)≤(12:Int)))) (some false)) (obind (cnd (decide (x.1=(8:Int))) (some (decide (x.1=(8:Int)),b.2)) (some (decide
 (x.1=(9:Int)),b.2))) fun(b:Bool×A2_)=>cnd b.1 (obind (w_w
 (b.2.2.2.2.2.2.2.2.1,(1:Int),b.2.2.2.2.2.2.2.2.2.1)) fun b_1=>cnd b_1 (some (decide (b.2.2.2.2.2.2.2.2.2.1≤(1000000:Int)))) (some false))
 (some true)))
theorem q_au:∀w_w w_bb N x,u_au.F L0 P0 (orcOf [u_w.con w_w,u_bb.con w_bb]) N x=V_au w_w w_bb N x:=by intros;kernel_rfl
def W_au (N:Nat):=V_au (W_w N) (W_bb N) N
theorem con_au_ok (N:Nat):(u_au.con (W_au N)).ok P0:=Uf.ok mixed (q_au (W_w N) (W_bb N) N) ⟨con_w_ok N,con_bb_ok N,trivial⟩ Tryz.func184 (by kernel_rfl) fun x y=>by kernel_rfl
def u_bf:Uf:=⟨166,40,Tryz.f166,[.val (.agg T_)],[],
⟨[(2,.val .bool)],[]⟩,[],
[],
[(1000001,.reg [(8,[],⟨[(1,.ptr 600001 0),(11,.val .bool)],[(600001,.box 46 (.val T_))]⟩),(5,[],⟨[(1,.ptr 600001 0),(16,.val .bool)],[(600001,.box 46 (.val T_))]⟩),(7,[],⟨[(1,.ptr 600001 0),(23,.val .bool)],[(600001,.box 46 (.val T_))]⟩)])],fun y=>(valW .bool y,[],[])⟩
def V_bf (w_w:Int×Int×Int→Option (Bool)) (w_bh:M_→Option (M_)) (w_bd:(M_)×M_→Option (Bool)) (w_au:M_→Option (Bool)) (N:Nat) (x:M_):Option (Bool):=
 obind (obind (w_w (x.1,(1:Int),(9:Int))) fun b=>cnd b (obind (w_w (x.2.1,(1:Int),(8:Int))) fun b=>some (b,x)) (some (false,
 x))) fun(b:Bool×A2_)=>obind (cnd b.1 (obind (w_w (b.2.2.2.1,
 (1:Int),(8:Int))) fun b_1=>some (b_1,b.2)) (some (false,b.2))) fun(b:Bool×A2_)=>obind (cnd b.1 (some (decide (b.2.2.1≠b.2.2.2.1),b.2)) (some (false,b.2))) fun(b:Bool×A2_)=>cnd b.1 (obind (w_w (b.2.2.2.2.1,(1:Int),(1073741824:Int))) fun b_1=>cnd b_1 (obind (w_bh b.2)
 fun b_2=>obind (w_bd (b.2,b_2)) fun b_3=>cnd b_3 (obind (w_au b.2) fun b=>some b) (some false)) (some false)) (some false)
theorem q_bf:∀w_w w_bh w_bd w_au N x,u_bf.F L0 P0 (orcOf [u_w.con w_w,u_bh.con w_bh,u_bd.con w_bd,u_au.con w_au]) N x=V_bf w_w w_bh w_bd w_au N x:=by intros;kernel_rfl
def W_bf (N:Nat):=V_bf (W_w N) (W_bh N) (W_bd N) (W_au N) N
theorem con_bf_ok (N:Nat):(u_bf.con (W_bf N)).ok P0:=Uf.ok mixed (q_bf (W_w N) (W_bh N) (W_bd N) (W_au N) N) ⟨con_w_ok N,con_bh_ok N,con_bd_ok N,con_au_ok N,trivial⟩ Tryz.func166 (by kernel_rfl) fun x y=>by kernel_rfl
def as_h:List AS:=[.val (.list (.int .u8))]
def bs_h:List BS:=[]
def pout_h:Pat:=⟨[(2,.acc 700005)],[(700005,.nrow 5 (.int .u8) false true)]⟩
def G_h  (N:Nat):OrcT:=orcOf []
def F_h  (N:Nat) (x:List Int):Option (List Int):=
  (evT (G_h  N) L0 P0 []
    [] N 400 (bodyOf Tryz.f186) ⟨8,slots 0 [.nl ⟨(.int .u8),x⟩],tabU (lbOf as_h bs_h x) [],[]⟩).elim (kRet 8 pout_h (kpL []) (lbOf as_h bs_h x))
def out_h (y:List Int):V×List OK×List OK:=(.acc 2000000 0,[],[.nrow 5 false true ⟨(.int .u8),y⟩])
def V_h  (N:Nat) (x:List Int):Option (List Int):=
 cnd (decide (List.length x*(1:Nat)≤(140737488355328:Nat))) (some x) none
theorem FV_h_eq  (N:Nat) (x:List Int):F_h  N x=V_h  N x:=by kernel_rfl
def W_h (N:Nat) (x:List Int):Option (List Int):=V_h  N x
theorem F_h_eq (N:Nat) (x:List Int):F_h  N x=W_h N x:=(FV_h_eq  N x).trans (by kernel_rfl)
def conw_h (w:List Int→Option (List Int)):Con:=⟨186,as_h,bs_h,List Int,w,out_h⟩
def con_h (N:Nat):Con:=conw_h (W_h N)
theorem R_h_eq (x:List Int) (y:List Int):retOf2 P0 Tryz.f186 (kpL []) (lbOf as_h bs_h x) (patS ⟨8,[],[],[]⟩ pout_h y)=some (out_h y):=by kernel_rfl
def FA_bytes_Clone:Option (List Int):=(evT (G_h 1) L0 P0 [] [] 1 400 (bodyOf Tryz.f186) ⟨8,slots 0 [.snil],tabU [] [],[]⟩).elim (kRet 8 pout_h (kpL []) [])
theorem FA_bytes_Clone_eq:FA_bytes_Clone=some []:=by kernel_rfl
theorem WN_bytes_Clone (N:Nat) (r:List Int) (h:W_h N []=some r):r=[]:=by
  have e:W_h N []=some []:=by kernel_rfl
  rw[e] at h;injection h with h;exact h.symm
theorem con_h_ok (N:Nat):Con.ok P0 (con_h N):=⟨⟨Tryz.f186,Tryz.func186,by kernel_rfl,by kernel_rfl⟩,fun(x:List Int) (r:List Int) (hr:W_h N x=some r)=>
  clone_split (e:=(.int .u8)) (ty:=5) (l:=x) (r:=r)
    (spec2_evT (Γ:=G_h 1) (Λ:=L0) (lb:=[]) (pout:=pout_h) (kp:=kpL []) mixed (orcOf_ok [] (by simp)) Tryz.func186 (c:=bodyOf Tryz.f186) (by kernel_rfl) (by kernel_rfl) (of_decide_eq_true (by kernel_rfl)) FA_bytes_Clone_eq (R_h_eq x []))
    (spec2_evT (Γ:=G_h N) (Λ:=L0) (lb:=[]) (pout:=pout_h) (kp:=kpL []) mixed (orcOf_ok [] (by simp)) Tryz.func186 (c:=bodyOf Tryz.f186) (by kernel_rfl) (by kernel_rfl) (of_decide_eq_true (by kernel_rfl)) ((F_h_eq N x).trans hr) (R_h_eq x r))
    (fun h=>by subst h;exact WN_bytes_Clone N r hr)⟩
def u_4:Uf:=⟨185,31,Tryz.f185,[.val (.list (.int .u8)),.val (.int .i64)],[],
⟨[(4,.acc 700007)],[(700007,.nrow 5 (.int .u8) false true)]⟩,[],
[(4,.loop [] ⟨[(1,.val (.int .i64)),(5,.acc 700007)],[(700007,.nrow 5 (.int .u8) false true)]⟩ [(.exit 0,⟨[(1,.val (.int .i64)),(5,.acc 700007)],[(700007,.nrow 5 (.int .u8) false true)]⟩)])],
[],fun y=>(.acc 2000000 0,[],[.nrow 5 false true ⟨(.int .u8),y⟩])⟩
def V_4 (w_h:List Int→Option (List Int)) (N:Nat) (x:List Int×Int):Option (List Int):=
 obind (w_h x.1) fun b=>cnd (decide (x.2<(0:Int))) (some b) (cnd (decide ((1073741824:Int)<x.2)) (some b) (obind (loopN N (fun(v:
 Int×List Int)=>cnd (decide ((128:Int)≤v.1)) (cnd (decide ((List.length v.2+List.length [wr .u8 (wr .i64 (Int.tmod v.1 (128:Int) +
 (128:Int)))])*(1:Nat)≤(140737488355328:Nat))) (some (Sum.inl (wr .i64 (Int.tdiv v.1 (128:Int)),v.2++[wr .u8 (wr .i64 (Int.tmod v.1 (128:Int)
 + (128:Int)))]))) none) (some (Sum.inr v))) (x.2,b)) fun(b:Int×List Int)=>cnd (decide ((List.length b.2+List.length [wr .u8 b.1]) *
 (1:Nat)≤(140737488355328:Nat))) (some (b.2++[wr .u8 b.1])) none))
theorem q_4:∀w_h N x,u_4.F L0 P0 (orcOf [conw_h w_h]) N x=V_4 w_h N x:=by intros;kernel_rfl
def W_4 (N:Nat):=V_4 (W_h N) N
theorem con_4_ok (N:Nat):(u_4.con (W_4 N)).ok P0:=Uf.ok mixed (q_4 (W_h N) N) ⟨con_h_ok N,trivial⟩ Tryz.func185 (by kernel_rfl) fun x y=>by kernel_rfl
def u_aw:Uf:=⟨167,18,Tryz.f167,[.val (.list (.int .u8)),.val (.list (.int .i64))],[],
⟨[(4,.val (.list (.int .u8)))],[]⟩,[],
[(2,.loop [7] ⟨[(0,.val (.list (.int .u8))),(9,.val (.int .i64))],[]⟩ [(.exit 0,⟨[(0,.val (.list (.int .u8)))],[]⟩)])],
[],fun y=>(valW (.list (.int .u8)) y,[],[])⟩
def V_aw (w_4:List Int×Int→Option (List Int)) (N:Nat) (x:List Int×List Int):Option (List Int):=
 obind (loopN N (fun(v:List Int×Int)=>cnd (decide (v.2<(↑(List.length x.2):Int))) (cnd (decide ((0:Int)≤v.2)&&decide (v.2 <
 (↑(List.length x.2):Int))) (obind (w_4 (v.1,List.getD x.2 (Int.toNat v.2) (0:Int))) fun b=>some (Sum.inl (b,wr .i64 (v.2 +
 (1:Int))))) none) (some (Sum.inr v.1))) (x.1,(0:Int))) fun(b:List Int)=>some b
theorem q_aw:∀w_4 N x,u_aw.F L0 P0 (orcOf [u_4.con w_4]) N x=V_aw w_4 N x:=by intros;kernel_rfl
def W_aw (N:Nat):=V_aw (W_4 N) N
theorem con_aw_ok (N:Nat):(u_aw.con (W_aw N)).ok P0:=Uf.ok mixed (q_aw (W_4 N) N) ⟨con_4_ok N,trivial⟩ Tryz.func167 (by kernel_rfl) fun x y=>by kernel_rfl
def u_aW:Uf:=⟨168,16,Tryz.f168,[.val (.list (.int .u8)),.val .str],[],
⟨[(4,.acc 700013)],[(700013,.nrow 5 (.int .u8) false true)]⟩,[],
[],
[],fun y=>(.acc 2000000 0,[],[.nrow 5 false true ⟨(.int .u8),y⟩])⟩
def V_aW (w_h:List Int→Option (List Int)) (w_4:List Int×Int→Option (List Int)) (N:Nat) (x:List Int×List UInt8):Option (List Int):=
 cnd (decide ((1073741824:Int)<(↑(List.length x.2):Int))) (obind (w_h x.1) fun b=>some b) (obind (w_4 (x.1,(↑(List.length
 x.2):Int))) fun b=>cnd (decide ((List.length b+List.length (List.map (fun(b:UInt8)=>(↑(UInt8.toNat b):Int)) x.2))*(1:Nat) ≤
 (140737488355328:Nat))) (some (b++List.map (fun(b:UInt8)=>(↑(UInt8.toNat b):Int)) x.2)) none)
theorem q_aW:∀w_h w_4 N x,u_aW.F L0 P0 (orcOf [conw_h w_h,u_4.con w_4]) N x=V_aW w_h w_4 N x:=by intros;kernel_rfl
def W_aW (N:Nat):=V_aW (W_h N) (W_4 N) N
theorem con_aW_ok (N:Nat):(u_aW.con (W_aW N)).ok P0:=Uf.ok mixed (q_aW (W_h N) (W_4 N) N) ⟨con_h_ok N,con_4_ok N,trivial⟩ Tryz.func168 (by kernel_rfl) fun x y=>by kernel_rfl
def u_bc:Uf:=⟨196,22,Tryz.f196,[.val (.int .u32),.val (.int .i32)],[],
⟨[(4,.val (.int .u32))],[]⟩,[],
[(3,.loop [] ⟨[(0,.val (.int .u32)),(10,.val (.int .i64))],[]⟩ [(.exit 0,⟨[(0,.val (.int .u32))],[]⟩)])],
[],fun y=>(valW (.int .u32) y,[],[])⟩
def V_bc (N:Nat) (x:Int×Int):Option (Int):=
 obind (loopN N (fun(v:Int×Int)=>cnd (decide (v.2<(8:Int))) (cnd (decide (wr .u32 (↑(BitVec.toNat (BitVec.ofInt (32:Nat) v.1 &&& BitVec.ofInt
 (32:Nat) (1:Int))):Int)=(1:Int))) (some (Sum.inl (wr .u32 (↑(BitVec.toNat (BitVec.ofInt (32:Nat) (Int.fdiv v.1 ((2:Int) ^ (1:Nat))) ^^^
 BitVec.ofInt (32:Nat) (3988292384:Int))):Int),wr .i64 (v.2+(1:Int))))) (some (Sum.inl (Int.fdiv v.1 ((2:Int) ^ (1:Nat)),wr .i64 (v.2 +
 (1:Int)))))) (some (Sum.inr v.1))) (wr .u32 (↑(BitVec.toNat (BitVec.ofInt (32:Nat) x.1 ^^^ BitVec.ofInt (32:Nat) (wr .u32 x.2))):Int),(0:Int)))
 fun(b:Int)=>some b
theorem q_bc:∀N x,u_bc.F L0 P0 (orcOf []) N x=V_bc N x:=by intros;kernel_rfl
def W_bc (N:Nat):=V_bc N
theorem con_bc_ok (N:Nat):(u_bc.con (W_bc N)).ok P0:=Uf.ok mixed (q_bc N) trivial Tryz.func196 (by kernel_rfl) fun x y=>by kernel_rfl
def u_bj:Uf:=⟨187,19,Tryz.f187,[.val (.list (.int .u8))],[],
⟨[(2,.val (.int .u32))],[]⟩,[],
[(3,.loop [6] ⟨[(3,.val (.int .u32)),(8,.val (.int .i64))],[]⟩ [(.exit 0,⟨[(3,.val (.int .u32))],[]⟩)])],
[],fun y=>(valW (.int .u32) y,[],[])⟩
def V_bj (w_bc:Int×Int→Option (Int)) (N:Nat) (x:List Int):Option (Int):=
 obind (loopN N (fun(v:Int×Int)=>cnd (decide (v.2<(↑(List.length x):Int))) (cnd (decide ((0:Int)≤v.2)&&decide (v.2<(↑(List.length x):
 Int))) (obind (w_bc (v.1,wr .i32 (List.getD x (Int.toNat v.2) (0:Int)))) fun b=>some (Sum.inl (b,wr .i64 (v.2+(1:Int))))) none) (some
 (Sum.inr v.1))) ((4294967295:Int),(0:Int))) fun(b:Int)=>some (wr .u32 (↑(BitVec.toNat (BitVec.ofInt (32:Nat) (IntKind.max .u32) ^^^
 BitVec.ofInt (32:Nat) b)):Int))
theorem q_bj:∀w_bc N x,u_bj.F L0 P0 (orcOf [u_bc.con w_bc]) N x=V_bj w_bc N x:=by intros;kernel_rfl
def W_bj (N:Nat):=V_bj (W_bc N) N
theorem con_bj_ok (N:Nat):(u_bj.con (W_bj N)).ok P0:=Uf.ok mixed (q_bj (W_bc N) N) ⟨con_bc_ok N,trivial⟩ Tryz.func187 (by kernel_rfl) fun x y=>by kernel_rfl
def u_bg:Uf:=⟨169,18,Tryz.f169,[.val (.list (.int .u8))],[],
⟨[(2,.val (.list (.int .u8)))],[]⟩,[],
[],
[],fun y=>(valW (.list (.int .u8)) y,[],[])⟩
def V_bg (w_bj:List Int→Option (Int)) (N:Nat) (x:List Int):Option (List Int):=
 obind (w_bj x) fun b=>some [wr .u8 (Int.fdiv b ((2:Int) ^ (24:Nat))),wr .u8 (Int.fdiv b ((2:Int) ^ (16:Nat))),wr .u8 (Int.fdiv b ((2:Int) ^ (8:Nat))),wr .u8 b]
theorem q_bg:∀w_bj N x,u_bg.F L0 P0 (orcOf [u_bj.con w_bj]) N x=V_bg w_bj N x:=by intros;kernel_rfl
def W_bg (N:Nat):=V_bg (W_bj N) N
theorem con_bg_ok (N:Nat):(u_bg.con (W_bg N)).ok P0:=Uf.ok mixed (q_bg (W_bj N) N) ⟨con_bj_ok N,trivial⟩ Tryz.func169 (by kernel_rfl) fun x y=>by kernel_rfl
def u_bi:Uf:=⟨133,43,Tryz.f133,[.val (.agg T_)],[],
⟨[(2,.val (.list (.int .u8)))],[]⟩,[],
[],
[],fun y=>(valW (.list (.int .u8)) y,[],[])⟩
def V_bi (w_bf:M_→Option (Bool)) (w_aw:List Int×List Int→Option (List Int)) (w_aW:List Int×List UInt8→Option (List Int)) (w_bg:List Int→Option (List Int)) (N:Nat) (x:M_):Option (List Int):=
 obind (w_bf x) fun b=>cnd (!b) (some []) (obind (w_aw ([],[x.1,x.2.1,x.2.2.1,x.2.2.2.1,x.2.2.2.2.1,x.2.2.2.2.2.1,
 (↑(List.length x.2.2.2.2.2.2.1):Int)])) fun b=>obind (w_aw (b,x.2.2.2.2.2.2.1)) fun b=>obind (w_aw (b,
 [x.2.2.2.2.2.2.2.1,x.2.2.2.2.2.2.2.2.1])) fun b=>obind (w_aW (b,x.2.2.2.2.2.2.2.2.2)) fun b=>obind (w_bg b) fun b_1=>cnd
 (decide ((List.length b+List.length b_1)*(1:Nat)≤(140737488355328:Nat))) (some (b++b_1)) none)
theorem q_bi:∀w_bf w_aw w_aW w_bg N x,u_bi.F L0 P0 (orcOf [u_bf.con w_bf,u_aw.con w_aw,u_aW.con w_aW,u_bg.con w_bg]) N x=V_bi w_bf w_aw w_aW w_bg N x:=by intros;kernel_rfl
def W_bi (N:Nat):=V_bi (W_bf N) (W_aw N) (W_aW N) (W_bg N) N
theorem con_bi_ok (N:Nat):(u_bi.con (W_bi N)).ok P0:=Uf.ok mixed (q_bi (W_bf N) (W_aw N) (W_aW N) (W_bg N) N) ⟨con_bf_ok N,con_aw_ok N,con_aW_ok N,con_bg_ok N,trivial⟩ Tryz.func133 (by kernel_rfl) fun x y=>by kernel_rfl
def u_aX:Uf:=⟨132,10,Tryz.f132,[.val (.list (.int .u8)),.val (.list (.int .u8))],[],
⟨[(4,.val .bool)],[]⟩,[],
[],
[],fun y=>(valW .bool y,[],[])⟩
def V_aX (N:Nat) (x:List Int×List Int):Option (Bool):=
 cnd (List.all x.1 fun(n:Int)=>decide ((0:Int)≤n)&&decide (n<(256:Int))) (cnd (List.all x.2 fun(n:Int)=>decide ((0:Int)≤n)&&decide
 (n<(256:Int))) (some (List.map (fun(n:Int)=>UInt8.ofNat (Int.toNat n)) x.1==List.map (fun(n:Int)=>UInt8.ofNat (Int.toNat n)) x.2))
 none) none
theorem q_aX:∀N x,u_aX.F L0 P0 (orcOf []) N x=V_aX N x:=by intros;kernel_rfl
def W_aX (N:Nat):=V_aX N
theorem con_aX_ok (N:Nat):(u_aX.con (W_aX N)).ok P0:=Uf.ok mixed (q_aX N) trivial Tryz.func132 (by kernel_rfl) fun x y=>by kernel_rfl
def u_an:Uf:=⟨69,28,Tryz.f69,[.val (.list (.int .u8))],[],
⟨[(2,.ptr 600002 0),(3,.val .bool)],[(600002,.box 46 (.val T_))]⟩,[],
[],
[],fun y=>(.tup [valW (.agg T_) y.2,valW .bool y.1],[],[])⟩
def V_an (w_at:List Int→Option ((Int⊕Unit)×M_)) (w_bi:M_→Option (List Int)) (w_aX:List Int×List Int→Option (Bool)) (N:Nat) (x:List Int):Option (Bool×M_):=
 obind (w_at x) fun b=>selim (fun(b:Int)=>some (false,(0:Int),(0:Int),(0:Int),(0:Int),(0:Int),(0:Int),[],(0:Int),(0:Int),[]))
 (fun(c:PUnit)=>obind (w_bi b.2) fun b_1=>obind (w_aX (b_1,x)) fun b_2=>cnd (!b_2) (some (false,(0:Int),(0:Int),
 (0:Int),(0:Int),(0:Int),(0:Int),[],(0:Int),(0:Int),[])) (some (true,b.2))) b.1
theorem q_an:∀w_at w_bi w_aX N x,u_an.F L0 P0 (orcOf [u_at.con w_at,u_bi.con w_bi,u_aX.con w_aX]) N x=V_an w_at w_bi w_aX N x:=by intros;kernel_rfl
def W_an (N:Nat):=V_an (W_at N) (W_bi N) (W_aX N) N
theorem con_an_ok (N:Nat):(u_an.con (W_an N)).ok P0:=Uf.ok mixed (q_an (W_at N) (W_bi N) (W_aX N) N) ⟨con_at_ok N,con_bi_ok N,con_aX_ok N,trivial⟩ Tryz.func69 (by kernel_rfl) fun x y=>by kernel_rfl
def u_aL:Uf:=⟨37,26,Tryz.f37,[.val (.agg T2_),.val (.list (.int .u8))],[],
⟨[(4,.val (.alt 81 (.agg T_) (.alt1 121 (.agg .unit))))],[]⟩,[],
[],
[],fun y=>(valW (.alt 81 (.agg T_) (.alt1 121 (.agg .unit))) y,[],[])⟩
def V_aL (w_an:List Int→Option (Bool×M_)) (N:Nat) (x:A3_×List Int):Option ((M_)⊕Unit):=
 obind (w_an x.2) fun b=>cnd (!b.1) (some (Sum.inr ())) (cnd (decide (b.2.2.2.1≠x.1.2.2.2.1.1)) (some (Sum.inr ())) (some (Sum.inl b.2)))
theorem q_aL:∀w_an N x,u_aL.F L0 P0 (orcOf [u_an.con w_an]) N x=V_aL w_an N x:=by intros;kernel_rfl
def W_aL (N:Nat):=V_aL (W_an N) N
theorem con_aL_ok (N:Nat):(u_aL.con (W_aL N)).ok P0:=Uf.ok mixed (q_aL (W_an N) N) ⟨con_an_ok N,trivial⟩ Tryz.func37 (by kernel_rfl) fun x y=>by kernel_rfl
def u_r:Uf:=⟨70,33,Tryz.f70,[.val (.agg T0_),.val (.agg T_)],[],
⟨[(4,.val (.alt 122 (.agg .unit) (.alt 185 (.agg .unit) (.alt1 186 (.agg .unit)))))],[]⟩,[],
[],
[],fun y=>(valW (.alt 122 (.agg .unit) (.alt 185 (.agg .unit) (.alt1 186 (.agg .unit)))) y,[],[])⟩
def V_r (N:Nat) (x:A1_×M_):Option (Unit⊕(Unit⊕Unit)):=
 cnd (decide (x.1.2.2.2.1≠(0:Int))) (cnd (decide (x.2.2.1=x.1.2.2.2.1)) (some (Sum.inl ())) (cnd (decide (x.1.2.2.2.2.2.2.2.2.2.1≠(0:Int))) (cnd
 (decide (x.2.2.1=x.1.2.2.2.2.2.2.2.2.2.1)) (some (Sum.inr (Sum.inl ()))) (some (Sum.inr (Sum.inr ())))) (some (Sum.inr (Sum.inr ()))))) (cnd
 (decide (x.1.2.2.2.2.2.2.2.2.2.1≠(0:Int))) (cnd (decide (x.2.2.1=x.1.2.2.2.2.2.2.2.2.2.1)) (some (Sum.inr (Sum.inl ()))) (some (Sum.inr (Sum.inr
 ())))) (some (Sum.inr (Sum.inr ()))))
theorem q_r:∀N x,u_r.F L0 P0 (orcOf []) N x=V_r N x:=by intros;kernel_rfl
def W_r (N:Nat):=V_r N
theorem con_r_ok (N:Nat):(u_r.con (W_r N)).ok P0:=Uf.ok mixed (q_r N) trivial Tryz.func70 (by kernel_rfl) fun x y=>by kernel_rfl
def u_0:Uf:=⟨144,34,Tryz.f144,[.val (.list T3_),.val (.int .i64)],[],
⟨[(4,.val (.alt 193 (.agg (.pair (.int .i64) T3_)) (.alt1 217 (.agg (.int .i64)))))],[]⟩,[],
[(2,.loop [7] ⟨[(9,.val (.int .i64))],[]⟩ [(.exit 0,⟨[],[]⟩),(.ret,⟨[(4,.val (.alt 193 (.agg (.pair (.int .i64) T3_)) (.alt1 217 (.agg (.int .i64)))))],[]⟩)])],
[],fun y=>(valW (.alt 193 (.agg (.pair (.int .i64) T3_)) (.alt1 217 (.agg (.int .i64)))) y,[],[])⟩
def V_0 (N:Nat) (x:List (Int×Int×Int)×Int):Option ((Int×Int×Int×Int)⊕Int):=
 obind (loopN N (fun(v:Int)=>cnd (decide (v<(↑(List.length x.1):Int))) (cnd (decide ((0:Int)≤v)&&decide (v<(↑(List.length x.1):Int)))
 (cnd (decide (Prod.fst (List.getD x.1 (Int.toNat v) ((0:Int),(0:Int),(0:Int)))=x.2)) (some (Sum.inr (Sum.inr (Sum.inl (v,Prod.fst (List.getD
 x.1 (Int.toNat v) ((0:Int),(0:Int),(0:Int))),Prod.fst (Prod.snd (List.getD x.1 (Int.toNat v) ((0:Int),(0:Int),(0:Int)))),Prod.snd (Prod.snd
 (List.getD x.1 (Int.toNat v) ((0:Int),(0:Int),(0:Int))))))))) (cnd (decide (x.2<Prod.fst (List.getD x.1 (Int.toNat v) ((0:Int),(0:Int),
 (0:Int))))) (some (Sum.inr (Sum.inr (Sum.inr v)))) (some (Sum.inl (wr .i64 (v+(1:Int))))))) none) (some (Sum.inr (Sum.inl ())))) (Int.ofNat
 (0:Nat))) fun(b:PUnit⊕Int×Int×Int×Int⊕Int)=>selim (fun(b:PUnit)=>some (Sum.inr (↑(List.length x.1):Int))) (fun(c:Int×Int×Int×Int⊕Int)=>some c) b
theorem q_0:∀N x,u_0.F L0 P0 (orcOf []) N x=V_0 N x:=by intros;kernel_rfl
def W_0 (N:Nat):=V_0 N
theorem con_0_ok (N:Nat):(u_0.con (W_0 N)).ok P0:=Uf.ok mixed (q_0 N) trivial Tryz.func144 (by kernel_rfl) fun x y=>by kernel_rfl
def u_o:Uf:=⟨79,18,Tryz.f79,[.val (.list T3_),.val (.int .i64)],[],
⟨[(4,.ptr 600004 0),(5,.val .bool)],[(600004,.box 53 (.val (.pair (.int .i64) T6_)))]⟩,[],
[],
[],fun y=>(.tup [valW T3_ y.2,valW .bool y.1],[],[])⟩
def V_o (w_0:List (Int×Int×Int)×Int→Option ((Int×Int×Int×Int)⊕Int)) (N:Nat) (x:List (Int×Int×Int)×Int):Option (Bool×Int×Int×Int):=
 obind (w_0 x) fun b=>selim (fun(b:Int×Int×Int×Int)=>some (true,b.2)) (fun(c:Int)=>some (false,(0:Int),(0:Int),(0:Int))) b
theorem q_o:∀w_0 N x,u_o.F L0 P0 (orcOf [u_0.con w_0]) N x=V_o w_0 N x:=by intros;kernel_rfl
def W_o (N:Nat):=V_o (W_0 N) N
theorem con_o_ok (N:Nat):(u_o.con (W_o N)).ok P0:=Uf.ok mixed (q_o (W_0 N) N) ⟨con_0_ok N,trivial⟩ Tryz.func79 (by kernel_rfl) fun x y=>by kernel_rfl
def u_N:Uf:=⟨71,22,Tryz.f71,[.val (.list T3_),.val (.int .i64),.val (.int .i64)],[],
⟨[(6,.val .bool)],[]⟩,[],
[],
[],fun y=>(valW .bool y,[],[])⟩
def V_N (w_o:List (Int×Int×Int)×Int→Option (Bool×Int×Int×Int)) (N:Nat) (x:List (Int×Int×Int)×Int×Int):Option (Bool):=
 obind (w_o (x.1,x.2.1)) fun b=>cnd b.1 (some (decide (x.2.2<b.2.2.1))) (some false)
theorem q_N:∀w_o N x,u_N.F L0 P0 (orcOf [u_o.con w_o]) N x=V_N w_o N x:=by intros;kernel_rfl
def W_N (N:Nat):=V_N (W_o N) N
theorem con_N_ok (N:Nat):(u_N.con (W_N N)).ok P0:=Uf.ok mixed (q_N (W_o N) N) ⟨con_o_ok N,trivial⟩ Tryz.func71 (by kernel_rfl) fun x y=>by kernel_rfl
def u_q:Uf:=⟨72,12,Tryz.f72,[.val (.agg T0_),.val (.int .i64)],[],
⟨[(4,.ptr 600004 0)],[(600004,.box 31 (.val T0_))]⟩,[],
[],
[],fun y=>(valW (.agg T0_) y,[],[])⟩
def V_q (N:Nat) (x:A1_×Int):Option A1_:=
 some (x.1.1,x.1.2.1,x.1.2.2.1,(0:Int),(0:Int),x.1.2.2.2.2.2.1,[],x.1.2.2.2.2.2.2.2.1,x.1.2.2.2.2.2.2.2.2.1,(0:Int),x.1.2.2.2.2.2.2.2.2.2.2.1,x.2,x.1.2.2.2.2.2.2.2.2.2.2.2.2)
theorem q_q:∀N x,u_q.F L0 P0 (orcOf []) N x=V_q N x:=by intros;kernel_rfl
def W_q (N:Nat):=V_q N
theorem con_q_ok (N:Nat):(u_q.con (W_q N)).ok P0:=Uf.ok mixed (q_q N) trivial Tryz.func72 (by kernel_rfl) fun x y=>by kernel_rfl
def u_al:Uf:=⟨148,8,Tryz.f148,[.val (.agg T0_)],[],
⟨[(2,.val (.int .i64))],[]⟩,[],
[],
[],fun y=>(valW (.int .i64) y,[],[])⟩
def V_al (N:Nat) (x:A1_):Option (Int):=
 some (wr .i64 (x.2.2.1-x.2.2.2.2.2.2.2.2.1))
theorem q_al:∀N x,u_al.F L0 P0 (orcOf []) N x=V_al N x:=by intros;kernel_rfl
def W_al (N:Nat):=V_al N
theorem con_al_ok (N:Nat):(u_al.con (W_al N)).ok P0:=Uf.ok mixed (q_al N) trivial Tryz.func148 (by kernel_rfl) fun x y=>by kernel_rfl
def u_A:Uf:=⟨95,16,Tryz.f95,[.val (.agg T0_)],[],
⟨[(2,.val .bool)],[]⟩,[],
[],
[],fun y=>(valW .bool y,[],[])⟩
def V_A (w_al:A1_→Option (Int)) (N:Nat) (x:A1_):Option (Bool):=
 cnd (decide (x.1=(1:Int))) (some true) (cnd (decide (x.2.2.2.1≠(0:Int))) (obind (w_al x) fun b=>some (decide (b≤(20:Int)))) (some false))
theorem q_A:∀w_al N x,u_A.F L0 P0 (orcOf [u_al.con w_al]) N x=V_A w_al N x:=by intros;kernel_rfl
def W_A (N:Nat):=V_A (W_al N) N
theorem con_A_ok (N:Nat):(u_A.con (W_A N)).ok P0:=Uf.ok mixed (q_A (W_al N) N) ⟨con_al_ok N,trivial⟩ Tryz.func95 (by kernel_rfl) fun x y=>by kernel_rfl
def u_b0:Uf:=⟨135,6,Tryz.f135,[.val (.agg T0_)],[],
⟨[(2,.val (.int .i64))],[]⟩,[],
[],
[],fun y=>(valW (.int .i64) y,[],[])⟩
def V_b0 (N:Nat) (x:A1_):Option (Int):=
 cnd (decide (x.1=(1:Int))) (some (8:Int)) (some (3:Int))
theorem q_b0:∀N x,u_b0.F L0 P0 (orcOf []) N x=V_b0 N x:=by intros;kernel_rfl
def W_b0 (N:Nat):=V_b0 N
theorem con_b0_ok (N:Nat):(u_b0.con (W_b0 N)).ok P0:=Uf.ok mixed (q_b0 N) trivial Tryz.func135 (by kernel_rfl) fun x y=>by kernel_rfl
def u_g:Uf:=⟨136,14,Tryz.f136,[.val (.agg T0_),.val (.int .i64),.val (.int .i64)],[],
⟨[(6,.ptr 600006 0)],[(600006,.box 46 (.val T_))]⟩,[],
[],
[],fun y=>(valW (.agg T_) y,[],[])⟩
def V_g (N:Nat) (x:A1_×Int×Int):Option (M_):=
 some (x.2.1,x.1.1,x.2.2,x.1.2.1,(0:Int),(0:Int),[],(0:Int),(0:Int),[])
theorem q_g:∀N x,u_g.F L0 P0 (orcOf []) N x=V_g N x:=by intros;kernel_rfl
def W_g (N:Nat):=V_g N
theorem con_g_ok (N:Nat):(u_g.con (W_g N)).ok P0:=Uf.ok mixed (q_g N) trivial Tryz.func136 (by kernel_rfl) fun x y=>by kernel_rfl
def as_aB:List AS:=[.acc 0,.val (.int .i64),.val (.list T3_)]
def bs_aB:List BS:=[.nrow 53 T3_ true]
def out_aB (y:List (Int×Int×Int)):V×List OK×List OK:=(.acc 2000000 0,[.dead],[.nrow 53 false true ⟨T3_,y⟩])
def W_aB (N:Nat) (x:Int×List (Int×Int×Int)×List (Int×Int×Int)):Option (List (Int×Int×Int)):=
  cnd (decide ((0:Int)≤x.1)&&decide (x.1≤((↑(List.length x.2.2):Int):Int))&&decide (List.length x.2.1=(1:Nat))&&decide ((List.length x.2.2+(1:Nat))*(24:Nat)≤(140737488355328:Nat))) (some (List.take (Int.toNat x.1) x.2.2++(x.2.1++List.drop (Int.toNat x.1) x.2.2))) none
def conw_aB (w:Int×List (Int×Int×Int)×List (Int×Int×Int)→Option (List (Int×Int×Int))):Con:=⟨171,as_aB,bs_aB,List (Int×Int×Int),w,out_aB⟩
def con_aB (N:Nat):Con:=conw_aB (W_aB N)
theorem con_aB_ok (N:Nat):Con.ok P0 (con_aB N):=⟨⟨Tryz.f171,Tryz.func171,by kernel_rfl,by kernel_rfl⟩,fun(x:Int×List (Int×Int×Int)×List (Int×Int×Int)) (r:List (Int×Int×Int)) (hr:W_aB N x=some r)=>by
  obtain⟨i,s,l⟩:=x
  exact ins_con (e:=T3_) (t:=29) (ty:=53) (bytes:=24) (nl:=true) (l:=l) (r:=s) (q:=r) (i:=i) insN171 insP171 rfl (by decide) (by decide) (by decide) hr⟩
def u_M:Uf:=⟨137,49,Tryz.f137,[.val (.list T3_),.val T3_],[],
⟨[(4,.val (.list T3_)),(5,.val .bool)],[]⟩,[],
[],
[(8,.cut [7] [(.normal,⟨[(3,.ptr 600003 0),(6,.acc 700047)],[(600003,.box 53 (.val (.pair (.int .i64) T6_))),(700047,.nrow 53 T3_ false true)]⟩)])],fun y=>(.tup [valW (.list T3_) y.1,valW .bool y.2],[],[])⟩
def V_M (w_e:List (Int×Int×Int)→Option (List (Int×Int×Int))) (w_N:List (Int×Int×Int)×Int×Int→Option (Bool)) (w_0:List (Int×Int×Int)×Int→Option ((Int×Int×Int×Int)⊕Int)) (w_aB:Int×List (Int×Int×Int)×List (Int×Int×Int)→Option (List (Int×Int×Int))) (N:Nat) (x:List (Int×Int×Int)×Int×Int×Int):Option (List (Int×Int×Int)×Bool):=
 obind (w_e x.1) fun b=>obind (w_N (x.1,x.2.1,x.2.2.1)) fun b_1=>cnd b_1 (some (b,false)) (obind (w_0
 (x.1,x.2.1)) fun b_2=>obind (selim (fun(b_3:Int×Int×Int×Int)=>cnd (decide ((0:Int)≤b_3.1)&&decide (b_3.1<(↑(List.length b):
 Int))) (some (x.2,putL b [x.2] (Int.toNat b_3.1))) none) (fun(c:Int)=>some (x.2,b)) b_2) fun(b:(Int×Int×Int)×List (Int×Int×Int))
 => selim (fun(b_3:Int×Int×Int×Int)=>some (b.2,true)) (fun(c:Int)=>obind (w_aB (c,[b.1],b.2)) fun b=>some
 (b,true)) b_2)
theorem q_M:∀w_e w_N w_0 w_aB N x,u_M.F L0 P0 (orcOf [conw_e w_e,u_N.con w_N,u_0.con w_0,conw_aB w_aB]) N x=V_M w_e w_N w_0 w_aB N x:=by intros;kernel_rfl
def W_M (N:Nat):=V_M (W_e N) (W_N N) (W_0 N) (W_aB N) N
theorem con_M_ok (N:Nat):(u_M.con (W_M N)).ok P0:=Uf.ok mixed (q_M (W_e N) (W_N N) (W_0 N) (W_aB N) N) ⟨con_e_ok N,con_N_ok N,con_0_ok N,con_aB_ok N,trivial⟩ Tryz.func137 (by kernel_rfl) fun x y=>by kernel_rfl
def u_8:Uf:=⟨138,23,Tryz.f138,[.val (.agg T0_),.val (.int .i64),.val (.int .i64)],[],
⟨[(6,.ptr 600006 0)],[(600006,.box 46 (.val T_))]⟩,[],
[],
[],fun y=>(valW (.agg T_) y,[],[])⟩
def V_8 (w_g:A1_×Int×Int→Option (M_)) (w_al:A1_→Option (Int)) (w_f:List Int→Option (List Int)) (N:Nat) (x:A1_×Int×Int):Option (M_):=
 obind (w_g x) fun b=>obind (w_al x.1) fun b_1=>obind (w_f x.1.2.2.2.2.2.2.1) fun b_2=>some (b.1,b.2.1,b.2.2.1,b.2.2.2.1,x.1.2.2.2.2.2.2.2.1,b_1,b_2,b.2.2.2.2.2.2.2)
theorem q_8:∀w_g w_al w_f N x,u_8.F L0 P0 (orcOf [u_g.con w_g,u_al.con w_al,conw_f w_f]) N x=V_8 w_g w_al w_f N x:=by intros;kernel_rfl
def W_8 (N:Nat):=V_8 (W_g N) (W_al N) (W_f N) N
theorem con_8_ok (N:Nat):(u_8.con (W_8 N)).ok P0:=Uf.ok mixed (q_8 (W_g N) (W_al N) (W_f N) N) ⟨con_g_ok N,con_al_ok N,con_f_ok N,trivial⟩ Tryz.func138 (by kernel_rfl) fun x y=>by kernel_rfl
def u_bn:Uf:=⟨73,70,Tryz.f73,[.val (.agg T0_),.val (.agg T_),.val (.int .i64)],[],
⟨[(6,.ptr 600006 0),(7,.acc 700069)],[(600006,.box 31 (.val T0_)),(700069,.nrow 46 (.agg T_) false true)]⟩,[],
[],
[],fun y=>(.tup [valW (.agg T0_) y.1,.acc 2000000 0],[],[.nrow 46 false true ⟨(.agg T_),y.2⟩])⟩
def V_bn (w_o:List (Int×Int×Int)×Int→Option (Bool×Int×Int×Int)) (w_A:A1_→Option (Bool)) (w_3:List Int×Int→Option (Bool)) (w_b0:A1_→Option (Int)) (w_g:A1_×Int×Int→Option (M_)) (w_M:List (Int×Int×Int)×Int×Int×Int→Option (List (Int×Int×Int)×Bool)) (w_8:A1_×Int×Int→Option (M_)) (N:Nat) (x:A1_×(M_)×Int):Option (A1_×List (M_)):=
 obind (w_o (x.1.2.2.2.2.2.2.2.2.2.2.2.2,x.2.1.2.1)) fun b=>obind (w_A x.1) fun b_1=>cnd (!b_1) (obind (w_g (x.1,
 (3:Int),x.2.1.2.1)) fun b=>some (x.1,[b])) (obind (w_3 (x.1.2.2.2.2.2.2.1,x.2.1.2.1)) fun b_2=>cnd b_2 (obind (w_g (x.1,
 (3:Int),x.2.1.2.1)) fun b=>some (x.1,[b])) (cnd (!b.1) (obind (w_b0 x.1) fun b=>cnd (decide (b≤(↑(List.length
 x.1.2.2.2.2.2.2.2.2.2.2.2.2):Int))) (obind (w_g (x.1,(3:Int),x.2.1.2.1)) fun b=>some (x.1,[b])) (obind (w_M
 (x.1.2.2.2.2.2.2.2.2.2.2.2.2,x.2.1.2.1,x.2.1.2.2.2.1,x.1.2.2.1)) fun b=>obind (w_8 ((x.1.1,x.1.2.1,x.1.2.2.1,x.1.2.2.2.1,
 x.1.2.2.2.2.1,x.1.2.2.2.2.2.1,x.1.2.2.2.2.2.2.1,x.1.2.2.2.2.2.2.2.1,x.1.2.2.2.2.2.2.2.2.1,x.1.2.2.2.2.2.2.2.2.2.1,x.1.2.2.2.2.2.2.2.2.2.2.1,
 x.1.2.2.2.2.2.2.2.2.2.2.2.1,b.1),(2:Int),x.2.1.2.1)) fun b_3=>some ((x.1.1,x.1.2.1,x.1.2.2.1,x.1.2.2.2.1,x.1.2.2.2.2.1,x.1.2.2.2.2.2.1,
 x.1.2.2.2.2.2.2.1,x.1.2.2.2.2.2.2.2.1,x.1.2.2.2.2.2.2.2.2.1,x.1.2.2.2.2.2.2.2.2.2.1,x.1.2.2.2.2.2.2.2.2.2.2.1,x.1.2.2.2.2.2.2.2.2.2.2.2.1,
 b.1),[(b_3.1,b_3.2.1,b_3.2.2.1,b_3.2.2.2.1,b_3.2.2.2.2.1,b_3.2.2.2.2.2.1,b_3.2.2.2.2.2.2.1,x.2.2,b_3.2.2.2.2.2.2.2.2)]))) (obind
 (w_M (x.1.2.2.2.2.2.2.2.2.2.2.2.2,x.2.1.2.1,x.2.1.2.2.2.1,x.1.2.2.1)) fun b=>obind (w_8 ((x.1.1,x.1.2.1,x.1.2.2.1,
 x.1.2.2.2.1,x.1.2.2.2.2.1,x.1.2.2.2.2.2.1,x.1.2.2.2.2.2.2.1,x.1.2.2.2.2.2.2.2.1,x.1.2.2.2.2.2.2.2.2.1,x.1.2.2.2.2.2.2.2.2.2.1,
 x.1.2.2.2.2.2.2.2.2.2.2.1,x.1.2.2.2.2.2.2.2.2.2.2.2.1,b.1),(2:Int),x.2.1.2.1)) fun b_3=>some ((x.1.1,x.1.2.1,x.1.2.2.1,x.1.2.2.2.1,
 x.1.2.2.2.2.1,x.1.2.2.2.2.2.1,x.1.2.2.2.2.2.2.1,x.1.2.2.2.2.2.2.2.1,x.1.2.2.2.2.2.2.2.2.1,x.1.2.2.2.2.2.2.2.2.2.1,x.1.2.2.2.2.2.2.2.2.2.2.1,
 x.1.2.2.2.2.2.2.2.2.2.2.2.1,b.1),[(b_3.1,b_3.2.1,b_3.2.2.1,b_3.2.2.2.1,b_3.2.2.2.2.1,b_3.2.2.2.2.2.1,b_3.2.2.2.2.2.2.1,x.2.2,
 b_3.2.2.2.2.2.2.2.2)]))))
theorem q_bn:∀w_o w_A w_3 w_b0 w_g w_M w_8 N x,u_bn.F L0 P0 (orcOf [u_o.con w_o,u_A.con w_A,u_3.con w_3,u_b0.con w_b0,u_g.con w_g,u_M.con w_M,u_8.con w_8]) N x=V_bn w_o w_A w_3 w_b0 w_g w_M w_8 N x:=by intros;kernel_rfl
def W_bn (N:Nat):=V_bn (W_o N) (W_A N) (W_3 N) (W_b0 N) (W_g N) (W_M N) (W_8 N) N
theorem con_bn_ok (N:Nat):(u_bn.con (W_bn N)).ok P0:=Uf.ok mixed (q_bn (W_o N) (W_A N) (W_3 N) (W_b0 N) (W_g N) (W_M N) (W_8 N) N) ⟨con_o_ok N,con_A_ok N,con_3_ok N,con_b0_ok N,con_g_ok N,con_M_ok N,con_8_ok N,trivial⟩ Tryz.func73 (by kernel_rfl) fun x y=>by kernel_rfl
def u_ab:Uf:=⟨139,20,Tryz.f139,[.val (.list (.int .i64)),.val (.int .i64)],[],
⟨[(4,.val (.list (.int .i64))),(5,.val .bool)],[]⟩,[],
[],
[],fun y=>(.tup [valW (.list (.int .i64)) y.1,valW .bool y.2],[],[])⟩
def V_ab (w_f:List Int→Option (List Int)) (w_X:List Int→Option ((List Int)⊕Unit)) (N:Nat) (x:List Int×Int):Option (List Int×Bool):=
 obind (w_f x.1) fun b=>cnd (decide ((List.length b+List.length [x.2])*(8:Nat)≤(140737488355328:Nat))) (obind (w_X (b++[x.2])) fun b=>selim (fun(b:List Int)=>some (b,true)) (fun(c:PUnit)=>some ([],false)) b) none
theorem q_ab:∀w_f w_X N x,u_ab.F L0 P0 (orcOf [conw_f w_f,u_X.con w_X]) N x=V_ab w_f w_X N x:=by intros;kernel_rfl
def W_ab (N:Nat):=V_ab (W_f N) (W_X N) N
theorem con_ab_ok (N:Nat):(u_ab.con (W_ab N)).ok P0:=Uf.ok mixed (q_ab (W_f N) (W_X N) N) ⟨con_f_ok N,con_X_ok N,trivial⟩ Tryz.func139 (by kernel_rfl) fun x y=>by kernel_rfl
def u_u:Uf:=⟨140,9,Tryz.f140,[.val (.agg T0_)],[],
⟨[(2,.ptr 600002 0)],[(600002,.box 31 (.val T0_))]⟩,[],
[],
[],fun y=>(valW (.agg T0_) y,[],[])⟩
def V_u (N:Nat) (x:A1_):Option A1_:=
 some (x.1,x.2.1,x.2.2.1,x.2.2.2.1,x.2.2.2.2.1,x.2.2.2.2.2.1,x.2.2.2.2.2.2.1,x.2.2.2.2.2.2.2.1,x.2.2.2.2.2.2.2.2.1,(0:Int),x.2.2.2.2.2.2.2.2.2.2.1,wr .i64 (x.2.2.2.2.2.2.2.2.2.2.2.1+(1:Int)),x.2.2.2.2.2.2.2.2.2.2.2.2)
theorem q_u:∀N x,u_u.F L0 P0 (orcOf []) N x=V_u N x:=by intros;kernel_rfl
def W_u (N:Nat):=V_u N
theorem con_u_ok (N:Nat):(u_u.con (W_u N)).ok P0:=Uf.ok mixed (q_u N) trivial Tryz.func140 (by kernel_rfl) fun x y=>by kernel_rfl
def u_bN:Uf:=⟨173,12,Tryz.f173,[.val (.list (.int .i64))],[],
⟨[(2,.val (.int .i64))],[]⟩,[],
[],
[],fun y=>(valW (.int .i64) y,[],[])⟩
def V_bN (N:Nat) (x:List Int):Option (Int):=
 cnd (decide ((↑(List.length x):Int)<(2:Int))) (some (0:Int)) (cnd (decide ((0:Int)≤wr .i64 ((↑(List.length x):Int)-(2:Int)))&&decide (wr
 .i64 ((↑(List.length x):Int)-(2:Int))<(↑(List.length x):Int))) (some (List.getD x (Int.toNat (wr .i64 ((↑(List.length x):Int)-(2:Int))))
 (0:Int))) none)
theorem q_bN:∀N x,u_bN.F L0 P0 (orcOf []) N x=V_bN N x:=by intros;kernel_rfl
def W_bN (N:Nat):=V_bN N
theorem con_bN_ok (N:Nat):(u_bN.con (W_bN N)).ok P0:=Uf.ok mixed (q_bN N) trivial Tryz.func173 (by kernel_rfl) fun x y=>by kernel_rfl
def u_9:Uf:=⟨141,18,Tryz.f141,[.val (.agg T0_),.val (.agg T_),.val (.list (.int .i64))],[],
⟨[(6,.ptr 600006 0)],[(600006,.box 31 (.val T0_))]⟩,[],
[],
[],fun y=>(valW (.agg T0_) y,[],[])⟩
def V_9 (w_bN:List Int→Option (Int)) (N:Nat) (x:A1_×(M_)×List Int):Option A1_:=
 obind (w_bN x.2.1.2.2.2.2.2.2.1) fun b=>cnd (decide (b=(0:Int))) (some (x.1.1,x.1.2.1,x.1.2.2.1,x.1.2.2.2.1,x.1.2.2.2.2.1,(1:Int),x.2.2,x.1.2.2.2.2.2.2.2)) (some (x.1.1,x.1.2.1,x.1.2.2.1,x.1.2.2.2.1,x.1.2.2.2.2.1,b,x.2.2,x.1.2.2.2.2.2.2.2))
theorem q_9:∀w_bN N x,u_9.F L0 P0 (orcOf [u_bN.con w_bN]) N x=V_9 w_bN N x:=by intros;kernel_rfl
def W_9 (N:Nat):=V_9 (W_bN N) N
theorem con_9_ok (N:Nat):(u_9.con (W_9 N)).ok P0:=Uf.ok mixed (q_9 (W_bN N) N) ⟨con_bN_ok N,trivial⟩ Tryz.func141 (by kernel_rfl) fun x y=>by kernel_rfl
def u_bo:Uf:=⟨74,83,Tryz.f74,[.val (.agg T0_),.val (.agg T_)],[],
⟨[(4,.ptr 600004 0),(5,.acc 700028)],[(600004,.box 31 (.val T0_)),(700028,.nrow 46 (.agg T_) false true)]⟩,[],
[],
[],fun y=>(.tup [valW (.agg T0_) y.1,.acc 2000000 0],[],[.nrow 46 false true ⟨(.agg T_),y.2⟩])⟩
def V_bo (w_r:A1_×M_→Option (Unit⊕(Unit⊕Unit))) (w_g:A1_×Int×Int→Option (M_)) (w_ab:List Int×Int→Option (List Int×Bool)) (w_u:A1_→Option A1_) (w_9:A1_×(M_)×List Int→Option A1_) (N:Nat) (x:A1_×M_):Option (A1_×List (M_)):=
 obind (w_r x) fun b=>selim (fun(b:PUnit)=>some (x.1,[])) (fun(c:PUnit⊕PUnit)=>selim (fun(b_1:PUnit)=>obind (w_g
 (x.1,(6:Int),x.2.2.1)) fun b_2=>selim (fun(b:PUnit)=>some (x.1,[b_2])) (fun(c:PUnit⊕PUnit)=>selim (fun(b:PUnit)=>cnd (decide
 (x.1.2.2.2.1≠(0:Int))) (some (x.1,[b_2])) (obind (w_ab (x.2.2.2.2.2.2.2.1,x.1.1)) fun b=>cnd (!b.2) (obind (w_u x.1) fun b=>
 some (b,[b_2])) (cnd (decide ((20:Int)<x.2.2.2.2.2.2.1)) (obind (w_u x.1) fun b=>some (b,[b_2])) (obind (w_9 (x.1,x.2,
 b.1)) fun b=>some ((b.1,b.2.1,b.2.2.1,x.2.2.1,x.2.2.2.2.1,b.2.2.2.2.2.1,b.2.2.2.2.2.2.1,x.2.2.2.2.2.1,wr .i64 (b.2.2.1-x.2.2.2.2.2.2.1),
 (0:Int),b.2.2.2.2.2.2.2.2.2.2.1,(0:Int),b.2.2.2.2.2.2.2.2.2.2.2.2),[]))))) (fun(c:PUnit)=>some (x.1,[b_2])) c) b) (fun(c:PUnit)=>
 obind (w_g (x.1,(6:Int),x.2.2.1)) fun b_1=>selim (fun(b:PUnit)=>some (x.1,[b_1])) (fun(c:PUnit⊕PUnit)=>selim (fun(b:
 PUnit)=>cnd (decide (x.1.2.2.2.1≠(0:Int))) (some (x.1,[b_1])) (obind (w_ab (x.2.2.2.2.2.2.2.1,x.1.1)) fun b=>cnd (!b.2) (obind
 (w_u x.1) fun b=>some (b,[b_1])) (cnd (decide ((20:Int)<x.2.2.2.2.2.2.1)) (obind (w_u x.1) fun b=>some (b,[b_1])) (obind
 (w_9 (x.1,x.2,b.1)) fun b=>some ((b.1,b.2.1,b.2.2.1,x.2.2.1,x.2.2.2.2.1,b.2.2.2.2.2.1,b.2.2.2.2.2.2.1,x.2.2.2.2.2.1,wr .i64
 (b.2.2.1-x.2.2.2.2.2.2.1),(0:Int),b.2.2.2.2.2.2.2.2.2.2.1,(0:Int),b.2.2.2.2.2.2.2.2.2.2.2.2),[]))))) (fun(c:PUnit)=>some (x.1,[b_1]))
 c) b) c) b
theorem q_bo:∀w_r w_g w_ab w_u w_9 N x,u_bo.F L0 P0 (orcOf [u_r.con w_r,u_g.con w_g,u_ab.con w_ab,u_u.con w_u,u_9.con w_9]) N x=V_bo w_r w_g w_ab w_u w_9 N x:=by intros;kernel_rfl
def W_bo (N:Nat):=V_bo (W_r N) (W_g N) (W_ab N) (W_u N) (W_9 N) N
theorem con_bo_ok (N:Nat):(u_bo.con (W_bo N)).ok P0:=Uf.ok mixed (q_bo (W_r N) (W_g N) (W_ab N) (W_u N) (W_9 N) N) ⟨con_r_ok N,con_g_ok N,con_ab_ok N,con_u_ok N,con_9_ok N,trivial⟩ Tryz.func74 (by kernel_rfl) fun x y=>by kernel_rfl
def u_bp:Uf:=⟨75,30,Tryz.f75,[.val (.agg T0_),.val (.agg T_)],[],
⟨[(4,.ptr 600004 0)],[(600004,.box 31 (.val T0_))]⟩,[],
[],
[],fun y=>(valW (.agg T0_) y,[],[])⟩
def V_bp (w_r:A1_×M_→Option (Unit⊕(Unit⊕Unit))) (w_u:A1_→Option A1_) (w_q:A1_×Int→Option A1_) (N:Nat) (x:A1_×M_):Option A1_:=
 obind (w_r x) fun b=>selim (fun(b_1:PUnit)=>selim (fun(b:PUnit)=>obind (w_q (x.1,(0:Int))) fun b=>some b) (fun(c:
 PUnit⊕PUnit)=>selim (fun(b:PUnit)=>some x.1) (fun(c:PUnit)=>some x.1) c) b) (fun(c:PUnit⊕PUnit)=>selim (fun(b:PUnit)=>
 obind (w_u x.1) fun b=>some b) (fun(c:PUnit)=>selim (fun(b:PUnit)=>obind (w_q (x.1,(0:Int))) fun b=>some b) (fun
 (c:PUnit⊕PUnit)=>selim (fun(b:PUnit)=>some x.1) (fun(c:PUnit)=>some x.1) c) b) c) b
theorem q_bp:∀w_r w_u w_q N x,u_bp.F L0 P0 (orcOf [u_r.con w_r,u_u.con w_u,u_q.con w_q]) N x=V_bp w_r w_u w_q N x:=by intros;kernel_rfl
def W_bp (N:Nat):=V_bp (W_r N) (W_u N) (W_q N) N
theorem con_bp_ok (N:Nat):(u_bp.con (W_bp N)).ok P0:=Uf.ok mixed (q_bp (W_r N) (W_u N) (W_q N) N) ⟨con_r_ok N,con_u_ok N,con_q_ok N,trivial⟩ Tryz.func75 (by kernel_rfl) fun x y=>by kernel_rfl
def u_bq:Uf:=⟨76,39,Tryz.f76,[.val (.agg T0_),.val (.agg T_)],[],
⟨[(4,.ptr 600004 0),(5,.acc 700023)],[(600004,.box 31 (.val T0_)),(700023,.nrow 46 (.agg T_) false true)]⟩,[],
[],
[],fun y=>(.tup [valW (.agg T0_) y.1,.acc 2000000 0],[],[.nrow 46 false true ⟨(.agg T_),y.2⟩])⟩
def V_bq (w_o:List (Int×Int×Int)×Int→Option (Bool×Int×Int×Int)) (w_g:A1_×Int×Int→Option (M_)) (w_M:List (Int×Int×Int)×Int×Int×Int→Option (List (Int×Int×Int)×Bool)) (N:Nat) (x:A1_×M_):Option (A1_×List (M_)):=
 obind (w_o (x.1.2.2.2.2.2.2.2.2.2.2.2.2,x.2.2.1)) fun b=>cnd (!b.1) (obind (w_g (x.1,(3:Int),x.2.2.1)) fun b=>some (x.1,
 [b])) (obind (w_M (x.1.2.2.2.2.2.2.2.2.2.2.2.2,x.2.2.1,x.2.2.2.2.1,x.1.2.2.1)) fun b=>some ((x.1.1,x.1.2.1,x.1.2.2.1,x.1.2.2.2.1,
 x.1.2.2.2.2.1,x.1.2.2.2.2.2.1,x.1.2.2.2.2.2.2.1,x.1.2.2.2.2.2.2.2.1,x.1.2.2.2.2.2.2.2.2.1,x.1.2.2.2.2.2.2.2.2.2.1,x.1.2.2.2.2.2.2.2.2.2.2.1,
 x.1.2.2.2.2.2.2.2.2.2.2.2.1,b.1),[]))
theorem q_bq:∀w_o w_g w_M N x,u_bq.F L0 P0 (orcOf [u_o.con w_o,u_g.con w_g,u_M.con w_M]) N x=V_bq w_o w_g w_M N x:=by intros;kernel_rfl
def W_bq (N:Nat):=V_bq (W_o N) (W_g N) (W_M N) N
theorem con_bq_ok (N:Nat):(u_bq.con (W_bq N)).ok P0:=Uf.ok mixed (q_bq (W_o N) (W_g N) (W_M N) N) ⟨con_o_ok N,con_g_ok N,con_M_ok N,trivial⟩ Tryz.func76 (by kernel_rfl) fun x y=>by kernel_rfl
def u_bm:Uf:=⟨77,60,Tryz.f77,[.val (.agg T0_),.val (.agg T_)],[],
⟨[(4,.ptr 600004 0),(5,.acc 700016)],[(600004,.box 31 (.val T0_)),(700016,.nrow 46 (.agg T_) false true)]⟩,[],
[],
[],fun y=>(.tup [valW (.agg T0_) y.1,.acc 2000000 0],[],[.nrow 46 false true ⟨(.agg T_),y.2⟩])⟩
def V_bm (w_g:A1_×Int×Int→Option (M_)) (w_r:A1_×M_→Option (Unit⊕(Unit⊕Unit))) (w_ab:List Int×Int→Option (List Int×Bool)) (w_q:A1_×Int→Option A1_) (w_9:A1_×(M_)×List Int→Option A1_) (N:Nat) (x:A1_×M_):Option (A1_×List (M_)):=
 obind (w_g (x.1,(6:Int),x.2.2.1)) fun b=>obind (w_r x) fun b_1=>selim (fun(b_2:PUnit)=>obind (w_ab
 (x.2.2.2.2.2.2.2.1,x.1.1)) fun b_3=>cnd (!b_3.2) (obind (w_q (x.1,(1:Int))) fun b_4=>some (b_4,[b])) (obind (w_9 (x.1,
 x.2,b_3.1)) fun b=>cnd (decide (b.2.2.2.2.2.2.2.2.1<wr .i64 (b.2.2.1-x.2.2.2.2.2.2.1))) (some ((b.1,b.2.1,b.2.2.1,b.2.2.2.1,b.2.2.2.2.1,
 b.2.2.2.2.2.1,b.2.2.2.2.2.2.1,x.2.2.2.2.2.1,wr .i64 (b.2.2.1-x.2.2.2.2.2.2.1),b.2.2.2.2.2.2.2.2.2),[])) (some (b,[])))) (fun(c:PUnit ⊕
 PUnit)=>selim (fun(b_2:PUnit)=>some (x.1,[b])) (fun(c:PUnit)=>some (x.1,[b])) c) b_1
theorem q_bm:∀w_g w_r w_ab w_q w_9 N x,u_bm.F L0 P0 (orcOf [u_g.con w_g,u_r.con w_r,u_ab.con w_ab,u_q.con w_q,u_9.con w_9]) N x=V_bm w_g w_r w_ab w_q w_9 N x:=by intros;kernel_rfl
def W_bm (N:Nat):=V_bm (W_g N) (W_r N) (W_ab N) (W_q N) (W_9 N) N
theorem con_bm_ok (N:Nat):(u_bm.con (W_bm N)).ok P0:=Uf.ok mixed (q_bm (W_g N) (W_r N) (W_ab N) (W_q N) (W_9 N) N) ⟨con_g_ok N,con_r_ok N,con_ab_ok N,con_q_ok N,con_9_ok N,trivial⟩ Tryz.func77 (by kernel_rfl) fun x y=>by kernel_rfl
def u_ag:Uf:=⟨143,8,Tryz.f143,[.val T3_,.ptr 0 0],[.box 3 (.int .i64)],
⟨[(1,.ptr 1000000 0),(3,.val .bool)],[(1000000,.box 3 (.val (.int .i64)))]⟩,[true],
[],
[],fun y=>(valW .bool y.1,[.box 3 (cellsW (.int .i64) y.2)],[])⟩
def V_ag (N:Nat) (x:(Int×Int×Int)×Int):Option (Bool×Int):=
 some (decide (x.1.1=x.2),x.2)
theorem q_ag:∀N x,u_ag.F L0 P0 (orcOf []) N x=V_ag N x:=by intros;kernel_rfl
def W_ag (N:Nat):=V_ag N
theorem con_ag_ok (N:Nat):(u_ag.con (W_ag N)).ok P0:=Uf.ok mixed (q_ag N) trivial Tryz.func143 (by kernel_rfl) fun x y=>by kernel_rfl
def u_bA:Uf:=⟨174,19,Tryz.f174,[.val (.list T3_),.fn 143 [0]],[.box 3 (.int .i64)],
⟨[(1,.fn 143 [1000000]),(4,.val (.int .i64))],[(1000000,.box 3 (.val (.int .i64)))]⟩,[true],
[(2,.loop [] ⟨[(1,.fn 143 [1000000]),(8,.val (.int .i64))],[(1000000,.box 3 (.val (.int .i64)))]⟩ [(.exit 0,⟨[(1,.fn 143 [1000000])],[(1000000,.box 3 (.val (.int .i64)))]⟩),(.ret,⟨[(1,.fn 143 [1000000]),(4,.val (.int .i64))],[(1000000,.box 3 (.val (.int .i64)))]⟩)])],
[],fun y=>(valW (.int .i64) y.1,[.box 3 (cellsW (.int .i64) y.2)],[])⟩
def V_bA (w_ag:(Int×Int×Int)×Int→Option (Bool×Int)) (N:Nat) (x:List (Int×Int×Int)×Int):Option (Int×Int):=
 obind (loopN N (fun(v:Int×Int)=>cnd (decide (v.1<(↑(List.length x.1):Int))) (cnd (decide ((0:Int)≤v.1)&&decide (v.1<(↑(List.length
 x.1):Int))) (obind (w_ag ((Prod.fst (List.getD x.1 (Int.toNat v.1) ((0:Int),(0:Int),(0:Int))),Prod.fst (Prod.snd (List.getD x.1
 (Int.toNat v.1) ((0:Int),(0:Int),(0:Int)))),Prod.snd (Prod.snd (List.getD x.1 (Int.toNat v.1) ((0:Int),(0:Int),(0:Int))))),v.2)) fun b=>cnd
 b.1 (some (Sum.inr (Sum.inr (v.1,b.2)))) (some (Sum.inl (wr .i64 (v.1+(1:Int)),b.2)))) none) (some (Sum.inr (Sum.inl v.2)))) ((0:Int),x.2)) fun
 (b:Int⊕Int×Int)=>selim (fun(b:Int)=>some ((-1:Int),b)) (fun(c:Int×Int)=>some c) b
theorem q_bA:∀w_ag N x,u_bA.F L0 P0 (orcOf [u_ag.con w_ag]) N x=V_bA w_ag N x:=by intros;kernel_rfl
def W_bA (N:Nat):=V_bA (W_ag N) N
theorem con_bA_ok (N:Nat):(u_bA.con (W_bA N)).ok P0:=Uf.ok mixed (q_bA (W_ag N) N) ⟨con_ag_ok N,trivial⟩ Tryz.func174 (by kernel_rfl) fun x y=>by kernel_rfl
def u_by:Uf:=⟨142,42,Tryz.f142,[.acc 0,.fn 143 [1]],[.nrow 53 T3_ true,.box 3 (.int .i64)],
⟨[(1,.fn 143 [1000001]),(4,.val (.list T3_))],[(1000001,.box 3 (.val (.int .i64)))]⟩,[false,true],
[(5,.loop [] ⟨[(0,.acc 1000000),(1,.fn 143 [1000001]),(5,.val (.int .i64)),(6,.val (.int .i64))],[(1000000,.nrow 53 T3_ false true),(1000001,.box 3 (.val (.int .i64)))]⟩ [(.exit 0,⟨[(0,.acc 1000000),(1,.fn 143 [1000001]),(5,.val (.int .i64))],[(1000000,.nrow 53 T3_ false true),(1000001,.box 3 (.val (.int .i64)))]⟩)])],
[],fun y=>(valW (.list T3_) y.1,[.dead,.box 3 (cellsW (.int .i64) y.2)],[])⟩
def V_by (w_bA:List (Int×Int×Int)×Int→Option (Int×Int)) (w_ag:(Int×Int×Int)×Int→Option (Bool×Int)) (N:Nat) (x:List (Int×Int×Int)×Int):Option (List (Int×Int×Int)×Int):=
 obind (w_bA x) fun b=>cnd (decide (b.1=(-1:Int))) (some (x.1,b.2)) (obind (loopN N (fun(v:Int×Int×List (Int×Int×Int)×Int)=>cnd (decide (v.2.1<(↑(List.length v.2.2.1):Int))) (cnd (decide ((0:Int)≤v.2.1)&&decide (v.2.1 <
 (↑(List.length v.2.2.1):Int))) (obind (w_ag ((Prod.fst (List.getD v.2.2.1 (Int.toNat v.2.1) ((0:Int),(0:Int),(0:Int))),Prod.fst
 (Prod.snd (List.getD v.2.2.1 (Int.toNat v.2.1) ((0:Int),(0:Int),(0:Int)))),Prod.snd (Prod.snd (List.getD v.2.2.1 (Int.toNat v.2.1) ((0:Int),
 (0:Int),(0:Int))))),v.2.2.2)) fun b=>cnd (!b.1) (cnd (decide ((0:Int)≤v.1)&&decide (v.1<(↑(List.length v.2.2.1):Int))) (some (Sum.inl
 (wr .i64 (v.1+(1:Int)),wr .i64 (v.2.1+(1:Int)),putL v.2.2.1 [(Prod.fst (List.getD v.2.2.1 (Int.toNat v.2.1) ((0:Int),(0:Int),(0:Int))),
 Prod.fst (Prod.snd (List.getD v.2.2.1 (Int.toNat v.2.1) ((0:Int),(0:Int),(0:Int)))),Prod.snd (Prod.snd (List.getD v.2.2.1 (Int.toNat v.2.1)
 ((0:Int),(0:Int),(0:Int)))))] (Int.toNat v.1),b.2))) none) (some (Sum.inl (v.1,wr .i64 (v.2.1+(1:Int)),v.2.2.1,b.2)))) none) (some (Sum.inr
 (v.1,v.2.2)))) (b.1,wr .i64 (b.1+(1:Int)),x.1,b.2)) fun(b:Int×List (Int×Int×Int)×Int)=>cnd (decide ((0:Int)≤Option.getD (some
 b.1) (0:Int))) (cnd (decide (Option.getD (some b.1) (0:Int)≤(↑(List.length b.2.1):Int))) (cnd (decide (Option.getD none (0:Int)≤b.1)) (cnd
 (decide ((↑(0:Nat):Int)+b.1≤(↑(List.length (putL b.2.1 (List.replicate (Prod.snd (Prod.snd (cutT (0:Nat) (List.length b.2.1) (List.length
 b.2.1) (some b.1) none))-Prod.fst (Prod.snd (cutT (0:Nat) (List.length b.2.1) (List.length b.2.1) (some b.1) none))) ((0:Int),(0:Int),(0:Int)))
 ((0:Nat)+Prod.fst (Prod.snd (cutT (0:Nat) (List.length b.2.1) (List.length b.2.1) (some b.1) none))))):Int))) (some (List.drop ((0:Nat) +
 Prod.fst (Prod.snd (cutT (0:Nat) (List.length (putL b.2.1 (List.replicate (Prod.snd (Prod.snd (cutT (0:Nat) (List.length b.2.1) (List.length b.2.1)
 (some b.1) none))-Prod.fst (Prod.snd (cutT (0:Nat) (List.length b.2.1) (List.length b.2.1) (some b.1) none))) ((0:Int),(0:Int),(0:Int)))
 ((0:Nat)+Prod.fst (Prod.snd (cutT (0:Nat) (List.length b.2.1) (List.length b.2.1) (some b.1) none))))) (List.length (putL b.2.1 (List.replicate
 (Prod.snd (Prod.snd (cutT (0:Nat) (List.length b.2.1) (List.length b.2.1) (some b.1) none))-Prod.fst (Prod.snd (cutT (0:Nat) (List.length b.2.1)
 (List.length b.2.1) (some b.1) none))) ((0:Int),(0:Int),(0:Int))) ((0:Nat)+Prod.fst (Prod.snd (cutT (0:Nat) (List.length b.2.1) (List.length
 b.2.1) (some b.1) none))))) none (some b.1)))) (List.take ((0:Nat)+Prod.fst (Prod.snd (cutT (0:Nat) (List.length (putL b.2.1 (List.replicate
 (Prod.snd (Prod.snd (cutT (0:Nat) (List.length b.2.1) (List.length b.2.1) (some b.1) none))-Prod.fst (Prod.snd (cutT (0:Nat) (List.length b.2.1)
 (List.length b.2.1) (some b.1) none))) ((0:Int),(0:Int),(0:Int))) ((0:Nat)+Prod.fst (Prod.snd (cutT (0:Nat) (List.length b.2.1) (List.length
 b.2.1) (some b.1) none))))) (List.length (putL b.2.1 (List.replicate (Prod.snd (Prod.snd (cutT (0:Nat) (List.length b.2.1) (List.length b.2.1) (some
 b.1) none))-Prod.fst (Prod.snd (cutT (0:Nat) (List.length b.2.1) (List.length b.2.1) (some b.1) none))) ((0:Int),(0:Int),(0:Int))) ((0:Nat) +
 Prod.fst (Prod.snd (cutT (0:Nat) (List.length b.2.1) (List.length b.2.1) (some b.1) none))))) none (some b.1)))+(Prod.snd (Prod.snd (cutT (0:Nat)
 (List.length (putL b.2.1 (List.replicate (Prod.snd (Prod.snd (cutT (0:Nat) (List.length b.2.1) (List.length b.2.1) (some b.1) none))-Prod.fst
 (Prod.snd (cutT (0:Nat) (List.length b.2.1) (List.length b.2.1) (some b.1) none))) ((0:Int),(0:Int),(0:Int))) ((0:Nat)+Prod.fst (Prod.snd (cutT
 (0:Nat) (List.length b.2.1) (List.length b.2.1) (some b.1) none))))) (List.length (putL b.2.1 (List.replicate (Prod.snd (Prod.snd (cutT (0:Nat)
 (List.length b.2.1) (List.length b.2.1) (some b.1) none))-Prod.fst (Prod.snd (cutT (0:Nat) (List.length b.2.1) (List.length b.2.1) (some b.1)
 none))) ((0:Int),(0:Int),(0:Int))) ((0:Nat)+Prod.fst (Prod.snd (cutT (0:Nat) (List.length b.2.1) (List.length b.2.1) (some b.1) none))))) none
 (some b.1)))-Prod.fst (Prod.snd (cutT (0:Nat) (List.length (putL b.2.1 (List.replicate (Prod.snd (Prod.snd (cutT (0:Nat) (List.length b.2.1)
 (List.length b.2.1) (some b.1) none))-Prod.fst (Prod.snd (cutT (0:Nat) (List.length b.2.1) (List.length b.2.1) (some b.1) none))) ((0:Int),
 (0:Int),(0:Int))) ((0:Nat)+Prod.fst (Prod.snd (cutT (0:Nat) (List.length b.2.1) (List.length b.2.1) (some b.1) none))))) (List.length (putL b.2.1
 (List.replicate (Prod.snd (Prod.snd (cutT (0:Nat) (List.length b.2.1) (List.length b.2.1) (some b.1) none))-Prod.fst (Prod.snd (cutT (0:Nat)
 (List.length b.2.1) (List.length b.2.1) (some b.1) none))) ((0:Int),(0:Int),(0:Int))) ((0:Nat)+Prod.fst (Prod.snd (cutT (0:Nat) (List.length
 b.2.1) (List.length b.2.1) (some b.1) none))))) none (some b.1))))) (putL b.2.1 (List.replicate (Prod.snd (Prod.snd (cutT (0:Nat) (List.length
 b.2.1) (List.length b.2.1) (some b.1) none))-Prod.fst (Prod.snd (cutT (0:Nat) (List.length b.2.1) (List.length b.2.1) (some b.1) none))) ((0:Int),
 (0:Int),(0:Int))) ((0:Nat)+Prod.fst (Prod.snd (cutT (0:Nat) (List.length b.2.1) (List.length b.2.1) (some b.1) none))))),b.2.2)) none) none)
 none) none)
theorem q_by:∀w_bA w_ag N x,u_by.F L0 P0 (orcOf [u_bA.con w_bA,u_ag.con w_ag]) N x=V_by w_bA w_ag N x:=by intros;kernel_rfl
def W_by (N:Nat):=V_by (W_bA N) (W_ag N) N
theorem con_by_ok (N:Nat):(u_by.con (W_by N)).ok P0:=Uf.ok mixed (q_by (W_bA N) (W_ag N) N) ⟨con_bA_ok N,con_ag_ok N,trivial⟩ Tryz.func142 (by kernel_rfl) fun x y=>by kernel_rfl
def u_br:Uf:=⟨78,9,Tryz.f78,[.val (.list T3_),.val (.int .i64)],[],
⟨[(4,.val (.list T3_))],[]⟩,[],
[],
[],fun y=>(valW (.list T3_) y,[],[])⟩
def V_br (w_e:List (Int×Int×Int)→Option (List (Int×Int×Int))) (w_by:List (Int×Int×Int)×Int→Option (List (Int×Int×Int)×Int)) (N:Nat) (x:List (Int×Int×Int)×Int):Option (List (Int×Int×Int)):=
 obind (w_e x.1) fun b=>obind (w_by (b,x.2)) fun b=>some b.1
theorem q_br:∀w_e w_by N x,u_br.F L0 P0 (orcOf [conw_e w_e,u_by.con w_by]) N x=V_br w_e w_by N x:=by intros;kernel_rfl
def W_br (N:Nat):=V_br (W_e N) (W_by N) N
theorem con_br_ok (N:Nat):(u_br.con (W_br N)).ok P0:=Uf.ok mixed (q_br (W_e N) (W_by N) N) ⟨con_e_ok N,con_by_ok N,trivial⟩ Tryz.func78 (by kernel_rfl) fun x y=>by kernel_rfl
def u_bS:Uf:=⟨38,93,Tryz.f38,[.val (.agg T0_),.val (.agg T_),.val (.int .i64)],[],
⟨[(6,.ptr 600006 0),(7,.acc 700083)],[(600006,.box 31 (.val T0_)),(700083,.nrow 46 (.agg T_) false true)]⟩,[],
[],
[(7,.cut [] [(.normal,⟨[(4,.ptr 600004 0),(6,.ptr 600006 0),(8,.ptr 600008 0)],[(600004,.box 46 (.val T_)),(600006,.box 31 (.val T0_)),(600008,.box 31 (.val T0_))]⟩)])],fun y=>(.tup [valW (.agg T0_) y.1,.acc 2000000 0],[],[.nrow 46 false true ⟨(.agg T_),y.2⟩])⟩
def V_bS (w_v:A1_→Option A1_) (w_r:A1_×M_→Option (Unit⊕(Unit⊕Unit))) (w_N:List (Int×Int×Int)×Int×Int→Option (Bool)) (w_q:A1_×Int→Option A1_) (w_bn:A1_×(M_)×Int→Option (A1_×List (M_))) (w_bo:A1_×M_→Option (A1_×List (M_))) (w_bp:A1_×M_→Option A1_) (w_bq:A1_×M_→Option (A1_×List (M_))) (w_bm:A1_×M_→Option (A1_×List (M_))) (w_br:List (Int×Int×Int)×Int→Option (List (Int×Int×Int))) (N:Nat) (x:A1_×(M_)×Int):Option (A1_×List (M_)):=
 obind (w_v x.1) fun b=>obind (w_r (b,x.2.1)) fun b_1=>selim (fun(b_2:PUnit)=>obind (w_N (b.2.2.2.2.2.2.2.2.2.2.2.2,
 x.2.1.2.1,x.2.1.2.2.2.1)) fun b_3=>cnd b_3 (some (b,[])) (cnd (decide (x.2.1.2.2.2.1<b.2.2.2.2.1)) (some (b,[])) (obind (cnd (decide
 (b.2.2.2.2.1<x.2.1.2.2.2.1)) (obind (w_q (b,(0:Int))) fun b=>some (x.2.1,((0:Int),(0:Int),(0:Int),(0:Int),(0:Int),(0:Int),[],
 (0:Int),(0:Int),(0:Int),(0:Int),(0:Int),[]),b)) (some (x.2.1,((0:Int),(0:Int),(0:Int),(0:Int),(0:Int),(0:Int),[],(0:Int),(0:Int),
 (0:Int),(0:Int),(0:Int),[]),b))) fun(b:A2_×A1_×A1_)=>cnd (decide (b.1.1=(1:Int))) (obind (w_bn (b.2.2,b.1,x.2.2)) fun b=>some b) (cnd (decide (b.1.1=
 (2:Int))) (obind (w_bo (b.2.2,b.1)) fun b=>some b) (cnd (decide (b.1.1=(3:Int))) (obind (w_bp (b.2.2,b.1)) fun b=>some
 (b,[])) (cnd (decide (b.1.1=(4:Int))) (obind (w_bq (b.2.2,b.1)) fun b=>some b) (cnd (decide (b.1.1=(5:Int))) (obind (w_bm (b.2.2,b.1)) fun b=>some b) (cnd (decide (b.1.1=(6:Int))) (obind (w_br (b.2.2.2.2.2.2.2.2.2.2.2.2.2.2,b.1.2.1)) fun b_4=>some
 ((b.2.2.1,b.2.2.2.1,b.2.2.2.2.1,b.2.2.2.2.2.1,b.2.2.2.2.2.2.1,b.2.2.2.2.2.2.2.1,b.2.2.2.2.2.2.2.2.1,b.2.2.2.2.2.2.2.2.2.1,
 b.2.2.2.2.2.2.2.2.2.2.1,b.2.2.2.2.2.2.2.2.2.2.2.1,b.2.2.2.2.2.2.2.2.2.2.2.2.1,b.2.2.2.2.2.2.2.2.2.2.2.2.2.1,b_4),[])) (some (b.2.2,
 [])))))))))) (fun(c:PUnit⊕PUnit)=>selim (fun(b_2:PUnit)=>obind (w_N (b.2.2.2.2.2.2.2.2.2.2.2.2,x.2.1.2.1,x.2.1.2.2.2.1)) fun
 b_3=>cnd b_3 (some (b,[])) (cnd (decide (x.2.1.1=(1:Int))) (obind (w_bn (b,x.2)) fun b=>some b) (cnd (decide (x.2.1.1=(2:Int)))
 (obind (w_bo (b,x.2.1)) fun b=>some b) (cnd (decide (x.2.1.1=(3:Int))) (obind (w_bp (b,x.2.1)) fun b=>some (b,[])) (cnd
 (decide (x.2.1.1=(4:Int))) (obind (w_bq (b,x.2.1)) fun b=>some b) (cnd (decide (x.2.1.1=(5:Int))) (obind (w_bm (b,
 x.2.1)) fun b=>some b) (cnd (decide (x.2.1.1=(6:Int))) (obind (w_br (b.2.2.2.2.2.2.2.2.2.2.2.2,x.2.1.2.1)) fun b_4=>some ((b.1,
 b.2.1,b.2.2.1,b.2.2.2.1,b.2.2.2.2.1,b.2.2.2.2.2.1,b.2.2.2.2.2.2.1,b.2.2.2.2.2.2.2.1,b.2.2.2.2.2.2.2.2.1,b.2.2.2.2.2.2.2.2.2.1,
 b.2.2.2.2.2.2.2.2.2.2.1,b.2.2.2.2.2.2.2.2.2.2.2.1,b_4),[])) (some (b,[]))))))))) (fun(c:PUnit)=>obind (w_N
 (b.2.2.2.2.2.2.2.2.2.2.2.2,x.2.1.2.1,x.2.1.2.2.2.1)) fun b_2=>cnd b_2 (some (b,[])) (cnd (decide (x.2.1.1=(1:Int))) (obind (w_bn
 (b,x.2)) fun b=>some b) (cnd (decide (x.2.1.1=(2:Int))) (obind (w_bo (b,x.2.1)) fun b=>some b) (cnd (decide (x.2.1.1=(3:Int)))
 (obind (w_bp (b,x.2.1)) fun b=>some (b,[])) (cnd (decide (x.2.1.1=(4:Int))) (obind (w_bq (b,x.2.1)) fun b=>some b) (cnd
 (decide (x.2.1.1=(5:Int))) (obind (w_bm (b,x.2.1)) fun b=>some b) (cnd (decide (x.2.1.1=(6:Int))) (obind (w_br
 (b.2.2.2.2.2.2.2.2.2.2.2.2,x.2.1.2.1)) fun b_3=>some ((b.1,b.2.1,b.2.2.1,b.2.2.2.1,b.2.2.2.2.1,b.2.2.2.2.2.1,b.2.2.2.2.2.2.1,
 b.2.2.2.2.2.2.2.1,b.2.2.2.2.2.2.2.2.1,b.2.2.2.2.2.2.2.2.2.1,b.2.2.2.2.2.2.2.2.2.2.1,b.2.2.2.2.2.2.2.2.2.2.2.1,b_3),[])) (some (b,[])))))))))
 c) b_1
theorem q_bS:∀w_v w_r w_N w_q w_bn w_bo w_bp w_bq w_bm w_br N x,u_bS.F L0 P0 (orcOf [u_v.con w_v,u_r.con w_r,u_N.con w_N,u_q.con w_q,u_bn.con w_bn,u_bo.con w_bo,u_bp.con w_bp,u_bq.con w_bq,u_bm.con w_bm,u_br.con w_br]) N x=V_bS w_v w_r w_N w_q w_bn w_bo w_bp w_bq w_bm w_br N x:=by intros;kernel_rfl
def W_bS (N:Nat):=V_bS (W_v N) (W_r N) (W_N N) (W_q N) (W_bn N) (W_bo N) (W_bp N) (W_bq N) (W_bm N) (W_br N) N
theorem con_bS_ok (N:Nat):(u_bS.con (W_bS N)).ok P0:=Uf.ok mixed (q_bS (W_v N) (W_r N) (W_N N) (W_q N) (W_bn N) (W_bo N) (W_bp N) (W_bq N) (W_bm N) (W_br N) N) ⟨con_v_ok N,con_r_ok N,con_N_ok N,con_q_ok N,con_bn_ok N,con_bo_ok N,con_bp_ok N,con_bq_ok N,con_bm_ok N,con_br_ok N,trivial⟩ Tryz.func38 (by kernel_rfl) fun x y=>by kernel_rfl
def u_bQ:Uf:=⟨175,23,Tryz.f175,[.val (.list T5_),.val (.int .i64)],[],
⟨[(4,.val (.alt 224 .str (.alt1 239 (.agg .unit))))],[]⟩,[],
[(2,.loop [7] ⟨[(9,.val (.int .i64))],[]⟩ [(.exit 0,⟨[],[]⟩),(.ret,⟨[(4,.val (.alt 224 .str (.alt1 239 (.agg .unit))))],[]⟩)])],
[],fun y=>(valW (.alt 224 .str (.alt1 239 (.agg .unit))) y,[],[])⟩
def V_bQ (N:Nat) (x:List (Int×List UInt8)×Int):Option ((List UInt8)⊕Unit):=
 obind (loopN N (fun(v:Int)=>cnd (decide (v<(↑(List.length x.1):Int))) (cnd (decide ((0:Int)≤v)&&decide (v<(↑(List.length x.1):Int)))
 (cnd (decide (Prod.fst (List.getD x.1 (Int.toNat v) ((0:Int),[]))=x.2)) (some (Sum.inr (Sum.inr (Sum.inl (Prod.snd (List.getD x.1 (Int.toNat v)
 ((0:Int),[]))))))) (some (Sum.inl (wr .i64 (v+(1:Int)))))) none) (some (Sum.inr (Sum.inl ())))) (Int.ofNat (0:Nat))) fun(b:PUnit⊕List UInt8
 ⊕ PUnit)=>selim (fun(b:PUnit)=>some (Sum.inr ())) (fun(c:List UInt8⊕PUnit)=>some c) b
theorem q_bQ:∀N x,u_bQ.F L0 P0 (orcOf []) N x=V_bQ N x:=by intros;kernel_rfl
def W_bQ (N:Nat):=V_bQ N
theorem con_bQ_ok (N:Nat):(u_bQ.con (W_bQ N)).ok P0:=Uf.ok mixed (q_bQ N) trivial Tryz.func175 (by kernel_rfl) fun x y=>by kernel_rfl
def u_b1:Uf:=⟨145,17,Tryz.f145,[.val (.list T5_),.val (.int .i64)],[],
⟨[(4,.val .str),(5,.val .bool)],[]⟩,[],
[],
[],fun y=>(.tup [valW .str y.1,valW .bool y.2],[],[])⟩
def V_b1 (w_bQ:List (Int×List UInt8)×Int→Option ((List UInt8)⊕Unit)) (N:Nat) (x:List (Int×List UInt8)×Int):Option (List UInt8×Bool):=
 obind (w_bQ x) fun b=>selim (fun(b:List UInt8)=>some (b,true)) (fun(c:PUnit)=>some ([],false)) b
theorem q_b1:∀w_bQ N x,u_b1.F L0 P0 (orcOf [u_bQ.con w_bQ]) N x=V_b1 w_bQ N x:=by intros;kernel_rfl
def W_b1 (N:Nat):=V_b1 (W_bQ N) N
theorem con_b1_ok (N:Nat):(u_b1.con (W_b1 N)).ok P0:=Uf.ok mixed (q_b1 (W_bQ N) N) ⟨con_bQ_ok N,trivial⟩ Tryz.func145 (by kernel_rfl) fun x y=>by kernel_rfl
def u_bJ:Uf:=⟨80,70,Tryz.f80,[.val (.agg T1_),.val (.int .i64),.val (.int .i64)],[],
⟨[(6,.val (.list T5_)),(7,.val (.list (.agg T6_)))],[]⟩,[],
[(4,.loop [] ⟨[(3,.ptr 600003 0),(6,.acc 700006),(7,.acc 700007),(8,.val (.int .i64))],[(600003,.box 37 (.val T1_)),(700006,.nrow 69 T5_ true true),(700007,.nrow 101 (.agg T6_) false true)]⟩ [(.exit 0,⟨[(6,.val (.list T5_)),(7,.val (.list (.agg T6_)))],[]⟩)])],
[],fun y=>(.tup [valW (.list T5_) y.1,valW (.list (.agg T6_)) y.2],[],[])⟩
def V_bJ (w_b1:List (Int×List UInt8)×Int→Option (List UInt8×Bool)) (N:Nat) (x:A0_×Int×Int):Option (List (Int×List UInt8)×List (Int×Int)):=
 cnd (decide (x.1.1<(1:Int))) (some ([],[])) (obind (loopN N (fun(v:Int×A0_×List (Int×List UInt8)×List (Int×Int))=>cnd (decide (v.1≤min (min x.2.2 (wr .i64
 (v.2.1.1-(1:Int)))) (wr .i64 (wr .i64 (x.2.1+(8:Int))-(1:Int))))) (obind (w_b1 (v.2.1.2.2.1,v.1)) fun b=>cnd b.2 (cnd (decide
 ((List.length v.2.2.1+List.length [(v.1,b.1)])*(24:Nat)≤(140737488355328:Nat))) (some (Sum.inl (wr .i64 (v.1+(1:Int)),v.2.1,v.2.2.1++
 [(v.1,b.1)],v.2.2.2))) none) (cnd (decide ((0:Int)≤wr .i64 ((↑(List.length v.2.2.2):Int)-(1:Int)))) (cnd (decide ((0:Int)≤wr .i64
 ((↑(List.length v.2.2.2):Int)-(1:Int)))&&decide (wr .i64 ((↑(List.length v.2.2.2):Int)-(1:Int))<(↑(List.length v.2.2.2):Int))) (cnd
 (decide (Prod.snd (List.getD v.2.2.2 (Int.toNat (wr .i64 ((↑(List.length v.2.2.2):Int)-(1:Int)))) ((0:Int),(0:Int)))=wr .i64 (v.1 -
 (1:Int)))) (cnd (decide ((0:Int)≤wr .i64 ((↑(List.length v.2.2.2):Int)-(1:Int)))&&decide (wr .i64 ((↑(List.length v.2.2.2):Int)-(1:Int))
 < (↑(List.length v.2.2.2):Int))) (some (Sum.inl (wr .i64 (v.1+(1:Int)),v.2.1,v.2.2.1,putL v.2.2.2 [(Prod.fst (List.getD v.2.2.2 (Int.toNat
 (wr .i64 ((↑(List.length v.2.2.2):Int)-(1:Int)))) ((0:Int),(0:Int))),v.1)] (Int.toNat (wr .i64 ((↑(List.length v.2.2.2):Int)-(1:Int)))))))
 none) (cnd (decide ((List.length v.2.2.2+List.length [(v.1,v.1)])*(16:Nat)≤(140737488355328:Nat))) (some (Sum.inl (wr .i64 (v.1+(1:Int)),
 v.2.1,v.2.2.1,v.2.2.2++[(v.1,v.1)]))) none)) none) (cnd (decide ((List.length v.2.2.2+List.length [(v.1,v.1)])*(16:Nat) ≤
 (140737488355328:Nat))) (some (Sum.inl (wr .i64 (v.1+(1:Int)),v.2.1,v.2.2.1,v.2.2.2++[(v.1,v.1)]))) none))) (some (Sum.inr v.2.2))) (x.2.1,
 x.1,[],[])) fun(b:List (Int×List UInt8)×List (Int×Int))=>some b)
theorem q_bJ:∀w_b1 N x,u_bJ.F L0 P0 (orcOf [u_b1.con w_b1]) N x=V_bJ w_b1 N x:=by intros;kernel_rfl
def W_bJ (N:Nat):=V_bJ (W_b1 N) N
theorem con_bJ_ok (N:Nat):(u_bJ.con (W_bJ N)).ok P0:=Uf.ok mixed (q_bJ (W_b1 N) N) ⟨con_b1_ok N,trivial⟩ Tryz.func80 (by kernel_rfl) fun x y=>by kernel_rfl
def u_bI:Uf:=⟨39,79,Tryz.f39,[.val (.agg T2_),.val (.agg T_)],[],
⟨[(4,.val (.list (.agg T_)))],[]⟩,[],
[(7,.loop [9,42] ⟨[(2,.ptr 600002 0),(3,.ptr 600003 0),(7,.acc 700007),(44,.val (.int .i64))],[(600002,.box 39 (.val T2_)),(600003,.box 46 (.val T_)),(700007,.nrow 46 (.agg T_) true true)]⟩ [(.exit 0,⟨[(2,.ptr 600002 0),(3,.ptr 600003 0),(7,.acc 700007)],[(600002,.box 39 (.val T2_)),(600003,.box 46 (.val T_)),(700007,.nrow 46 (.agg T_) true true)]⟩)]),
(12,.loop [60] ⟨[(2,.ptr 600002 0),(3,.ptr 600003 0),(7,.acc 700007),(62,.val (.int .i64))],[(600002,.box 39 (.val T2_)),(600003,.box 46 (.val T_)),(700007,.nrow 46 (.agg T_) true true)]⟩ [(.exit 2,⟨[(7,.val (.list (.agg T_)))],[]⟩)])],
[],fun y=>(valW (.list (.agg T_)) y,[],[])⟩
def V_bI (w_o:List (Int×Int×Int)×Int→Option (Bool×Int×Int×Int)) (w_bJ:A0_×Int×Int→Option (List (Int×List UInt8)×List (Int×Int))) (w_ac:A3_×Int×Int×List UInt8→Option (M_)) (w_ad:A3_×Int×Int×Int→Option (M_)) (N:Nat) (x:A3_×M_):Option (List (M_)):=
 obind (w_o (x.1.2.2.2.1.2.2.2.2.2.2.2.2.2.2.2.2,x.2.2.1)) fun b=>cnd (!b.1) (some []) (cnd (decide (b.2.2.1≠x.2.2.2.2.1)) (some [])
 (obind (w_bJ (x.1.2.2.2.2.1,x.2.2.2.2.2.2.2.2.1,x.2.2.2.2.2.2.2.2.2.1)) fun b=>obind (loopN N (fun(v:Int×A3_×A2_×List A2_)=>cnd (decide (v.1<(↑(List.length b.1):Int)))
 (cnd (decide ((0:Int)≤v.1)&&decide (v.1<(↑(List.length b.1):Int))) (obind (w_ac (v.2.1,v.2.2.1.2.1,Prod.fst (List.getD b.1
 (Int.toNat v.1) ((0:Int),[])),Prod.snd (List.getD b.1 (Int.toNat v.1) ((0:Int),[])))) fun b=>cnd (decide ((List.length v.2.2.2+List.length
 [b])*(104:Nat)≤(140737488355328:Nat))) (some (Sum.inl (wr .i64 (v.1+(1:Int)),v.2.1,v.2.2.1,v.2.2.2++[b]))) none) none) (some (Sum.inr
 v.2))) ((0:Int),x.1,x.2,[])) fun(b_1:A3_×A2_×List A2_)=>obind (loopN N (fun(v:Int×A3_×A2_×List A2_)=>cnd (decide (v.1<(↑(List.length b.2):Int))) (cnd (decide ((0:Int)≤v.1)&&decide (v.1<(↑(List.length b.2):Int)))
 (obind (w_ad (v.2.1,v.2.2.1.2.1,Prod.fst (List.getD b.2 (Int.toNat v.1) ((0:Int),(0:Int))),Prod.snd (List.getD b.2 (Int.toNat v.1)
 ((0:Int),(0:Int))))) fun b=>cnd (decide ((List.length v.2.2.2+List.length [b])*(104:Nat)≤(140737488355328:Nat))) (some (Sum.inl (wr .i64
 (v.1+(1:Int)),v.2.1,v.2.2.1,v.2.2.2++[b]))) none) none) (some (Sum.inr v.2.2.2))) ((0:Int),b_1)) fun(b:List A2_)=>some b))
theorem q_bI:∀w_o w_bJ w_ac w_ad N x,u_bI.F L0 P0 (orcOf [u_o.con w_o,u_bJ.con w_bJ,u_ac.con w_ac,u_ad.con w_ad]) N x=V_bI w_o w_bJ w_ac w_ad N x:=by intros;kernel_rfl
def W_bI (N:Nat):=V_bI (W_o N) (W_bJ N) (W_ac N) (W_ad N) N
theorem con_bI_ok (N:Nat):(u_bI.con (W_bI N)).ok P0:=Uf.ok mixed (q_bI (W_o N) (W_bJ N) (W_ac N) (W_ad N) N) ⟨con_o_ok N,con_bJ_ok N,con_ac_ok N,con_ad_ok N,trivial⟩ Tryz.func39 (by kernel_rfl) fun x y=>by kernel_rfl
def u_n:Uf:=⟨83,27,Tryz.f83,[.val (.agg T1_),.val (.int .i64)],[],
⟨[(4,.ptr 600004 0)],[(600004,.box 37 (.val T1_))]⟩,[],
[],
[],fun y=>(valW (.agg T1_) y,[],[])⟩
def V_n (w_a:A0_→Option A0_) (w_k:A0_→Option (Int⊕Unit)) (N:Nat) (x:A0_×Int):Option A0_:=
 obind (w_a x.1) fun b=>obind (w_k x.1) fun b_1=>selim (fun(b_2:Int)=>cnd (decide (x.2≤(1000000:Int))) (some (b.1,max b.2.1 x.2,b.2.2)) (some b)) (fun(c:PUnit)=>some b) b_1
theorem q_n:∀w_a w_k N x,u_n.F L0 P0 (orcOf [u_a.con w_a,u_k.con w_k]) N x=V_n w_a w_k N x:=by intros;kernel_rfl
def W_n (N:Nat):=V_n (W_a N) (W_k N) N
theorem con_n_ok (N:Nat):(u_n.con (W_n N)).ok P0:=Uf.ok mixed (q_n (W_a N) (W_k N) N) ⟨con_a_ok N,con_k_ok N,trivial⟩ Tryz.func83 (by kernel_rfl) fun x y=>by kernel_rfl
def u_bG:Uf:=⟨84,30,Tryz.f84,[.val (.agg T1_),.val (.int .i64)],[],
⟨[(4,.ptr 600004 0)],[(600004,.box 37 (.val T1_))]⟩,[],
[],
[],fun y=>(valW (.agg T1_) y,[],[])⟩
def V_bG (w_k:A0_→Option (Int⊕Unit)) (w_n:A0_×Int→Option A0_) (w_a:A0_→Option A0_) (N:Nat) (x:A0_×Int):Option A0_:=
 obind (w_k x.1) fun b=>selim (fun(b:Int)=>obind (w_n (x.1,wr .i64 (x.2-(1:Int)))) fun b=>some b) (fun(c:PUnit)=>obind (w_a x.1) fun b=>cnd (decide ((1:Int)≤x.2)) (cnd (decide (x.2≤(1000000:Int))) (some (x.2,b.2)) (some b)) (some b)) b
theorem q_bG:∀w_k w_n w_a N x,u_bG.F L0 P0 (orcOf [u_k.con w_k,u_n.con w_n,u_a.con w_a]) N x=V_bG w_k w_n w_a N x:=by intros;kernel_rfl
def W_bG (N:Nat):=V_bG (W_k N) (W_n N) (W_a N) N
theorem con_bG_ok (N:Nat):(u_bG.con (W_bG N)).ok P0:=Uf.ok mixed (q_bG (W_k N) (W_n N) (W_a N) N) ⟨con_k_ok N,con_n_ok N,con_a_ok N,trivial⟩ Tryz.func84 (by kernel_rfl) fun x y=>by kernel_rfl
def u_bR:Uf:=⟨176,32,Tryz.f176,[.val (.list T5_),.val (.int .i64)],[],
⟨[(4,.val (.alt 228 (.agg (.int .i64)) (.alt1 240 (.agg .unit))))],[]⟩,[],
[(2,.loop [7] ⟨[(9,.val (.int .i64))],[]⟩ [(.exit 0,⟨[],[]⟩),(.ret,⟨[(4,.val (.alt 228 (.agg (.int .i64)) (.alt1 240 (.agg .unit))))],[]⟩)])],
[],fun y=>(valW (.alt 228 (.agg (.int .i64)) (.alt1 240 (.agg .unit))) y,[],[])⟩
def V_bR (N:Nat) (x:List (Int×List UInt8)×Int):Option (Int⊕Unit):=
 obind (loopN N (fun(v:Int)=>cnd (decide (v<(↑(List.length x.1):Int))) (cnd (decide ((0:Int)≤v)&&decide (v<(↑(List.length x.1):Int)))
 (cnd (decide (Prod.fst (List.getD x.1 (Int.toNat v) ((0:Int),[]))=x.2)) (some (Sum.inr (Sum.inr (Sum.inr ())))) (cnd (decide (x.2<Prod.fst
 (List.getD x.1 (Int.toNat v) ((0:Int),[])))) (some (Sum.inr (Sum.inr (Sum.inl v)))) (some (Sum.inl (wr .i64 (v+(1:Int))))))) none) (some (Sum.inr
 (Sum.inl ())))) (Int.ofNat (0:Nat))) fun(b:PUnit⊕Int⊕PUnit)=>selim (fun(b:PUnit)=>some (Sum.inl (↑(List.length x.1):Int))) (fun(c:
 Int⊕PUnit)=>some c) b
theorem q_bR:∀N x,u_bR.F L0 P0 (orcOf []) N x=V_bR N x:=by intros;kernel_rfl
def W_bR (N:Nat):=V_bR N
theorem con_bR_ok (N:Nat):(u_bR.con (W_bR N)).ok P0:=Uf.ok mixed (q_bR N) trivial Tryz.func176 (by kernel_rfl) fun x y=>by kernel_rfl
def as_aA:List AS:=[.acc 0,.val (.int .i64),.val (.list T5_)]
def bs_aA:List BS:=[.nrow 69 T5_ true]
def out_aA (y:List (Int×List UInt8)):V×List OK×List OK:=(.acc 2000000 0,[.dead],[.nrow 69 false true ⟨T5_,y⟩])
def W_aA (N:Nat) (x:Int×List (Int×List UInt8)×List (Int×List UInt8)):Option (List (Int×List UInt8)):=
  cnd (decide ((0:Int)≤x.1)&&decide (x.1≤((↑(List.length x.2.2):Int):Int))&&decide (List.length x.2.1=(1:Nat))&&decide ((List.length x.2.2+(1:Nat))*(24:Nat)≤(140737488355328:Nat))) (some (List.take (Int.toNat x.1) x.2.2++(x.2.1++List.drop (Int.toNat x.1) x.2.2))) none
def conw_aA (w:Int×List (Int×List UInt8)×List (Int×List UInt8)→Option (List (Int×List UInt8))):Con:=⟨177,as_aA,bs_aA,List (Int×List UInt8),w,out_aA⟩
def con_aA (N:Nat):Con:=conw_aA (W_aA N)
theorem con_aA_ok (N:Nat):Con.ok P0 (con_aA N):=⟨⟨Tryz.f177,Tryz.func177,by kernel_rfl,by kernel_rfl⟩,fun(x:Int×List (Int×List UInt8)×List (Int×List UInt8)) (r:List (Int×List UInt8)) (hr:W_aA N x=some r)=>by
  obtain⟨i,s,l⟩:=x
  exact ins_con (e:=T5_) (t:=32) (ty:=69) (bytes:=24) (nl:=true) (l:=l) (r:=s) (q:=r) (i:=i) insN177 insP177 rfl (by decide) (by decide) (by decide) hr⟩
def u_bw:Uf:=⟨146,43,Tryz.f146,[.val (.list T5_),.val (.int .i64),.val T5_],[],
⟨[(6,.val (.list T5_)),(7,.val .bool)],[]⟩,[],
[],
[(1000003,.reg [(8,[],⟨[(5,.ptr 600005 0),(8,.acc 700042),(9,.ptr 600009 0),(28,.val .bool)],[(600005,.box 69 (.val (.pair (.int .i64) .str))),(700042,.nrow 69 T5_ false true),(600009,.box 228 (.val (.int .i64)))]⟩)])],fun y=>(.tup [valW (.list T5_) y.1,valW .bool y.2],[],[])⟩
def V_bw (w_c:List (Int×List UInt8)→Option (List (Int×List UInt8))) (w_bR:List (Int×List UInt8)×Int→Option (Int⊕Unit)) (w_aA:Int×List (Int×List UInt8)×List (Int×List UInt8)→Option (List (Int×List UInt8))) (N:Nat) (x:List (Int×List UInt8)×Int×Int×List UInt8):Option (List (Int×List UInt8)×Bool):=
 obind (w_c x.1) fun b=>obind (w_bR (x.1,x.2.2.1)) fun b_1=>selim (fun(b_2:Int)=>cnd (decide (x.2.2.1 <
 x.2.1)) (some (b,false)) (cnd (decide (wr .i64 (x.2.1+(8:Int))≤x.2.2.1)) (some (b,false)) (obind (w_aA (b_2,[x.2.2],
 b)) fun b=>some (b,true)))) (fun(c:PUnit)=>cnd true (some (b,false)) (cnd (decide (wr .i64 (x.2.1+(8:Int))≤x.2.2.1)) (some (b,false))
 (obind (w_aA ((0:Int),[x.2.2],b)) fun b=>some (b,true)))) b_1
theorem q_bw:∀w_c w_bR w_aA N x,u_bw.F L0 P0 (orcOf [conw_c w_c,u_bR.con w_bR,conw_aA w_aA]) N x=V_bw w_c w_bR w_aA N x:=by intros;kernel_rfl
def W_bw (N:Nat):=V_bw (W_c N) (W_bR N) (W_aA N) N
theorem con_bw_ok (N:Nat):(u_bw.con (W_bw N)).ok P0:=Uf.ok mixed (q_bw (W_c N) (W_bR N) (W_aA N) N) ⟨con_c_ok N,con_bR_ok N,con_aA_ok N,trivial⟩ Tryz.func146 (by kernel_rfl) fun x y=>by kernel_rfl
def u_b4:Uf:=⟨154,27,Tryz.f154,[.val (.list T5_),.val (.int .i64)],[],
⟨[(4,.val (.list T5_)),(5,.ptr 600005 0),(6,.val .bool)],[(600005,.box 69 (.val (.pair (.int .i64) .str)))]⟩,[],
[],
[],fun y=>(.tup [valW (.list T5_) y.1,valW T5_ y.2.2,valW .bool y.2.1],[],[])⟩
def V_b4 (w_c:List (Int×List UInt8)→Option (List (Int×List UInt8))) (N:Nat) (x:List (Int×List UInt8)×Int):Option (List (Int×List UInt8)×Bool×Int×List UInt8):=
 cnd (decide ((↑(List.length x.1):Int)=(0:Int))) (obind (w_c x.1) fun b=>some (b,false,(0:Int),[])) (cnd (decide
 ((0:Int)≤(0:Int))&&decide ((0:Int)<(↑(List.length x.1):Int))) (cnd (decide (Prod.fst (List.getD x.1 (0:Nat) ((0:Int),[]))≠x.2)) (obind
 (w_c x.1) fun b=>some (b,false,(0:Int),[])) (cnd (decide ((0:Int)≤(1:Int))&&decide ((1:Int)≤(↑(List.length x.1):
 Int))) (obind (w_c (List.drop (1:Nat) (List.take (List.length x.1) x.1))) fun b=>cnd (decide ((0:Int)≤(0:Int))&&decide
 ((0:Int)<(↑(List.length x.1):Int))) (some (b,true,Prod.fst (List.getD x.1 (0:Nat) ((0:Int),[])),Prod.snd (List.getD x.1 (0:Nat) ((0:Int),
 [])))) none) none)) none)
theorem q_b4:∀w_c N x,u_b4.F L0 P0 (orcOf [conw_c w_c]) N x=V_b4 w_c N x:=by intros;kernel_rfl
def W_b4 (N:Nat):=V_b4 (W_c N) N
theorem con_b4_ok (N:Nat):(u_b4.con (W_b4 N)).ok P0:=Uf.ok mixed (q_b4 (W_c N) N) ⟨con_c_ok N,trivial⟩ Tryz.func154 (by kernel_rfl) fun x y=>by kernel_rfl
def u_ah:Uf:=⟨153,2,Tryz.f153,[],[],
⟨[(0,.ptr 600000 0)],[(600000,.box 35 (.val T6_))]⟩,[],
[],
[],fun y=>(valW (.agg T6_) y,[],[])⟩
def V_ah (N:Nat) (x:Unit):Option (Int×Int):=
 some ((0:Int),(0:Int))
theorem q_ah:∀N x,u_ah.F L0 P0 (orcOf []) N x=V_ah N x:=by intros;kernel_rfl
def W_ah (N:Nat):=V_ah N
theorem con_ah_ok (N:Nat):(u_ah.con (W_ah N)).ok P0:=Uf.ok mixed (q_ah N) trivial Tryz.func153 (by kernel_rfl) fun x y=>by kernel_rfl
def u_p:Uf:=⟨102,52,Tryz.f102,[.val (.agg T1_)],[],
⟨[(2,.ptr 600002 0),(3,.val (.list T5_))],[(600002,.box 37 (.val T1_))]⟩,[],
[(3,.loop [] ⟨[(2,.ptr 600002 0),(4,.ptr 600004 0),(5,.acc 700005)],[(600002,.box 37 (.val T1_)),(600004,.box 37 (.val T1_)),(700005,.nrow 69 T5_ true true)]⟩ [(.exit 0,⟨[(2,.ptr 600002 0),(4,.ptr 600004 0),(5,.val (.list T5_))],[(600002,.box 37 (.val T1_)),(600004,.box 37 (.val T1_))]⟩)])],
[],fun y=>(.tup [valW (.agg T1_) y.2,valW (.list T5_) y.1],[],[])⟩
def V_p (w_a:A0_→Option A0_) (w_b4:List (Int×List UInt8)×Int→Option (List (Int×List UInt8)×Bool×Int×List UInt8)) (w_aj:List A4_×Int×List UInt8→Option (List A4_)) (w_ak:List (Int×List UInt8)×Int×List UInt8→Option (List (Int×List UInt8))) (w_ah:Unit→Option (Int×Int)) (N:Nat) (x:A0_):Option A5_:=
 obind (w_a x) fun b=>obind (loopN N (fun(v:A0_×A0_×List (Int×List UInt8))=>obind (w_b4 (v.2.1.2.2.2.1,v.2.1.1)) fun b=>cnd (!b.2.1) (some (Sum.inr (v.2.2,v.1,v.2.1))) (obind
 (w_aj (v.2.1.2.2.2.2.1,b.2.2)) fun b_1=>obind (w_ak (v.2.1.2.2.1,b.2.2)) fun b_2=>cnd (decide ((List.length v.2.2 +
 List.length [b.2.2])*(24:Nat)≤(140737488355328:Nat))) (some (Sum.inl (v.1,(wr .i64 (v.2.1.1+(1:Int)),v.2.1.2.1,b_2,b.1,b_1,
 v.2.1.2.2.2.2.2),v.2.2++[b.2.2]))) none)) (((0:Int),(0:Int),[],[],[],(0:Int),(0:Int)),b,[])) fun(b:List (Int×List UInt8)×A0_×A0_)=>cnd (decide ((0:Int)<(↑(List.length b.1):Int)))
 (obind (w_ah ()) fun b_1=>some (b.1,b.2.2.1,b.2.2.2.1,b.2.2.2.2.1,b.2.2.2.2.2.1,b.2.2.2.2.2.2.1,b_1)) (some (b.1,b.2.2))
theorem q_p:∀w_a w_b4 w_aj w_ak w_ah N x,u_p.F L0 P0 (orcOf [u_a.con w_a,u_b4.con w_b4,u_aj.con w_aj,u_ak.con w_ak,u_ah.con w_ah]) N x=V_p w_a w_b4 w_aj w_ak w_ah N x:=by intros;kernel_rfl
def W_p (N:Nat):=V_p (W_a N) (W_b4 N) (W_aj N) (W_ak N) (W_ah N) N
theorem con_p_ok (N:Nat):(u_p.con (W_p N)).ok P0:=Uf.ok mixed (q_p (W_a N) (W_b4 N) (W_aj N) (W_ak N) (W_ah N) N) ⟨con_a_ok N,con_b4_ok N,con_aj_ok N,con_ak_ok N,con_ah_ok N,trivial⟩ Tryz.func102 (by kernel_rfl) fun x y=>by kernel_rfl
def u_bt:Uf:=⟨85,54,Tryz.f85,[.val (.agg T1_),.val T5_],[],
⟨[(4,.ptr 600004 0)],[(600004,.box 37 (.val T1_))]⟩,[],
[],
[(1000002,.reg [(7,[],⟨[(2,.ptr 600002 0),(3,.ptr 600003 0),(4,.ptr 600004 0),(20,.val .bool)],[(600002,.box 37 (.val T1_)),(600003,.box 69 (.val (.pair (.int .i64) .str))),(600004,.box 37 (.val T1_))]⟩),(5,[],⟨[(2,.ptr 600002 0),(3,.ptr 600003 0),(4,.ptr 600004 0),(25,.val .bool)],[(600002,.box 37 (.val T1_)),(600003,.box 69 (.val (.pair (.int .i64) .str))),(600004,.box 37 (.val T1_))]⟩)])],fun y=>(valW (.agg T1_) y,[],[])⟩
def V_bt (w_k:A0_→Option (Int⊕Unit)) (w_a:A0_→Option A0_) (w_n:A0_×Int→Option A0_) (w_bw:List (Int×List UInt8)×Int×Int×List UInt8→Option (List (Int×List UInt8)×Bool)) (w_p:A0_→Option A5_) (N:Nat) (x:A0_×Int×List UInt8):Option A0_:=
 obind (w_k x.1) fun b=>selim (fun(b:Int)=>obind (cnd (decide (x.2.1<(1:Int))) (some (true,x.1,x.2,(0:Int),(0:Int),[],[],[],
 (0:Int),(0:Int))) (some (decide ((1000000:Int)<x.2.1),x.1,x.2,(0:Int),(0:Int),[],[],[],(0:Int),(0:Int)))) fun(b:Bool×A0_×(Int×List UInt8)×A0_)=>cnd b.1 (obind (w_a b.2.1) fun b
 => some b) (cnd (decide ((12:Int)<(↑(List.length b.2.2.1.2):Int))) (obind (w_a b.2.1) fun b=>some b) (obind (w_n (b.2.1,
 b.2.2.1.1)) fun b_1=>obind (w_bw (b_1.2.2.2.1,b_1.1,b.2.2.1)) fun b=>obind (w_p (b_1.1,b_1.2.1,b_1.2.2.1,b.1,b_1.2.2.2.2))
 fun b=>some b.2))) (fun(c:PUnit)=>obind (cnd true (some (true,x.1,x.2,(0:Int),(0:Int),[],[],[],(0:Int),(0:Int))) (some (decide
 ((1000000:Int)<x.2.1),x.1,x.2,(0:Int),(0:Int),[],[],[],(0:Int),(0:Int)))) fun(b:Bool×A0_×(Int×List UInt8)×A0_)=>cnd b.1 (obind (w_a b.2.1) fun b=>some b) (cnd (decide ((12:Int)
 < (↑(List.length b.2.2.1.2):Int))) (obind (w_a b.2.1) fun b=>some b) (obind (w_n (b.2.1,b.2.2.1.1)) fun b_1=>obind
 (w_bw (b_1.2.2.2.1,b_1.1,b.2.2.1)) fun b=>obind (w_p (b_1.1,b_1.2.1,b_1.2.2.1,b.1,b_1.2.2.2.2)) fun b=>some b.2))) b
theorem q_bt:∀w_k w_a w_n w_bw w_p N x,u_bt.F L0 P0 (orcOf [u_k.con w_k,u_a.con w_a,u_n.con w_n,u_bw.con w_bw,u_p.con w_p]) N x=V_bt w_k w_a w_n w_bw w_p N x:=by intros;kernel_rfl
def W_bt (N:Nat):=V_bt (W_k N) (W_a N) (W_n N) (W_bw N) (W_p N) N
theorem con_bt_ok (N:Nat):(u_bt.con (W_bt N)).ok P0:=Uf.ok mixed (q_bt (W_k N) (W_a N) (W_n N) (W_bw N) (W_p N) N) ⟨con_k_ok N,con_a_ok N,con_n_ok N,con_bw_ok N,con_p_ok N,trivial⟩ Tryz.func85 (by kernel_rfl) fun x y=>by kernel_rfl
def u_bW:Uf:=⟨178,10,Tryz.f178,[.val (.list T5_)],[],
⟨[(2,.val (.int .i64))],[]⟩,[],
[],
[],fun y=>(valW (.int .i64) y,[],[])⟩
def V_bW (N:Nat) (x:List (Int×List UInt8)):Option (Int):=
 cnd (decide ((↑(List.length x):Int)=(0:Int))) (some (0:Int)) (cnd (decide ((0:Int)≤(0:Int))&&decide ((0:Int)<(↑(List.length x):Int))) (some (Prod.fst (List.getD x (0:Nat) ((0:Int),[])))) none)
theorem q_bW:∀N x,u_bW.F L0 P0 (orcOf []) N x=V_bW N x:=by intros;kernel_rfl
def W_bW (N:Nat):=V_bW N
theorem con_bW_ok (N:Nat):(u_bW.con (W_bW N)).ok P0:=Uf.ok mixed (q_bW N) trivial Tryz.func178 (by kernel_rfl) fun x y=>by kernel_rfl
def u_ai:Uf:=⟨149,19,Tryz.f149,[.val (.agg T1_)],[],
⟨[(2,.val (.alt 198 (.int .i64) (.alt1 231 (.agg .unit))))],[]⟩,[],
[],
[],fun y=>(valW (.alt 198 (.int .i64) (.alt1 231 (.agg .unit))) y,[],[])⟩
def V_ai (w_bW:List (Int×List UInt8)→Option (Int)) (N:Nat) (x:A0_):Option (Int⊕Unit):=
 obind (w_bW x.2.2.2.1) fun b=>cnd (decide (x.1≤b)) (cnd (decide ((0:Int)<b)) (some (Sum.inl b)) (some (Sum.inr ()))) (some (Sum.inr ()))
theorem q_ai:∀w_bW N x,u_ai.F L0 P0 (orcOf [u_bW.con w_bW]) N x=V_ai w_bW N x:=by intros;kernel_rfl
def W_ai (N:Nat):=V_ai (W_bW N) N
theorem con_ai_ok (N:Nat):(u_ai.con (W_ai N)).ok P0:=Uf.ok mixed (q_ai (W_bW N) N) ⟨con_bW_ok N,trivial⟩ Tryz.func149 (by kernel_rfl) fun x y=>by kernel_rfl
def u_bs:Uf:=⟨152,17,Tryz.f152,[.val (.list T4_),.val (.int .i64),.val (.int .i64),.val (.int .i64)],[],
⟨[(8,.val (.list T4_))],[]⟩,[],
[],
[],fun y=>(valW (.list T4_) y,[],[])⟩
def V_bs (w_d:List A4_→Option (List A4_)) (N:Nat) (x:List A4_×Int×Int×Int):Option (List A4_):=
 obind (w_d x.1) fun b=>cnd (decide ((List.length b+(1:Nat))*(48:Nat)≤(140737488355328:Nat))) (some (b++[((2:Int),x.2.1,x.2.2.1,[],x.2.2.2)])) none
theorem q_bs:∀w_d N x,u_bs.F L0 P0 (orcOf [conw_d w_d]) N x=V_bs w_d N x:=by intros;kernel_rfl
def W_bs (N:Nat):=V_bs (W_d N) N
theorem con_bs_ok (N:Nat):(u_bs.con (W_bs N)).ok P0:=Uf.ok mixed (q_bs (W_d N) N) ⟨con_d_ok N,trivial⟩ Tryz.func152 (by kernel_rfl) fun x y=>by kernel_rfl
def u_aa:Uf:=⟨101,66,Tryz.f101,[.val (.agg T1_),.val (.int .i64),.val (.int .i64)],[],
⟨[(6,.ptr 600006 0),(7,.val (.list (.agg T6_)))],[(600006,.box 37 (.val T1_))]⟩,[],
[(6,.loop [] ⟨[(3,.ptr 600003 0),(6,.ptr 600006 0),(8,.ptr 600008 0),(9,.ptr 600009 0),(10,.fn 151 [600008,600005,600009])],[(600003,.box 37 (.val T1_)),(600006,.box 37 (.val T1_)),(600008,.box 37 (.val T1_)),(600009,.box 132 (.acc 601009)),(601009,.nrow 101 (.agg T6_) true true),(600005,.box 3 (.val (.int .i64)))]⟩ [(.exit 0,⟨[(3,.ptr 600003 0),(6,.ptr 600006 0),(8,.ptr 600008 0),(9,.ptr 600009 0)],[(600003,.box 37 (.val T1_)),(600006,.box 37 (.val T1_)),(600008,.box 37 (.val T1_)),(600009,.box 132 (.acc 601009)),(601009,.nrow 101 (.agg T6_) true true)]⟩)])],
[(12,.cut [] [(.normal,⟨[(3,.ptr 600003 0),(6,.ptr 600006 0),(8,.ptr 600008 0),(9,.ptr 600009 0),(10,.fn 151 [600008,600005,600009])],[(600003,.box 37 (.val T1_)),(600006,.box 37 (.val T1_)),(600008,.box 37 (.val T1_)),(600009,.box 132 (.acc 601009)),(601009,.nrow 101 (.agg T6_) true true),(600005,.box 3 (.val (.int .i64)))]⟩)])],fun y=>(.tup [valW (.agg T1_) y.2,valW (.list (.agg T6_)) y.1],[],[])⟩
def V_aa (w_a:A0_→Option A0_) (w_ai:A0_→Option (Int⊕Unit)) (w_bs:List A4_×Int×Int×Int→Option (List A4_)) (w_p:A0_→Option A5_) (w_ah:Unit→Option (Int×Int)) (N:Nat) (x:A0_×Int×Int):Option (List (Int×Int)×A0_):=
 obind (w_a x.1) fun b=>cnd (decide (x.1.1<(1:Int))) (some ([],b)) (cnd (decide ((1000000:Int)<x.2.1)) (some ([],b)) (obind (loopN N
 (fun(v:A0_×A0_×A0_×List (Int×Int)×Int)=>cnd (decide (v.2.2.1.1≤x.2.1))
 (obind (w_ai v.2.2.1) fun b=>selim (fun(b:Int)=>cnd (decide (x.2.1<b)) (obind (w_bs (v.2.2.1.2.2.2.2.1,v.2.2.1.1,x.2.1,
 v.2.2.2.2)) fun b=>cnd (decide ((List.length v.2.2.2.1+List.length [(v.2.2.1.1,x.2.1)])*(16:Nat)≤(140737488355328:Nat))) (some (Sum.inl
 (v.1,v.2.1,(wr .i64 (x.2.1+(1:Int)),v.2.2.1.2.1,v.2.2.1.2.2.1,v.2.2.1.2.2.2.1,b,v.2.2.1.2.2.2.2.2),v.2.2.2.1++[(v.2.2.1.1,x.2.1)],
 v.2.2.2.2))) none) (obind (cnd (decide (v.2.2.1.1<b)) (obind (w_bs (v.2.2.1.2.2.2.2.1,v.2.2.1.1,wr .i64 (b-(1:Int)),v.2.2.2.2)) fun
 b_1=>cnd (decide ((List.length v.2.2.2.1+List.length [(v.2.2.1.1,wr .i64 (b-(1:Int)))])*(16:Nat)≤(140737488355328:Nat))) (some (v.1,
 v.2.1,(wr .i64 (wr .i64 (b-(1:Int))+(1:Int)),v.2.2.1.2.1,v.2.2.1.2.2.1,v.2.2.1.2.2.2.1,b_1,v.2.2.1.2.2.2.2.2),v.2.2.2.1++[(v.2.2.1.1,
 wr .i64 (b-(1:Int)))],v.2.2.2.2)) none) (some v)) fun(b:A0_×A0_×A0_×List (Int×Int)×Int)=>obind (w_p b.2.2.1) fun b_1=>some (Sum.inl (b.1,b.2.1,b_1.2,b.2.2.2)))) (fun(c:PUnit)=>obind (w_bs
 (v.2.2.1.2.2.2.2.1,v.2.2.1.1,x.2.1,v.2.2.2.2)) fun b=>cnd (decide ((List.length v.2.2.2.1+List.length [(v.2.2.1.1,x.2.1)])*(16:Nat) ≤
 (140737488355328:Nat))) (some (Sum.inl (v.1,v.2.1,(wr .i64 (x.2.1+(1:Int)),v.2.2.1.2.1,v.2.2.1.2.2.1,v.2.2.1.2.2.2.1,b,v.2.2.1.2.2.2.2.2),
 v.2.2.2.1++[(v.2.2.1.1,x.2.1)],v.2.2.2.2))) none) b) (some (Sum.inr (v.1,v.2.1,v.2.2.1,v.2.2.2.1)))) (x.1,((0:Int),(0:Int),[],[],[],
 (0:Int),(0:Int)),b,[],x.2.2)) fun(b:A0_×A0_×A0_×List (Int×Int))=>cnd (decide
 (b.2.2.1.1≠b.1.1)) (obind (w_ah ()) fun b_1=>some (b.2.2.2,b.2.2.1.1,b.2.2.1.2.1,b.2.2.1.2.2.1,b.2.2.1.2.2.2.1,b.2.2.1.2.2.2.2.1,
 b_1)) (some (b.2.2.2,b.2.2.1))))
theorem q_aa:∀w_a w_ai w_bs w_p w_ah N x,u_aa.F L0 P0 (orcOf [u_a.con w_a,u_ai.con w_ai,u_bs.con w_bs,u_p.con w_p,u_ah.con w_ah]) N x=V_aa w_a w_ai w_bs w_p w_ah N x:=by intros;kernel_rfl
def W_aa (N:Nat):=V_aa (W_a N) (W_ai N) (W_bs N) (W_p N) (W_ah N) N
theorem con_aa_ok (N:Nat):(u_aa.con (W_aa N)).ok P0:=Uf.ok mixed (q_aa (W_a N) (W_ai N) (W_bs N) (W_p N) (W_ah N) N) ⟨con_a_ok N,con_ai_ok N,con_bs_ok N,con_p_ok N,con_ah_ok N,trivial⟩ Tryz.func101 (by kernel_rfl) fun x y=>by kernel_rfl
def u_a1:Uf:=⟨86,59,Tryz.f86,[.val (.agg T1_),.val (.int .i64),.val (.int .i64)],[],
⟨[(6,.ptr 600006 0)],[(600006,.box 37 (.val T1_))]⟩,[],
[],
[(1000002,.reg [(6,[],⟨[(3,.ptr 600003 0),(6,.ptr 600006 0),(7,.ptr 600007 0),(21,.val .bool)],[(600003,.box 37 (.val T1_)),(600006,.box 37 (.val T1_)),(600007,.box 158 (.val (.int .i64)))]⟩),(5,[],⟨[(3,.ptr 600003 0),(6,.ptr 600006 0),(7,.ptr 600007 0),(26,.val .bool)],[(600003,.box 37 (.val T1_)),(600006,.box 37 (.val T1_)),(600007,.box 158 (.val (.int .i64)))]⟩)])],fun y=>(valW (.agg T1_) y,[],[])⟩
def V_a1 (w_k:A0_→Option (Int⊕Unit)) (w_a:A0_→Option A0_) (w_n:A0_×Int→Option A0_) (w_aa:A0_×Int×Int→Option (List (Int×Int)×A0_)) (w_p:A0_→Option A5_) (N:Nat) (x:A0_×Int×Int):Option A0_:=
 obind (w_k x.1) fun b=>selim (fun(b:Int)=>obind (cnd (decide (x.2.1<(1:Int))) (some (true,x.1,((0:Int),(0:Int),[],[],[],
 (0:Int),(0:Int)),b)) (some (decide (x.2.2<x.2.1),x.1,((0:Int),(0:Int),[],[],[],(0:Int),(0:Int)),b))) fun(b:Bool×A0_×A0_×Int)=>cnd b.1 (obind (w_a b.2.1) fun b=>some b) (cnd
 (decide ((1000000:Int)<x.2.2)) (obind (w_a b.2.1) fun b=>some b) (obind (w_n (b.2.1,x.2.2)) fun b_1=>cnd (decide
 (b.2.2.2<x.2.1)) (some b_1) (cnd (decide (x.2.2<b.2.2.2)) (some b_1) (obind (w_aa (b_1,x.2.2,(1:Int))) fun b=>obind (w_p
 b.2) fun b=>some b.2))))) (fun(c:PUnit)=>obind (cnd true (some (true,x.1,((0:Int),(0:Int),[],[],[],(0:Int),(0:Int)),(0:Int))) (some
 (decide (x.2.2<x.2.1),x.1,((0:Int),(0:Int),[],[],[],(0:Int),(0:Int)),(0:Int)))) fun(b:Bool×A0_×A0_×Int)=>cnd b.1 (obind (w_a b.2.1) fun b=>some b) (cnd (decide ((1000000:Int) <
 x.2.2)) (obind (w_a b.2.1) fun b=>some b) (obind (w_n (b.2.1,x.2.2)) fun b_1=>cnd (decide (b.2.2.2<x.2.1)) (some b_1)
 (cnd (decide (x.2.2<b.2.2.2)) (some b_1) (obind (w_aa (b_1,x.2.2,(1:Int))) fun b=>obind (w_p b.2) fun b=>some b.2))))) b
theorem q_a1:∀w_k w_a w_n w_aa w_p N x,u_a1.F L0 P0 (orcOf [u_k.con w_k,u_a.con w_a,u_n.con w_n,u_aa.con w_aa,u_p.con w_p]) N x=V_a1 w_k w_a w_n w_aa w_p N x:=by intros;kernel_rfl
def W_a1 (N:Nat):=V_a1 (W_k N) (W_a N) (W_n N) (W_aa N) (W_p N) N
theorem con_a1_ok (N:Nat):(u_a1.con (W_a1 N)).ok P0:=Uf.ok mixed (q_a1 (W_k N) (W_a N) (W_n N) (W_aa N) (W_p N) N) ⟨con_k_ok N,con_a_ok N,con_n_ok N,con_aa_ok N,con_p_ok N,trivial⟩ Tryz.func86 (by kernel_rfl) fun x y=>by kernel_rfl
def u_bT:Uf:=⟨40,81,Tryz.f40,[.val (.agg T2_),.val (.int .i64),.val (.agg T_)],[],
⟨[(6,.ptr 600006 0)],[(600006,.box 37 (.val T1_))]⟩,[],
[],
[],fun y=>(valW (.agg T1_) y,[],[])⟩
def V_bT (w_bG:A0_×Int→Option A0_) (w_n:A0_×Int→Option A0_) (w_bt:A0_×Int×List UInt8→Option A0_) (w_a1:A0_×Int×Int→Option A0_) (N:Nat) (x:A3_×Int×M_):Option A0_:=
 cnd (decide (x.1.2.2.2.1.2.2.2.1≠x.2.2.2.1)) (some x.1.2.2.2.2.1) (cnd (decide (x.2.2.1=(2:Int))) (cnd (decide (x.2.1≠x.2.2.2.1)) (obind
 (w_bG (x.1.2.2.2.2.1,x.2.2.2.2.2.2.2.2.2.1)) fun b=>obind (w_n (b,wr .i64 (x.2.2.2.2.2.2.2.2.2.1-(1:Int)))) fun b=>some
 b) (cnd (decide (x.2.2.1=(5:Int))) (obind (w_n (x.1.2.2.2.2.1,x.2.2.2.2.2.2.2.2.2.2.1)) fun b=>some b) (cnd (decide (x.2.2.1=
 (7:Int))) (cnd (decide (x.2.2.2.2.2.1=x.1.2.2.2.1.2.2.2.2.1)) (obind (w_bt (x.1.2.2.2.2.1,x.2.2.2.2.2.2.2.2.2.1,
 x.2.2.2.2.2.2.2.2.2.2.2)) fun b=>some b) (cnd (decide (x.2.2.1=(9:Int))) (cnd (decide (x.2.2.2.2.2.1=x.1.2.2.2.1.2.2.2.2.1)) (obind
 (w_a1 (x.1.2.2.2.2.1,x.2.2.2.2.2.2.2.2.2.1,x.2.2.2.2.2.2.2.2.2.2.1)) fun b=>some b) (some x.1.2.2.2.2.1)) (some x.1.2.2.2.2.1))) (cnd
 (decide (x.2.2.1=(9:Int))) (cnd (decide (x.2.2.2.2.2.1=x.1.2.2.2.1.2.2.2.2.1)) (obind (w_a1 (x.1.2.2.2.2.1,x.2.2.2.2.2.2.2.2.2.1,
 x.2.2.2.2.2.2.2.2.2.2.1)) fun b=>some b) (some x.1.2.2.2.2.1)) (some x.1.2.2.2.2.1))))) (cnd (decide (x.2.2.1=(5:Int))) (obind (w_n
 (x.1.2.2.2.2.1,x.2.2.2.2.2.2.2.2.2.2.1)) fun b=>some b) (cnd (decide (x.2.2.1=(7:Int))) (cnd (decide (x.2.2.2.2.2.1=x.1.2.2.2.1.2.2.2.2.1))
 (obind (w_bt (x.1.2.2.2.2.1,x.2.2.2.2.2.2.2.2.2.1,x.2.2.2.2.2.2.2.2.2.2.2)) fun b=>some b) (cnd (decide (x.2.2.1=(9:Int))) (cnd
 (decide (x.2.2.2.2.2.1=x.1.2.2.2.1.2.2.2.2.1)) (obind (w_a1 (x.1.2.2.2.2.1,x.2.2.2.2.2.2.2.2.2.1,x.2.2.2.2.2.2.2.2.2.2.1)) fun b=>
 some b) (some x.1.2.2.2.2.1)) (some x.1.2.2.2.2.1))) (cnd (decide (x.2.2.1=(9:Int))) (cnd (decide (x.2.2.2.2.2.1=x.1.2.2.2.1.2.2.2.2.1)) (obind
 (w_a1 (x.1.2.2.2.2.1,x.2.2.2.2.2.2.2.2.2.1,x.2.2.2.2.2.2.2.2.2.2.1)) fun b=>some b) (some x.1.2.2.2.2.1)) (some x.1.2.2.2.2.1)))))
theorem q_bT:∀w_bG w_n w_bt w_a1 N x,u_bT.F L0 P0 (orcOf [u_bG.con w_bG,u_n.con w_n,u_bt.con w_bt,u_a1.con w_a1]) N x=V_bT w_bG w_n w_bt w_a1 N x:=by intros;kernel_rfl
def W_bT (N:Nat):=V_bT (W_bG N) (W_n N) (W_bt N) (W_a1 N) N
theorem con_bT_ok (N:Nat):(u_bT.con (W_bT N)).ok P0:=Uf.ok mixed (q_bT (W_bG N) (W_n N) (W_bt N) (W_a1 N) N) ⟨con_bG_ok N,con_n_ok N,con_bt_ok N,con_a1_ok N,trivial⟩ Tryz.func40 (by kernel_rfl) fun x y=>by kernel_rfl
def u_s:Uf:=⟨17,70,Tryz.f17,[.val (.agg T2_),.val (.list (.int .u8))],[],
⟨[(4,.ptr 600004 0),(5,.val (.list (.agg T_)))],[(600004,.box 39 (.val T2_))]⟩,[],
[],
[],fun y=>(.tup [valW (.agg T2_) y.2,valW (.list (.agg T_)) y.1],[],[])⟩
def V_s (w_i:A3_→Option A3_) (w_aL:A3_×List Int→Option ((M_)⊕Unit)) (w_bS:A1_×(M_)×Int→Option (A1_×List (M_))) (w_bI:A3_×M_→Option (List (M_))) (w_bT:A3_×Int×M_→Option A0_) (w_x:A3_×A0_→Option (List (M_))) (N:Nat) (x:A3_×List Int):Option (List (M_)×A3_):=
 obind (w_i x.1) fun b=>cnd (!x.1.1) (some ([],b)) (obind (w_aL x) fun b_1=>selim (fun(b_2:A2_)=>obind (w_bS (x.1.2.2.2.1,b_2,max x.1.2.2.2.2.1.1 (1:Int))) fun b_3=>cnd (decide (b_2.1=
 (8:Int))) (obind (w_bI ((b.1,b.2.1,b.2.2.1,b_3.1,b.2.2.2.2),b_2)) fun b_4=>cnd (decide ((List.length b_3.2+List.length b_4) *
 (104:Nat)≤(140737488355328:Nat))) (some (b_3.2++b_4,b.1,b.2.1,b.2.2.1,b_3.1,b.2.2.2.2)) none) (obind (w_bT ((b.1,b.2.1,b.2.2.1,
 b_3.1,b.2.2.2.2),x.1.2.2.2.1.2.2.2.1,b_2)) fun b_4=>obind (w_x ((b.1,b.2.1,b.2.2.1,b_3.1,b_4,b.2.2.2.2.2),x.1.2.2.2.2.1))
 fun b_5=>cnd (decide ((List.length b_3.2+List.length b_5)*(104:Nat)≤(140737488355328:Nat))) (some (b_3.2++b_5,b.1,b.2.1,b.2.2.1,b_3.1,
 b_4,b.2.2.2.2.2)) none)) (fun(c:PUnit)=>cnd (decide (b.2.2.2.2.2<(1073741824:Int))) (some ([],b.1,b.2.1,b.2.2.1,b.2.2.2.1,b.2.2.2.2.1,
 wr .i64 (b.2.2.2.2.2+(1:Int)))) (some ([],b))) b_1)
theorem q_s:∀w_i w_aL w_bS w_bI w_bT w_x N x,u_s.F L0 P0 (orcOf [u_i.con w_i,u_aL.con w_aL,u_bS.con w_bS,u_bI.con w_bI,u_bT.con w_bT,u_x.con w_x]) N x=V_s w_i w_aL w_bS w_bI w_bT w_x N x:=by intros;kernel_rfl
def W_s (N:Nat):=V_s (W_i N) (W_aL N) (W_bS N) (W_bI N) (W_bT N) (W_x N) N
theorem con_s_ok (N:Nat):(u_s.con (W_s N)).ok P0:=Uf.ok mixed (q_s (W_i N) (W_aL N) (W_bS N) (W_bI N) (W_bT N) (W_x N) N) ⟨con_i_ok N,con_aL_ok N,con_bS_ok N,con_bI_ok N,con_bT_ok N,con_x_ok N,trivial⟩ Tryz.func17 (by kernel_rfl) fun x y=>by kernel_rfl
def u_bK:Uf:=⟨24,13,Tryz.f24,[.val (.agg T2_)],[],
⟨[(2,.ptr 600002 0)],[(600002,.box 39 (.val T2_))]⟩,[],
[],
[],fun y=>(valW (.agg T2_) y,[],[])⟩
def V_bK (w_i:A3_→Option A3_) (N:Nat) (x:A3_):Option A3_:=
 cnd (!x.1) (obind (w_i x) fun b=>some b) (some (false,x.2.1,[],((0:Int),(0:Int),(0:Int),(0:Int),(0:Int),(0:Int),[],(0:Int),(0:Int),(0:Int),(0:Int),(0:Int),[]),((0:Int),(0:Int),[],[],[],(0:Int),(0:Int)),x.2.2.2.2.2))
theorem q_bK:∀w_i N x,u_bK.F L0 P0 (orcOf [u_i.con w_i]) N x=V_bK w_i N x:=by intros;kernel_rfl
def W_bK (N:Nat):=V_bK (W_i N) N
theorem con_bK_ok (N:Nat):(u_bK.con (W_bK N)).ok P0:=Uf.ok mixed (q_bK (W_i N) N) ⟨con_i_ok N,trivial⟩ Tryz.func24 (by kernel_rfl) fun x y=>by kernel_rfl
def u_bl:Uf:=⟨9,85,Tryz.f9,[],[],
⟨[(0,.val .bool)],[]⟩,[],
[],
[(1000006,.reg [(5,[6,9],⟨[(1,.ptr 600001 0),(5,.ptr 600005 0),(8,.ptr 600008 0),(10,.ptr 600010 0),(40,.val .bool)],[(600001,.box 39 (.val T2_)),(600005,.box 39 (.val T2_)),(600008,.box 39 (.val T2_)),(600010,.box 39 (.val T2_))]⟩),(5,[6,9],⟨[(5,.ptr 600005 0),(8,.ptr 600008 0),(10,.ptr 600010 0),(45,.val .bool)],[(600005,.box 39 (.val T2_)),(600008,.box 39 (.val T2_)),(600010,.box 39 (.val T2_))]⟩),(4,[6,9],⟨[(5,.ptr 600005 0),(8,.ptr 600008 0),(10,.ptr 600010 0),(49,.val .bool)],[(600005,.box 39 (.val T2_)),(600008,.box 39 (.val T2_)),(600010,.box 39 (.val T2_))]⟩),(3,[6,9],⟨[(5,.ptr 600005 0),(8,.ptr 600008 0),(10,.ptr 600010 0),(52,.val .bool)],[(600005,.box 39 (.val T2_)),(600008,.box 39 (.val T2_)),(600010,.box 39 (.val T2_))]⟩),(5,[9],⟨[(5,.ptr 600005 0),(8,.ptr 600008 0),(10,.ptr 600010 0),(57,.val .bool)],[(600005,.box 39 (.val T2_)),(600008,.box 39 (.val T2_)),(600010,.box 39 (.val T2_))]⟩),(7,[9],⟨[(8,.ptr 600008 0),(10,.ptr 600010 0),(64,.val .bool)],[(600008,.box 39 (.val T2_)),(600010,.box 39 (.val T2_))]⟩),(5,[9],⟨[(10,.ptr 600010 0),(69,.val .bool)],[(600010,.box 39 (.val T2_))]⟩),(5,[],⟨[(10,.ptr 600010 0),(74,.val .bool)],[(600010,.box 39 (.val T2_))]⟩),(5,[],⟨[(10,.ptr 600010 0),(79,.val .bool)],[(600010,.box 39 (.val T2_))]⟩)])],fun y=>(valW .bool y,[],[])⟩
def V_bl (w_bu:A3_×Int×List UInt8×Int→Option (Bool×A3_)) (w_b2:A3_×List UInt8→Option (List (M_)×Bool×A3_)) (w_s:A3_×List Int→Option (List (M_)×A3_)) (w_bK:A3_→Option A3_) (N:Nat) (x:Unit):Option (Bool):=
 obind (w_bu ((false,(0:Int),[],((0:Int),(0:Int),(0:Int),(0:Int),(0:Int),(0:Int),[],(0:Int),(0:Int),(0:Int),(0:Int),(0:Int),
 []),((0:Int),(0:Int),[],[],[],(0:Int),(0:Int)),(0:Int)),(1:Int),[(97:UInt8)],(0:Int))) fun b=>obind (w_bu (b.2,(1:Int),
 [(97:UInt8)],(0:Int))) fun b_1=>obind (w_b2 (b.2,[(120:UInt8)])) fun b_2=>obind (w_s (b.2,[(121:Int)])) fun b_3=>
 obind (w_bK b.2) fun b_4=>obind (cnd b.1 (some (b.2.1,b.2,b_2.2.2,b_3.2,b_4)) (some (false,b.2,b_2.2.2,b_3.2,b_4))) fun(b:
 Bool×A3_×A3_×A3_×A3_)=>obind (cnd b.1 (some (decide (b.2.1.2.1=(1:Int)),b.2.2)) (some (false,b.2.2))) fun(b:Bool×A3_×A3_×A3_)=>obind (cnd b.1 (some (!b_1.1,b.2)) (some (false,b.2))) fun(b:Bool×A3_×A3_×A3_)=>obind (cnd b.1 (some
 (b_2.2.1,b.2)) (some (false,b.2))) fun(b:Bool×A3_×A3_×A3_)=>obind (cnd b.1 (some (decide ((↑(List.length b_2.1):
 Int)=(0:Int)),b.2)) (some (false,b.2))) fun(b:Bool×A3_×A3_×A3_)=>obind (cnd b.1 (some (decide
 ((↑(List.length b.2.1.2.2.2.2.1.2.2.2.2.1):Int)=(1:Int)),b.2.2)) (some (false,b.2.2))) fun(b:Bool×A3_×A3_)=>obind (cnd b.1 (some (decide (b.2.1.2.2.2.2.2=(1:Int)),b.2.2)) (some (false,b.2.2))) fun(b:Bool×A3_)=>obind (cnd b.1 (some (decide
 ((↑(List.length b_3.1):Int)=(0:Int)),b.2)) (some (false,b.2))) fun(b:Bool×A3_)=>obind (cnd b.1 (some (!b.2.1,b.2)) (some (false,b.2))) fun(b:Bool×A3_)=>cnd b.1 (some (decide (b.2.2.1=(1:Int)))) (some false)
theorem q_bl:∀w_bu w_b2 w_s w_bK N x,u_bl.F L0 P0 (orcOf [u_bu.con w_bu,u_b2.con w_b2,u_s.con w_s,u_bK.con w_bK]) N x=V_bl w_bu w_b2 w_s w_bK N x:=by intros;kernel_rfl
def W_bl (N:Nat):=V_bl (W_bu N) (W_b2 N) (W_s N) (W_bK N) N
theorem con_bl_ok (N:Nat):(u_bl.con (W_bl N)).ok P0:=Uf.ok mixed (q_bl (W_bu N) (W_b2 N) (W_s N) (W_bK N) N) ⟨con_bu_ok N,con_b2_ok N,con_s_ok N,con_bK_ok N,trivial⟩ Tryz.func9 (by kernel_rfl) fun x y=>by kernel_rfl
def u_5:Uf:=⟨10,6,Tryz.f10,[.val (.list (.int .u8))],[],
⟨[(2,.ptr 600005 0)],[(600005,.box 72 (.val T7_))]⟩,[],
[],
[],fun y=>(.ptr 2000000 0 0,[],[.box 72 (cellsW T7_ y)])⟩
def V_5 (N:Nat) (x:List Int):Option (List Int×Int):=
 some (x,(0:Int))
theorem q_5:∀N x,u_5.F L0 P0 (orcOf []) N x=V_5 N x:=by intros;kernel_rfl
def W_5 (N:Nat):=V_5 N
theorem con_5_ok (N:Nat):(u_5.con (W_5 N)).ok P0:=Uf.ok mixed (q_5 N) trivial Tryz.func10 (by kernel_rfl) fun x y=>by kernel_rfl
def u_b:Uf:=⟨25,40,Tryz.f25,[.ptr 0 0,.val (.int .i64)],[.box 72 T7_],
⟨[(0,.ptr 1000000 0),(4,.val (.int .i64))],[(1000000,.box 72 (.val T7_))]⟩,[true],
[],
[],fun y=>(valW (.int .i64) y.1,[.box 72 (cellsW T7_ y.2)],[])⟩
def V_b (N:Nat) (x:Int×List Int×Int):Option (Int×List Int×Int):=
 cnd (decide ((↑(List.length x.2.1):Int)≤x.2.2)) (some ((0:Int),x.2)) (cnd (decide (x.1<(1:Int))) (some ((0:Int),x.2)) (cnd (decide ((0:Int) ≤
 wr .i64 (wr .i64 (x.2.2+(1:Int))-(1:Int)))&&decide (wr .i64 (wr .i64 (x.2.2+(1:Int))-(1:Int))<(↑(List.length x.2.1):Int))) (cnd
 (!decide (x.1=(0:Int))) (some (Int.tmod (wr .i64 (List.getD x.2.1 (Int.toNat (wr .i64 (wr .i64 (x.2.2+(1:Int))-(1:Int)))) (0:Int))) x.1,
 x.2.1,wr .i64 (x.2.2+(1:Int)))) none) none))
theorem q_b:∀N x,u_b.F L0 P0 (orcOf []) N x=V_b N x:=by intros;kernel_rfl
def W_b (N:Nat):=V_b N
theorem con_b_ok (N:Nat):(u_b.con (W_b N)).ok P0:=Uf.ok mixed (q_b N) trivial Tryz.func25 (by kernel_rfl) fun x y=>by kernel_rfl
def u_bF:Uf:=⟨112,86,Tryz.f112,[.val .str],[],
⟨[(2,.val (.int .i64)),(3,.val (.int .i64))],[]⟩,[],
[(15,.loop [] ⟨[(4,.val (.int .i64)),(7,.val (.int .i64))],[]⟩ [(.exit 1,⟨[(4,.val (.int .i64))],[]⟩),(.ret,⟨[(2,.val (.int .i64)),(3,.val (.int .i64))],[]⟩)])],
[(1000020,.reg [(7,[],⟨[(75,.val .bool)],[]⟩)]),
(12,.cut [] [(.normal,⟨[(4,.val (.int .i64)),(5,.val (.int .i64)),(6,.val (.int .i64))],[]⟩),(.ret,⟨[(2,.val (.int .i64)),(3,.val (.int .i64))],[]⟩)])],fun y=>(.tup [valW (.int .i64) y.1,valW (.int .i64) y.2],[],[])⟩
def V_bF (N:Nat) (x:List UInt8):Option (Int×Int):=
 cnd (decide ((0:Int)≤(0:Int))&&decide ((0:Int)<(↑(List.length x):Int))) (obind (cnd (decide (wr .i64 (↑(UInt8.toNat (List.getD x (0:Nat) (0:
 UInt8))):Int)<(128:Int))) (some (Sum.inr (wr .i64 (↑(UInt8.toNat (List.getD x (0:Nat) (0:UInt8))):Int),(1:Int)))) (cnd (decide ((194:Int) ≤
 wr .i64 (↑(UInt8.toNat (List.getD x (0:Nat) (0:UInt8))):Int))) (cnd (decide (wr .i64 (↑(UInt8.toNat (List.getD x (0:Nat) (0:UInt8))):Int) ≤
 (223:Int))) (some (Sum.inl (wr .i64 (wr .i64 (↑(UInt8.toNat (List.getD x (0:Nat) (0:UInt8))):Int)-(192:Int)),(2:Int),(128:Int)))) (cnd
 (decide ((224:Int)≤wr .i64 (↑(UInt8.toNat (List.getD x (0:Nat) (0:UInt8))):Int))) (cnd (decide (wr .i64 (↑(UInt8.toNat (List.getD x (0:Nat) (0
 : UInt8))):Int)≤(239:Int))) (some (Sum.inl (wr .i64 (wr .i64 (↑(UInt8.toNat (List.getD x (0:Nat) (0:UInt8))):Int)-(224:Int)),(3:Int),
 (2048:Int)))) (cnd (decide ((240:Int)≤wr .i64 (↑(UInt8.toNat (List.getD x (0:Nat) (0:UInt8))):Int))) (cnd (decide (wr .i64 (↑(UInt8.toNat
 (List.getD x (0:Nat) (0:UInt8))):Int)≤(244:Int))) (some (Sum.inl (wr .i64 (wr .i64 (↑(UInt8.toNat (List.getD x (0:Nat) (0:UInt8))):Int) -
 (240:Int)),(4:Int),(65536:Int)))) (some (Sum.inr ((-1:Int),(1:Int))))) (some (Sum.inr ((-1:Int),(1:Int)))))) (cnd (decide ((240:Int)≤wr
 .i64 (↑(UInt8.toNat (List.getD x (0:Nat) (0:UInt8))):Int))) (cnd (decide (wr .i64 (↑(UInt8.toNat (List.getD x (0:Nat) (0:UInt8))):Int) ≤
 (244:Int))) (some (Sum.inl (wr .i64 (wr .i64 (↑(UInt8.toNat (List.getD x (0:Nat) (0:UInt8))):Int)-(240:Int)),(4:Int),(65536:Int)))) (some
 (Sum.inr ((-1:Int),(1:Int))))) (some (Sum.inr ((-1:Int),(1:Int))))))) (cnd (decide ((224:Int)≤wr .i64 (↑(UInt8.toNat (List.getD x (0:Nat) (0
 : UInt8))):Int))) (cnd (decide (wr .i64 (↑(UInt8.toNat (List.getD x (0:Nat) (0:UInt8))):Int)≤(239:Int))) (some (Sum.inl (wr .i64 (wr .i64
 (↑(UInt8.toNat (List.getD x (0:Nat) (0:UInt8))):Int)-(224:Int)),(3:Int),(2048:Int)))) (cnd (decide ((240:Int)≤wr .i64 (↑(UInt8.toNat
 (List.getD x (0:Nat) (0:UInt8))):Int))) (cnd (decide (wr .i64 (↑(UInt8.toNat (List.getD x (0:Nat) (0:UInt8))):Int)≤(244:Int))) (some
 (Sum.inl (wr .i64 (wr .i64 (↑(UInt8.toNat (List.getD x (0:Nat) (0:UInt8))):Int)-(240:Int)),(4:Int),(65536:Int)))) (some (Sum.inr ((-1:
 Int),(1:Int))))) (some (Sum.inr ((-1:Int),(1:Int)))))) (cnd (decide ((240:Int)≤wr .i64 (↑(UInt8.toNat (List.getD x (0:Nat) (0:UInt8))):
 Int))) (cnd (decide (wr .i64 (↑(UInt8.toNat (List.getD x (0:Nat) (0:UInt8))):Int)≤(244:Int))) (some (Sum.inl (wr .i64 (wr .i64 (↑(UInt8.toNat
 (List.getD x (0:Nat) (0:UInt8))):Int)-(240:Int)),(4:Int),(65536:Int)))) (some (Sum.inr ((-1:Int),(1:Int))))) (some (Sum.inr ((-1:Int),
 (1:Int)))))))) fun(b:Int×Int×Int⊕Int×Int)=>selim (fun(b:Int×Int×Int)=>cnd (decide ((↑(List.length x):Int)<b.2.1)) (some
 ((-1:Int),(1:Int))) (obind (loopN N (fun(v:Int×Int)=>cnd (decide (v.2<b.2.1)) (cnd (decide ((0:Int)≤v.2)&&decide (v.2 <
 (↑(List.length x):Int))) (cnd (decide ((↑(UInt8.toNat (List.getD x (Int.toNat v.2) (0:UInt8))):Int)<(128:Int))) (some (Sum.inr (Sum.inr ((-1
 : Int),(1:Int))))) (cnd (decide ((0:Int)≤v.2)&&decide (v.2<(↑(List.length x):Int))) (cnd (decide ((191:Int)<(↑(UInt8.toNat (List.getD x
 (Int.toNat v.2) (0:UInt8))):Int))) (some (Sum.inr (Sum.inr ((-1:Int),(1:Int))))) (cnd (decide ((0:Int)≤v.2)&&decide (v.2<(↑(List.length
 x):Int))) (some (Sum.inl (wr .i64 (wr .i64 (wr .i64 (v.1*(64:Int))+wr .i64 (↑(UInt8.toNat (List.getD x (Int.toNat v.2) (0:UInt8))):Int)) -
 (128:Int)),wr .i64 (v.2+(1:Int))))) none)) none)) none) (some (Sum.inr (Sum.inl v.1)))) (b.1,(1:Int))) fun(b_1:Int⊕Int×Int)=>selim (fun
 (b_2:Int)=>obind (cnd (decide (b_2<b.2.2)) (some true) (some (decide ((1114111:Int)<b_2)))) fun(b_3:Bool)=>cnd b_3 (some ((-1:Int),
 (1:Int))) (cnd (decide ((55296:Int)≤b_2)) (cnd (decide (b_2≤(57343:Int))) (some ((-1:Int),(1:Int))) (some (b_2,b.2.1))) (some (b_2,
 b.2.1)))) (fun(c:Int×Int)=>some c) b_1)) (fun(c:Int×Int)=>some c) b) none
theorem q_bF:∀N x,u_bF.F L0 P0 (orcOf []) N x=V_bF N x:=by intros;kernel_rfl
def W_bF (N:Nat):=V_bF N
theorem con_bF_ok (N:Nat):(u_bF.con (W_bF N)).ok P0:=Uf.ok mixed (q_bF N) trivial Tryz.func112 (by kernel_rfl) fun x y=>by kernel_rfl
def u_bD:Uf:=⟨55,22,Tryz.f55,[.val .str],[],
⟨[(2,.val (.list (.int .i64)))],[]⟩,[],
[(2,.loop [] ⟨[(0,.val .str),(3,.acc 700003)],[(700003,.nrow 3 (.int .i64) true true)]⟩ [(.exit 0,⟨[(3,.val (.list (.int .i64)))],[]⟩)])],
[],fun y=>(valW (.list (.int .i64)) y,[],[])⟩
def V_bD (w_bF:List UInt8→Option (Int×Int)) (N:Nat) (x:List UInt8):Option (List Int):=
 obind (loopN N (fun(v:List UInt8×List Int)=>cnd (decide ((0:Int)<(↑(List.length v.1):Int))) (obind (w_bF v.1) fun b=>cnd
 (decide ((List.length v.2+List.length [b.1])*(8:Nat)≤(140737488355328:Nat))) (cnd (decide ((0:Int)≤b.2)&&decide (b.2≤(↑(List.length v.1)
 : Int))) (some (Sum.inl (List.drop (Int.toNat b.2) (List.take (List.length v.1) v.1),v.2++[b.1]))) none) none) (some (Sum.inr v.2))) (x,[])) fun
 (b:List Int)=>some b
theorem q_bD:∀w_bF N x,u_bD.F L0 P0 (orcOf [u_bF.con w_bF]) N x=V_bD w_bF N x:=by intros;kernel_rfl
def W_bD (N:Nat):=V_bD (W_bF N) N
theorem con_bD_ok (N:Nat):(u_bD.con (W_bD N)).ok P0:=Uf.ok mixed (q_bD (W_bF N) N) ⟨con_bF_ok N,trivial⟩ Tryz.func55 (by kernel_rfl) fun x y=>by kernel_rfl
def u_bv:Uf:=⟨29,40,Tryz.f29,[.val .str],[],
⟨[(2,.val .bool)],[]⟩,[],
[(3,.loop [3] ⟨[(4,.val (.int .i64))],[]⟩ [(.exit 0,⟨[],[]⟩),(.ret,⟨[(2,.val .bool)],[]⟩)])],
[],fun y=>(valW .bool y,[],[])⟩
def V_bv (w_bD:List UInt8→Option (List Int)) (N:Nat) (x:List UInt8):Option (Bool):=
 obind (w_bD x) fun b=>obind (loopN N (fun(v:Int)=>cnd (decide (v<(↑(List.length b):Int))) (cnd (decide ((0:Int)≤v)&&decide
 (v<(↑(List.length b):Int))) (cnd (decide (List.getD b (Int.toNat v) (0:Int)<(33:Int))) (some (Sum.inr (Sum.inr false))) (cnd (decide ((0:Int)
 ≤ v)&&decide (v<(↑(List.length b):Int))) (cnd (decide ((127:Int)≤List.getD b (Int.toNat v) (0:Int))) (cnd (decide ((0:Int)≤v)&&decide (v
 < (↑(List.length b):Int))) (cnd (decide (List.getD b (Int.toNat v) (0:Int)≤(159:Int))) (some (Sum.inr (Sum.inr false))) (some (Sum.inl (wr .i64
 (v+(1:Int)))))) none) (some (Sum.inl (wr .i64 (v+(1:Int)))))) none)) none) (some (Sum.inr (Sum.inl ())))) (Int.ofNat (0:Nat))) fun(b_1:PUnit
 ⊕ Bool)=>selim (fun(b_2:PUnit)=>cnd (decide ((1:Int)≤(↑(List.length b):Int))) (some (decide ((↑(List.length b):Int)≤(8:Int)))) (some
 false)) (fun(c:Bool)=>some c) b_1
theorem q_bv:∀w_bD N x,u_bv.F L0 P0 (orcOf [u_bD.con w_bD]) N x=V_bv w_bD N x:=by intros;kernel_rfl
def W_bv (N:Nat):=V_bv (W_bD N) N
theorem con_bv_ok (N:Nat):(u_bv.con (W_bv N)).ok P0:=Uf.ok mixed (q_bv (W_bD N) N) ⟨con_bD_ok N,trivial⟩ Tryz.func29 (by kernel_rfl) fun x y=>by kernel_rfl
def u_J:Uf:=⟨30,22,Tryz.f30,[.val (.int .i64),.val (.int .i64),.val (.int .i64),.val (.int .i64)],[],
⟨[(8,.ptr 600008 0)],[(600008,.box 31 (.val T0_))]⟩,[],
[],
[],fun y=>(valW (.agg T0_) y,[],[])⟩
def V_J (N:Nat) (x:Int×Int×Int×Int):Option A1_:=
 cnd (decide (x.1=(1:Int))) (some (x.1,x.2.1,x.2.2.1,(0:Int),(0:Int),x.2.2.2,[(1:Int)],(0:Int),x.2.2.1,(0:Int),(0:Int),(0:Int),[])) (some (x.1,x.2.1,x.2.2.1,(0:Int),(0:Int),x.2.2.2,[],(0:Int),(0:Int),(0:Int),(0:Int),(0:Int),[]))
theorem q_J:∀N x,u_J.F L0 P0 (orcOf []) N x=V_J N x:=by intros;kernel_rfl
def W_J (N:Nat):=V_J N
theorem con_J_ok (N:Nat):(u_J.con (W_J N)).ok P0:=Uf.ok mixed (q_J N) trivial Tryz.func30 (by kernel_rfl) fun x y=>by kernel_rfl
def u_a6:Uf:=⟨13,42,Tryz.f13,[.val (.agg T2_),.val (.int .i64),.val .str,.val (.int .i64)],[],
⟨[(8,.ptr 600008 0),(9,.val .bool)],[(600008,.box 39 (.val T2_))]⟩,[],
[],
[(1000001,.reg [(7,[],⟨[(4,.ptr 600004 0),(8,.ptr 600008 0),(16,.val .bool)],[(600004,.box 39 (.val T2_)),(600008,.box 39 (.val T2_))]⟩),(4,[],⟨[(4,.ptr 600004 0),(8,.ptr 600008 0),(20,.val .bool)],[(600004,.box 39 (.val T2_)),(600008,.box 39 (.val T2_))]⟩),(4,[],⟨[(4,.ptr 600004 0),(8,.ptr 600008 0),(24,.val .bool)],[(600004,.box 39 (.val T2_)),(600008,.box 39 (.val T2_))]⟩)])],fun y=>(.tup [valW (.agg T2_) y.2,valW .bool y.1],[],[])⟩
def V_a6 (w_bv:List UInt8→Option (Bool)) (w_J:Int×Int×Int×Int→Option A1_) (N:Nat) (x:A3_×Int×List UInt8×Int):Option (Bool×A3_):=
 obind (cnd x.1.1 (some (true,x.1,false,(0:Int),[],((0:Int),(0:Int),(0:Int),(0:Int),(0:Int),(0:Int),[],(0:Int),(0:Int),(0:Int),(0:Int),
 (0:Int),[]),((0:Int),(0:Int),[],[],[],(0:Int),(0:Int)),(0:Int))) (obind (w_bv x.2.2.1) fun b=>some (!b,x.1,false,(0:Int),[],
 ((0:Int),(0:Int),(0:Int),(0:Int),(0:Int),(0:Int),[],(0:Int),(0:Int),(0:Int),(0:Int),(0:Int),[]),((0:Int),(0:Int),[],[],[],(0:Int),
 (0:Int)),(0:Int)))) fun(b:Bool×A3_×A3_)=>obind (cnd b.1 (some (true,
 b.2)) (some (decide (x.2.1<(1:Int)),b.2))) fun(b:Bool×A3_×A3_)=>obind (cnd
 b.1 (some (true,b.2)) (some (decide ((8:Int)<x.2.1),b.2))) fun(b:Bool×A3_×A3_)=>cnd b.1 (some (false,b.2.1)) (cnd (decide ((1073741824:Int)≤b.2.1.2.1)) (some (false,b.2.1)) (obind (w_J (x.2.1,wr .i64
 (b.2.1.2.1+(1:Int)),(0:Int),x.2.2.2)) fun b_1=>some (true,true,wr .i64 (b.2.1.2.1+(1:Int)),x.2.2.1,b_1,((0:Int),(0:Int),[],[],[],
 (0:Int),(0:Int)),(0:Int))))
theorem q_a6:∀w_bv w_J N x,u_a6.F L0 P0 (orcOf [u_bv.con w_bv,u_J.con w_J]) N x=V_a6 w_bv w_J N x:=by intros;kernel_rfl
def W_a6 (N:Nat):=V_a6 (W_bv N) (W_J N) N
theorem con_a6_ok (N:Nat):(u_a6.con (W_a6 N)).ok P0:=Uf.ok mixed (q_a6 (W_bv N) (W_J N) N) ⟨con_bv_ok N,con_J_ok N,trivial⟩ Tryz.func13 (by kernel_rfl) fun x y=>by kernel_rfl
def u_6:Uf:=⟨60,13,Tryz.f60,[.ptr 0 0],[.box 72 T7_],
⟨[(0,.ptr 1000000 0),(2,.val .bool)],[(1000000,.box 72 (.val T7_))]⟩,[true],
[],
[],fun y=>(valW .bool y.1,[.box 72 (cellsW T7_ y.2)],[])⟩
def V_6 (N:Nat) (x:List Int×Int):Option (Bool×List Int×Int):=
 some (decide ((↑(List.length x.1):Int)≤x.2),x)
theorem q_6:∀N x,u_6.F L0 P0 (orcOf []) N x=V_6 N x:=by intros;kernel_rfl
def W_6 (N:Nat):=V_6 N
theorem con_6_ok (N:Nat):(u_6.con (W_6 N)).ok P0:=Uf.ok mixed (q_6 N) trivial Tryz.func60 (by kernel_rfl) fun x y=>by kernel_rfl
def u_aK:Uf:=⟨113,29,Tryz.f113,[.val (.list T3_),.val (.int .i64)],[],
⟨[(4,.val (.list T3_))],[]⟩,[],
[(3,.loop [] ⟨[(5,.acc 700005),(6,.val (.int .i64))],[(700005,.nrow 53 T3_ true true)]⟩ [(.exit 0,⟨[(5,.val (.list T3_))],[]⟩)])],
[],fun y=>(valW (.list T3_) y,[],[])⟩
def V_aK (N:Nat) (x:List (Int×Int×Int)×Int):Option (List (Int×Int×Int)):=
 obind (loopN N (fun(v:Int×List (Int×Int×Int))=>cnd (decide (v.1<(↑(List.length x.1):Int))) (cnd (decide ((0:Int)≤v.1)&&decide (v.1
 < (↑(List.length x.1):Int))) (cnd (decide (wr .i64 (x.2-Prod.snd (Prod.snd (List.getD x.1 (Int.toNat v.1) ((0:Int),(0:Int),(0:Int))))) ≤
 (20:Int))) (cnd (decide ((0:Int)≤v.1)&&decide (v.1<(↑(List.length x.1):Int))) (cnd (decide ((List.length v.2+List.length [(Prod.fst
 (List.getD x.1 (Int.toNat v.1) ((0:Int),(0:Int),(0:Int))),Prod.fst (Prod.snd (List.getD x.1 (Int.toNat v.1) ((0:Int),(0:Int),(0:Int)))),
 Prod.snd (Prod.snd (List.getD x.1 (Int.toNat v.1) ((0:Int),(0:Int),(0:Int)))))])*(24:Nat)≤(140737488355328:Nat))) (some (Sum.inl (wr .i64 (v.1
 + (1:Int)),v.2++[(Prod.fst (List.getD x.1 (Int.toNat v.1) ((0:Int),(0:Int),(0:Int))),Prod.fst (Prod.snd (List.getD x.1 (Int.toNat v.1)
 ((0:Int),(0:Int),(0:Int)))),Prod.snd (Prod.snd (List.getD x.1 (Int.toNat v.1) ((0:Int),(0:Int),(0:Int)))))]))) none) none) (some (Sum.inl (wr
 .i64 (v.1+(1:Int)),v.2)))) none) (some (Sum.inr v.2))) ((0:Int),[])) fun(b:List (Int×Int×Int))=>some b
theorem q_aK:∀N x,u_aK.F L0 P0 (orcOf []) N x=V_aK N x:=by intros;kernel_rfl
def W_aK (N:Nat):=V_aK N
theorem con_aK_ok (N:Nat):(u_aK.con (W_aK N)).ok P0:=Uf.ok mixed (q_aK N) trivial Tryz.func113 (by kernel_rfl) fun x y=>by kernel_rfl
def u_O:Uf:=⟨114,19,Tryz.f114,[.val (.agg T0_)],[],
⟨[(2,.val .bool)],[]⟩,[],
[],
[],fun y=>(valW .bool y,[],[])⟩
def V_O (N:Nat) (x:A1_):Option (Bool):=
 cnd (decide (x.1=(1:Int))) (some true) (cnd (decide (x.2.2.2.1≠(0:Int))) (some (decide (wr .i64 (x.2.2.1-x.2.2.2.2.2.2.2.2.1)≤(20:Int)))) (some false))
theorem q_O:∀N x,u_O.F L0 P0 (orcOf []) N x=V_O N x:=by intros;kernel_rfl
def W_O (N:Nat):=V_O N
theorem con_O_ok (N:Nat):(u_O.con (W_O N)).ok P0:=Uf.ok mixed (q_O N) trivial Tryz.func114 (by kernel_rfl) fun x y=>by kernel_rfl
def u_Y:Uf:=⟨115,12,Tryz.f115,[.val (.agg T0_),.val (.int .i64)],[],
⟨[(4,.ptr 600004 0)],[(600004,.box 31 (.val T0_))]⟩,[],
[],
[],fun y=>(valW (.agg T0_) y,[],[])⟩
def V_Y (N:Nat) (x:A1_×Int):Option A1_:=
 some (x.1.1,x.1.2.1,x.1.2.2.1,(0:Int),(0:Int),x.1.2.2.2.2.2.1,[],x.1.2.2.2.2.2.2.2.1,x.1.2.2.2.2.2.2.2.2.1,(0:Int),x.1.2.2.2.2.2.2.2.2.2.2.1,x.2,x.1.2.2.2.2.2.2.2.2.2.2.2.2)
theorem q_Y:∀N x,u_Y.F L0 P0 (orcOf []) N x=V_Y N x:=by intros;kernel_rfl
def W_Y (N:Nat):=V_Y N
theorem con_Y_ok (N:Nat):(u_Y.con (W_Y N)).ok P0:=Uf.ok mixed (q_Y N) trivial Tryz.func115 (by kernel_rfl) fun x y=>by kernel_rfl
def u_j:Uf:=⟨116,14,Tryz.f116,[.val (.agg T0_),.val (.int .i64),.val (.int .i64)],[],
⟨[(6,.ptr 600006 0)],[(600006,.box 46 (.val T_))]⟩,[],
[],
[],fun y=>(valW (.agg T_) y,[],[])⟩
def V_j (N:Nat) (x:A1_×Int×Int):Option (M_):=
 some (x.2.1,x.1.1,x.2.2,x.1.2.1,(0:Int),(0:Int),[],(0:Int),(0:Int),[])
theorem q_j:∀N x,u_j.F L0 P0 (orcOf []) N x=V_j N x:=by intros;kernel_rfl
def W_j (N:Nat):=V_j N
theorem con_j_ok (N:Nat):(u_j.con (W_j N)).ok P0:=Uf.ok mixed (q_j N) trivial Tryz.func116 (by kernel_rfl) fun x y=>by kernel_rfl
def u_Q:Uf:=⟨117,27,Tryz.f117,[.val (.agg T0_),.val (.int .i64),.val (.int .i64)],[],
⟨[(6,.ptr 600006 0)],[(600006,.box 46 (.val T_))]⟩,[],
[],
[],fun y=>(valW (.agg T_) y,[],[])⟩
def V_Q (w_j:A1_×Int×Int→Option (M_)) (N:Nat) (x:A1_×Int×Int):Option (M_):=
 obind (w_j x) fun b=>cnd (decide (List.length x.1.2.2.2.2.2.2.1*(8:Nat)≤(140737488355328:Nat))) (some (b.1,b.2.1,b.2.2.1,b.2.2.2.1,x.1.2.2.2.2.2.2.2.1,wr .i64 (x.1.2.2.1-x.1.2.2.2.2.2.2.2.2.1),x.1.2.2.2.2.2.2.1,b.2.2.2.2.2.2.2)) none
theorem q_Q:∀w_j N x,u_Q.F L0 P0 (orcOf [u_j.con w_j]) N x=V_Q w_j N x:=by intros;kernel_rfl
def W_Q (N:Nat):=V_Q (W_j N) N
theorem con_Q_ok (N:Nat):(u_Q.con (W_Q N)).ok P0:=Uf.ok mixed (q_Q (W_j N) N) ⟨con_j_ok N,trivial⟩ Tryz.func117 (by kernel_rfl) fun x y=>by kernel_rfl
def u_a0:Uf:=⟨61,131,Tryz.f61,[.val (.agg T0_)],[],
⟨[(2,.ptr 600002 0),(3,.val (.list (.agg T_)))],[(600002,.box 31 (.val T0_))]⟩,[],
[(23,.loop [] ⟨[(1,.ptr 600001 0),(2,.ptr 600002 0),(5,.acc 700005),(6,.val (.int .i64))],[(600001,.box 31 (.val T0_)),(600002,.box 31 (.val T0_)),(700005,.nrow 46 (.agg T_) true true)]⟩ [(.exit 0,⟨[(1,.ptr 600001 0),(2,.ptr 600002 0),(5,.val (.list (.agg T_)))],[(600001,.box 31 (.val T0_)),(600002,.box 31 (.val T0_))]⟩)])],
[(1000015,.reg [(8,[],⟨[(1,.ptr 600001 0),(2,.ptr 600002 0),(75,.val .bool)],[(600001,.box 31 (.val T0_)),(600002,.box 31 (.val T0_))]⟩)]),
(17,.cut [] [(.normal,⟨[(1,.ptr 600001 0),(2,.ptr 600002 0)],[(600001,.box 31 (.val T0_)),(600002,.box 31 (.val T0_))]⟩)]),
(13,.cut [] [(.normal,⟨[(1,.ptr 600001 0),(2,.ptr 600002 0)],[(600001,.box 31 (.val T0_)),(600002,.box 31 (.val T0_))]⟩)]),
(10,.cut [] [(.normal,⟨[(1,.ptr 600001 0),(2,.ptr 600002 0)],[(600001,.box 31 (.val T0_)),(600002,.box 31 (.val T0_))]⟩)]),
(22,.cut [] [(.normal,⟨[(1,.ptr 600001 0),(2,.ptr 600002 0),(5,.acc 700005)],[(600001,.box 31 (.val T0_)),(600002,.box 31 (.val T0_)),(700005,.nrow 46 (.agg T_) true true)]⟩)]),
(18,.cut [] [(.normal,⟨[(1,.ptr 600001 0),(2,.ptr 600002 0),(5,.acc 700005)],[(600001,.box 31 (.val T0_)),(600002,.box 31 (.val T0_)),(700005,.nrow 46 (.agg T_) true true)]⟩)])],fun y=>(.tup [valW (.agg T0_) y.2,valW (.list (.agg T_)) y.1],[],[])⟩
def V_a0 (w_aK:List (Int×Int×Int)×Int→Option (List (Int×Int×Int))) (w_O:A1_→Option (Bool)) (w_Y:A1_×Int→Option A1_) (w_j:A1_×Int×Int→Option (M_)) (w_Q:A1_×Int×Int→Option (M_)) (N:Nat) (x:A1_):Option (List (M_)×A1_):=
 obind (w_aK (x.2.2.2.2.2.2.2.2.2.2.2.2,wr .i64 (x.2.2.1+(1:Int)))) fun b=>obind (cnd (decide (x.1=(1:Int))) (cnd (decide (Int.tmod
 (wr .i64 (x.2.2.1+(1:Int))) (2:Int)=(0:Int))) (some ((x.1,x.2.1,wr .i64 (x.2.2.1+(1:Int)),x.2.2.2.1,x.2.2.2.2.1,x.2.2.2.2.2.1,
 x.2.2.2.2.2.2.1,wr .i64 (x.2.2.2.2.2.2.2.1+(1:Int)),wr .i64 (x.2.2.1+(1:Int)),x.2.2.2.2.2.2.2.2.2.1,x.2.2.2.2.2.2.2.2.2.2.1,
 x.2.2.2.2.2.2.2.2.2.2.2.1,b),((0:Int),(0:Int),(0:Int),(0:Int),(0:Int),(0:Int),[],(0:Int),(0:Int),(0:Int),(0:Int),(0:Int),[]),[]))
 (some ((x.1,x.2.1,wr .i64 (x.2.2.1+(1:Int)),x.2.2.2.1,x.2.2.2.2.1,x.2.2.2.2.2.1,x.2.2.2.2.2.2.1,x.2.2.2.2.2.2.2.1,x.2.2.2.2.2.2.2.2.1,
 x.2.2.2.2.2.2.2.2.2.1,x.2.2.2.2.2.2.2.2.2.2.1,x.2.2.2.2.2.2.2.2.2.2.2.1,b),((0:Int),(0:Int),(0:Int),(0:Int),(0:Int),(0:Int),[],(0:Int),
 (0:Int),(0:Int),(0:Int),(0:Int),[]),[]))) (obind (cnd (decide (x.2.2.2.1≠(0:Int))) (obind (w_O (x.1,x.2.1,wr .i64 (x.2.2.1 +
 (1:Int)),x.2.2.2.1,x.2.2.2.2.1,x.2.2.2.2.2.1,x.2.2.2.2.2.2.1,x.2.2.2.2.2.2.2.1,x.2.2.2.2.2.2.2.2.1,x.2.2.2.2.2.2.2.2.2.1,
 x.2.2.2.2.2.2.2.2.2.2.1,x.2.2.2.2.2.2.2.2.2.2.2.1,b)) fun b_1=>cnd (!b_1) (obind (w_Y ((x.1,x.2.1,wr .i64 (x.2.2.1+(1:Int)),
 x.2.2.2.1,x.2.2.2.2.1,x.2.2.2.2.2.1,x.2.2.2.2.2.2.1,x.2.2.2.2.2.2.2.1,x.2.2.2.2.2.2.2.2.1,x.2.2.2.2.2.2.2.2.2.1,x.2.2.2.2.2.2.2.2.2.2.1,
 x.2.2.2.2.2.2.2.2.2.2.2.1,b),(0:Int))) fun b=>some (b,(0:Int),(0:Int),(0:Int),(0:Int),(0:Int),(0:Int),[],(0:Int),(0:Int),(0:Int),
 (0:Int),(0:Int),[])) (some ((x.1,x.2.1,wr .i64 (x.2.2.1+(1:Int)),x.2.2.2.1,x.2.2.2.2.1,x.2.2.2.2.2.1,x.2.2.2.2.2.2.1,x.2.2.2.2.2.2.2.1,
 x.2.2.2.2.2.2.2.2.1,x.2.2.2.2.2.2.2.2.2.1,x.2.2.2.2.2.2.2.2.2.2.1,x.2.2.2.2.2.2.2.2.2.2.2.1,b),(0:Int),(0:Int),(0:Int),(0:Int),(0:Int),
 (0:Int),[],(0:Int),(0:Int),(0:Int),(0:Int),(0:Int),[]))) (some ((x.1,x.2.1,wr .i64 (x.2.2.1+(1:Int)),x.2.2.2.1,x.2.2.2.2.1,
 x.2.2.2.2.2.1,x.2.2.2.2.2.2.1,x.2.2.2.2.2.2.2.1,x.2.2.2.2.2.2.2.2.1,x.2.2.2.2.2.2.2.2.2.1,x.2.2.2.2.2.2.2.2.2.2.1,x.2.2.2.2.2.2.2.2.2.2.2.1,
 b),(0:Int),(0:Int),(0:Int),(0:Int),(0:Int),(0:Int),[],(0:Int),(0:Int),(0:Int),(0:Int),(0:Int),[]))) fun(b:A1_×A1_)=>cnd (decide (b.1.2.2.2.1=(0:Int))) (obind (cnd (decide (b.1.2.2.2.2.2.2.2.2.2.1≠(0:Int))) (cnd (decide
 (b.1.2.2.2.2.2.2.2.2.2.2.1≤b.1.2.2.1)) (some ((b.1.1,b.1.2.1,b.1.2.2.1,b.1.2.2.2.1,b.1.2.2.2.2.1,b.1.2.2.2.2.2.1,b.1.2.2.2.2.2.2.1,
 b.1.2.2.2.2.2.2.2.1,b.1.2.2.2.2.2.2.2.2.1,(0:Int),b.1.2.2.2.2.2.2.2.2.2.2.1,wr .i64 (b.1.2.2.2.2.2.2.2.2.2.2.2.1+(1:Int)),
 b.1.2.2.2.2.2.2.2.2.2.2.2.2),b.2)) (some b)) (some b)) fun(b:A1_×A1_)=>cnd (decide
 (b.1.2.2.2.2.2.2.2.2.2.1=(0:Int))) (obind (obind (cnd (decide (b.1.2.2.2.2.2.2.2.2.2.2.2.1=(0:Int))) (some (decide (b.1.2.2.2.2.2.1≠(0:Int)),
 (b.1.1,b.1.2.1,b.1.2.2.1,b.1.2.2.2.1,b.1.2.2.2.2.1,b.1.2.2.2.2.2.1,b.1.2.2.2.2.2.2.1,b.1.2.2.2.2.2.2.2.1,b.1.2.2.2.2.2.2.2.2.1,(1:Int),wr
 .i64 (b.1.2.2.1+(3:Int)),b.1.2.2.2.2.2.2.2.2.2.2.2),b.2)) (some (false,(b.1.1,b.1.2.1,b.1.2.2.1,b.1.2.2.2.1,b.1.2.2.2.2.1,b.1.2.2.2.2.2.1,
 b.1.2.2.2.2.2.2.1,b.1.2.2.2.2.2.2.2.1,b.1.2.2.2.2.2.2.2.2.1,(1:Int),wr .i64 (b.1.2.2.1+(3:Int)),b.1.2.2.2.2.2.2.2.2.2.2.2),b.2))) fun(b:
 Bool×A1_×A1_)=>cnd b.1 (cnd (decide (b.2.1.2.2.2.2.2.1≠b.2.1.1)) (some ((b.2.1.1,b.2.1.2.1,
 b.2.1.2.2.1,b.2.1.2.2.2.1,b.2.1.2.2.2.2.1,b.2.1.2.2.2.2.2.1,b.2.1.2.2.2.2.2.2.1,b.2.1.2.2.2.2.2.2.2.1,b.2.1.2.2.2.2.2.2.2.2.1,
 b.2.1.2.2.2.2.2.1,b.2.1.2.2.2.2.2.2.2.2.2.2),b.2.2)) (some b.2)) (some b.2)) fun(b:A1_×A1_)=>
 obind (w_j (b.1,(1:Int),b.1.2.2.2.2.2.2.2.2.2.1)) fun b_1=>some (b.1,b.2,[b_1])) (some (b.1,b.2,[]))) (some (b.1,b.2,[])))) fun
 (b:A1_×A1_×List A2_)=>
 cnd (!decide (Int.tmod (wr .i64 (x.2.2.1+(1:Int))) (2:Int)=(0:Int))) (some (b.2.2,b.1)) (obind (cnd (decide (b.1.2.2.2.1≠(0:Int))) (obind
 (w_j (b.1,(4:Int),b.1.2.2.2.1)) fun b_1=>cnd (decide ((List.length b.2.2+List.length [b_1])*(104:Nat)≤(140737488355328:Nat)))
 (some (b.1,b.2.1,b.2.2++[b_1])) none) (some b)) fun(b:A1_×A1_×List A2_)=>obind (loopN N (fun(v:Int×A1_×A1_×List A2_)=>cnd (decide (v.1<(↑(List.length v.2.1.2.2.2.2.2.2.2.2.2.2.2.2):
 Int))) (obind (w_O v.2.1) fun b=>cnd b (cnd (decide ((0:Int)≤v.1)&&decide (v.1<(↑(List.length v.2.1.2.2.2.2.2.2.2.2.2.2.2.2):
 Int))) (obind (w_Q (v.2.1,(5:Int),Prod.fst (List.getD v.2.1.2.2.2.2.2.2.2.2.2.2.2.2 (Int.toNat v.1) ((0:Int),(0:Int),(0:Int))))) fun
 b=>cnd (decide ((List.length v.2.2.2+List.length [b])*(104:Nat)≤(140737488355328:Nat))) (some (Sum.inl (wr .i64 (v.1+(1:Int)),v.2.1,
 v.2.2.1,v.2.2.2++[b]))) none) none) (some (Sum.inr (v.2.2.2,v.2.1,v.2.2.1)))) (some (Sum.inr (v.2.2.2,v.2.1,v.2.2.1)))) ((0:Int),b)) fun(b
 : List A2_×A1_×A1_)=>some
 (b.1,b.2.1))
theorem q_a0:∀w_aK w_O w_Y w_j w_Q N x,u_a0.F L0 P0 (orcOf [u_aK.con w_aK,u_O.con w_O,u_Y.con w_Y,u_j.con w_j,u_Q.con w_Q]) N x=V_a0 w_aK w_O w_Y w_j w_Q N x:=by intros;kernel_rfl
def W_a0 (N:Nat):=V_a0 (W_aK N) (W_O N) (W_Y N) (W_j N) (W_Q N) N
theorem con_a0_ok (N:Nat):(u_a0.con (W_a0 N)).ok P0:=Uf.ok mixed (q_a0 (W_aK N) (W_O N) (W_Y N) (W_j N) (W_Q N) N) ⟨con_aK_ok N,con_O_ok N,con_Y_ok N,con_j_ok N,con_Q_ok N,trivial⟩ Tryz.func61 (by kernel_rfl) fun x y=>by kernel_rfl
def u_1:Uf:=⟨120,18,Tryz.f120,[.val (.list (.int .i64)),.val (.int .i64)],[],
⟨[(4,.val .bool)],[]⟩,[],
[(2,.loop [] ⟨[(5,.val (.int .i64))],[]⟩ [(.exit 0,⟨[],[]⟩),(.ret,⟨[(4,.val .bool)],[]⟩)])],
[],fun y=>(valW .bool y,[],[])⟩
def V_1 (N:Nat) (x:List Int×Int):Option (Bool):=
 obind (loopN N (fun(v:Int)=>cnd (decide (v<(↑(List.length x.1):Int))) (cnd (decide ((0:Int)≤v)&&decide (v<(↑(List.length x.1):Int)))
 (cnd (decide (List.getD x.1 (Int.toNat v) (0:Int)=x.2)) (some (Sum.inr (Sum.inr true))) (some (Sum.inl (wr .i64 (v+(1:Int)))))) none) (some
 (Sum.inr (Sum.inl ())))) (Int.ofNat (0:Nat))) fun(b:PUnit⊕Bool)=>selim (fun(b:PUnit)=>some false) (fun(c:Bool)=>some c) b
theorem q_1:∀N x,u_1.F L0 P0 (orcOf []) N x=V_1 N x:=by intros;kernel_rfl
def W_1 (N:Nat):=V_1 N
theorem con_1_ok (N:Nat):(u_1.con (W_1 N)).ok P0:=Uf.ok mixed (q_1 N) trivial Tryz.func120 (by kernel_rfl) fun x y=>by kernel_rfl
def u_S:Uf:=⟨88,46,Tryz.f88,[.val (.list (.int .i64))],[],
⟨[(2,.val .bool)],[]⟩,[],
[(4,.loop [] ⟨[(3,.val (.int .i64))],[]⟩ [(.exit 0,⟨[],[]⟩),(.ret,⟨[(2,.val .bool)],[]⟩)])],
[(1000001,.reg [(8,[],⟨[(11,.val .bool)],[]⟩)])],fun y=>(valW .bool y,[],[])⟩
def V_S (w_1:List Int×Int→Option (Bool)) (N:Nat) (x:List Int):Option (Bool):=
 obind (cnd (decide ((↑(List.length x):Int)<(1:Int))) (some true) (some (decide ((10:Int)<(↑(List.length x):Int))))) fun(b:Bool)=>cnd b
 (some false) (cnd (decide ((0:Int)≤(0:Int))&&decide ((0:Int)<(↑(List.length x):Int))) (cnd (decide (List.getD x (0:Nat) (0:Int)≠(1:Int)))
 (some false) (obind (loopN N (fun(v:Int)=>cnd (decide (v<(↑(List.length x):Int))) (cnd (decide ((0:Int)≤v)&&decide (v<(↑(List.length
 x):Int))) (cnd (decide (List.getD x (Int.toNat v) (0:Int)<(1:Int))) (some (Sum.inr (Sum.inr false))) (cnd (decide ((0:Int)≤v)&&decide (v <
 (↑(List.length x):Int))) (cnd (decide ((8:Int)<List.getD x (Int.toNat v) (0:Int))) (some (Sum.inr (Sum.inr false))) (cnd (decide ((0:Int)≤v)
 && decide (v≤(↑(List.length x):Int))) (cnd (decide ((0:Int)≤v)&&decide (v<(↑(List.length x):Int))) (obind (w_1 (List.drop
 (0:Nat) (List.take (Int.toNat v) x),List.getD x (Int.toNat v) (0:Int))) fun b=>cnd b (some (Sum.inr (Sum.inr false))) (some (Sum.inl (wr .i64 (v
 + (1:Int)))))) none) none)) none)) none) (some (Sum.inr (Sum.inl ())))) (Int.ofNat (0:Nat))) fun(b:PUnit⊕Bool)=>selim (fun(b:PUnit)=>
 some true) (fun(c:Bool)=>some c) b)) none)
theorem q_S:∀w_1 N x,u_S.F L0 P0 (orcOf [u_1.con w_1]) N x=V_S w_1 N x:=by intros;kernel_rfl
def W_S (N:Nat):=V_S (W_1 N) N
theorem con_S_ok (N:Nat):(u_S.con (W_S N)).ok P0:=Uf.ok mixed (q_S (W_1 N) N) ⟨con_1_ok N,trivial⟩ Tryz.func88 (by kernel_rfl) fun x y=>by kernel_rfl
def u_t:Uf:=⟨68,17,Tryz.f68,[.val (.list (.int .i64)),.val (.int .i64)],[],
⟨[(4,.val (.list (.int .i64))),(5,.val .bool)],[]⟩,[],
[],
[],fun y=>(.tup [valW (.list (.int .i64)) y.1,valW .bool y.2],[],[])⟩
def V_t (w_S:List Int→Option (Bool)) (N:Nat) (x:List Int×Int):Option (List Int×Bool):=
 cnd (decide (List.length x.1*(8:Nat)≤(140737488355328:Nat))) (cnd (decide ((List.length x.1+List.length [x.2])*(8:Nat)≤(140737488355328:Nat))) (obind (w_S (x.1++[x.2])) fun b=>cnd (!b) (some ([],false)) (some (x.1++[x.2],true))) none) none
theorem q_t:∀w_S N x,u_t.F L0 P0 (orcOf [u_S.con w_S]) N x=V_t w_S N x:=by intros;kernel_rfl
def W_t (N:Nat):=V_t (W_S N) N
theorem con_t_ok (N:Nat):(u_t.con (W_t N)).ok P0:=Uf.ok mixed (q_t (W_S N) N) ⟨con_S_ok N,trivial⟩ Tryz.func68 (by kernel_rfl) fun x y=>by kernel_rfl
def u_L:Uf:=⟨35,25,Tryz.f35,[.ptr 0 0],[.box 72 T7_],
⟨[(0,.ptr 1000000 0),(2,.val (.list (.int .i64)))],[(1000000,.box 72 (.val T7_))]⟩,[true],
[(3,.loop [] ⟨[(0,.ptr 1000000 0),(3,.val (.list (.int .i64))),(4,.val (.int .i64))],[(1000000,.box 72 (.val T7_))]⟩ [(.exit 0,⟨[(0,.ptr 1000000 0),(3,.val (.list (.int .i64)))],[(1000000,.box 72 (.val T7_))]⟩)])],
[],fun y=>(valW (.list (.int .i64)) y.1,[.box 72 (cellsW T7_ y.2)],[])⟩
def V_L (w_b:Int×List Int×Int→Option (Int×List Int×Int)) (w_t:List Int×Int→Option (List Int×Bool)) (N:Nat) (x:List Int×Int):Option (List Int×List Int×Int):=
 obind (w_b ((4:Int),x)) fun b=>obind (loopN N (fun(v:List Int×Int×List Int×Int)=>cnd (decide ((0:Int)<v.2.1)) (obind
 (w_b ((7:Int),v.2.2)) fun b=>obind (w_t (v.1,wr .i64 ((2:Int)+b.1))) fun b_1=>cnd b_1.2 (some (Sum.inl (b_1.1,wr
 .i64 (v.2.1-(1:Int)),b.2))) (some (Sum.inl (v.1,wr .i64 (v.2.1-(1:Int)),b.2)))) (some (Sum.inr (v.1,v.2.2)))) ([(1:Int)],b)) fun(b:List Int×List Int×Int)=>some b
theorem q_L:∀w_b w_t N x,u_L.F L0 P0 (orcOf [u_b.con w_b,u_t.con w_t]) N x=V_L w_b w_t N x:=by intros;kernel_rfl
def W_L (N:Nat):=V_L (W_b N) (W_t N) N
theorem con_L_ok (N:Nat):(u_L.con (W_L N)).ok P0:=Uf.ok mixed (q_L (W_b N) (W_t N) N) ⟨con_b_ok N,con_t_ok N,trivial⟩ Tryz.func35 (by kernel_rfl) fun x y=>by kernel_rfl
def u_H:Uf:=⟨36,8,Tryz.f36,[.ptr 0 0],[.box 72 T7_],
⟨[(0,.ptr 1000000 0),(2,.val .str)],[(1000000,.box 72 (.val T7_))]⟩,[true],
[],
[],fun y=>(valW .str y.1,[.box 72 (cellsW T7_ y.2)],[])⟩
def V_H (w_b:Int×List Int×Int→Option (Int×List Int×Int)) (N:Nat) (x:List Int×Int):Option (List UInt8×List Int×Int):=
 obind (w_b ((5:Int),x)) fun b=>cnd (decide ((0:Int)≤b.1)) (cnd (decide (b.1<(↑(5:Nat):Int))) (some (List.getD [[],[(97:UInt8)],
 [(98:UInt8),(99:UInt8)],[(104:UInt8),(101:UInt8),(108:UInt8),(108:UInt8),(111:UInt8)],[(116:UInt8),(119:UInt8),(101:
 UInt8),(108:UInt8),(118:UInt8),(101:UInt8),(32:UInt8),(98:UInt8),(121:UInt8),(116:UInt8),(101:UInt8),(115:UInt8)]]
 (Int.toNat b.1) [],b.2)) none) none
theorem q_H:∀w_b N x,u_H.F L0 P0 (orcOf [u_b.con w_b]) N x=V_H w_b N x:=by intros;kernel_rfl
def W_H (N:Nat):=V_H (W_b N) N
theorem con_H_ok (N:Nat):(u_H.con (W_H N)).ok P0:=Uf.ok mixed (q_H (W_b N) N) ⟨con_b_ok N,trivial⟩ Tryz.func36 (by kernel_rfl) fun x y=>by kernel_rfl
def u_I:Uf:=⟨16,78,Tryz.f16,[.ptr 0 0,.val (.int .i64)],[.box 72 T7_],
⟨[(0,.ptr 1000000 0),(4,.ptr 600004 0)],[(1000000,.box 72 (.val T7_)),(600004,.box 46 (.val T_))]⟩,[true],
[],
[(14,.cut [] [(.normal,⟨[(0,.ptr 1000000 0),(4,.ptr 600004 0),(6,.ptr 600006 0),(64,.val .bool)],[(1000000,.box 72 (.val T7_)),(600004,.box 46 (.val T_)),(600006,.box 46 (.val T_))]⟩)]),
(4,.cut [] [(.normal,⟨[(0,.ptr 1000000 0),(4,.ptr 600004 0),(5,.val (.int .i64))],[(1000000,.box 72 (.val T7_)),(600004,.box 46 (.val T_))]⟩)])],fun y=>(valW (.agg T_) y.2,[.box 72 (cellsW T7_ y.1)],[])⟩
def V_I (w_b:Int×List Int×Int→Option (Int×List Int×Int)) (w_L:List Int×Int→Option (List Int×List Int×Int)) (w_H:List Int×Int→Option (List UInt8×List Int×Int)) (N:Nat) (x:Int×List Int×Int):Option ((List Int×Int)×M_):=
 obind (w_b ((8:Int),x.2)) fun b=>obind (cnd (decide (wr .i64 ((1:Int)+b.1)=x.1)) (some (wr .i64 ((1:Int)+Int.tmod x.1 (8:Int)),
 b.2,(0:Int),(0:Int),(0:Int),(0:Int),(0:Int),(0:Int),[],(0:Int),(0:Int),[])) (some (wr .i64 ((1:Int)+b.1),b.2,(0:Int),(0:Int),
 (0:Int),(0:Int),(0:Int),(0:Int),[],(0:Int),(0:Int),[]))) fun(b:Int×(List Int×Int)×A2_)=>obind (w_b ((9:Int),b.2.1)) fun b_1=>obind (w_b ((3:Int),b_1.2)) fun b_2=>cnd (decide (wr .i64
 ((1:Int)+b_1.1)=(2:Int))) (obind (w_b ((20:Int),b_2.2)) fun b_3=>obind (w_b ((25:Int),b_3.2)) fun b_4=>obind
 (w_L b_4.2) fun b_5=>obind (w_b ((9:Int),b_5.2)) fun b_6=>some (b_6.2,wr .i64 ((1:Int)+b_1.1),b.1,x.1,wr .i64
 ((1:Int)+b_2.1),b_3.1,b_4.1,b_5.1,b_6.1,(0:Int),[])) (cnd (decide (wr .i64 ((1:Int)+b_1.1)=(5:Int))) (obind (w_b ((20:Int),
 b_2.2)) fun b_3=>obind (w_b ((25:Int),b_3.2)) fun b_4=>obind (w_L b_4.2) fun b_5=>obind (w_b ((12:Int),
 b_5.2)) fun b_6=>some (b_6.2,wr .i64 ((1:Int)+b_1.1),b.1,x.1,wr .i64 ((1:Int)+b_2.1),b_3.1,b_4.1,b_5.1,(0:Int),b_6.1,[])) (cnd
 (decide (wr .i64 ((1:Int)+b_1.1)=(7:Int))) (obind (w_b ((12:Int),b_2.2)) fun b_3=>obind (w_H b_3.2) fun b_4=>some
 (b_4.2,wr .i64 ((1:Int)+b_1.1),b.1,x.1,wr .i64 ((1:Int)+b_2.1),(0:Int),(0:Int),[],wr .i64 ((1:Int)+b_3.1),(0:Int),b_4.1)) (obind
 (cnd (decide (wr .i64 ((1:Int)+b_1.1)=(8:Int))) (some (decide (wr .i64 ((1:Int)+b_1.1)=(8:Int)),b_2.2,b.2.2,wr .i64 ((1:Int)+b_1.1),
 b.1,x.1,wr .i64 ((1:Int)+b_2.1),(0:Int),(0:Int),[],(0:Int),(0:Int),[])) (some (decide (wr .i64 ((1:Int)+b_1.1)=(9:Int)),b_2.2,b.2.2,
 wr .i64 ((1:Int)+b_1.1),b.1,x.1,wr .i64 ((1:Int)+b_2.1),(0:Int),(0:Int),[],(0:Int),(0:Int),[]))) fun(b:Bool×(List Int×Int)×A2_×A2_)=>
 cnd b.1 (obind (w_b ((9:Int),b.2.1)) fun b_3=>obind (w_b ((6:Int),b_3.2)) fun b_4=>some (b_4.2,b.2.2.2.1,b.2.2.2.2.1,
 b.2.2.2.2.2.1,b.2.2.2.2.2.2.1,b.2.2.2.2.2.2.2.1,b.2.2.2.2.2.2.2.2.1,b.2.2.2.2.2.2.2.2.2.1,wr .i64 ((1:Int)+b_3.1),wr .i64 (wr .i64 ((1:Int)
 + b_3.1)+b_4.1),b.2.2.2.2.2.2.2.2.2.2.2.2)) (some (b.2.1,b.2.2.2)))))
theorem q_I:∀w_b w_L w_H N x,u_I.F L0 P0 (orcOf [u_b.con w_b,u_L.con w_L,u_H.con w_H]) N x=V_I w_b w_L w_H N x:=by intros;kernel_rfl
def W_I (N:Nat):=V_I (W_b N) (W_L N) (W_H N) N
theorem con_I_ok (N:Nat):(u_I.con (W_I N)).ok P0:=Uf.ok mixed (q_I (W_b N) (W_L N) (W_H N) N) ⟨con_b_ok N,con_L_ok N,con_H_ok N,trivial⟩ Tryz.func16 (by kernel_rfl) fun x y=>by kernel_rfl
def u_R:Uf:=⟨119,25,Tryz.f119,[.val (.list T3_),.val (.int .i64)],[],
⟨[(4,.ptr 600004 0),(5,.val .bool)],[(600004,.box 53 (.val (.pair (.int .i64) T6_)))]⟩,[],
[(2,.loop [] ⟨[(4,.ptr 600004 0),(6,.val (.int .i64))],[(600004,.box 53 (.val (.pair (.int .i64) T6_)))]⟩ [(.exit 0,⟨[(4,.ptr 600004 0)],[(600004,.box 53 (.val (.pair (.int .i64) T6_)))]⟩),(.ret,⟨[(4,.ptr 600004 0),(5,.val .bool)],[(600004,.box 53 (.val (.pair (.int .i64) T6_)))]⟩)])],
[],fun y=>(.tup [valW T3_ y.2,valW .bool y.1],[],[])⟩
def V_R (N:Nat) (x:List (Int×Int×Int)×Int):Option (Bool×Int×Int×Int):=
 obind (loopN N (fun(v:Int×Int×Int×Int)=>cnd (decide (v.1<(↑(List.length x.1):Int))) (cnd (decide ((0:Int)≤v.1)&&decide (v.1 <
 (↑(List.length x.1):Int))) (cnd (decide (Prod.fst (List.getD x.1 (Int.toNat v.1) ((0:Int),(0:Int),(0:Int)))=x.2)) (cnd (decide ((0:Int)≤v.1)
 && decide (v.1<(↑(List.length x.1):Int))) (some (Sum.inr (Sum.inr (true,Prod.fst (List.getD x.1 (Int.toNat v.1) ((0:Int),(0:Int),(0:Int))),
 Prod.fst (Prod.snd (List.getD x.1 (Int.toNat v.1) ((0:Int),(0:Int),(0:Int)))),Prod.snd (Prod.snd (List.getD x.1 (Int.toNat v.1) ((0:Int),
 (0:Int),(0:Int)))))))) none) (some (Sum.inl (wr .i64 (v.1+(1:Int)),v.2)))) none) (some (Sum.inr (Sum.inl v.2)))) ((0:Int),(0:Int),(0:Int),
 (0:Int))) fun(b:Int×Int×Int⊕Bool×Int×Int×Int)=>selim (fun(b:Int×Int×Int)=>some (false,(0:Int),(0:Int),(0:Int))) (fun(c
 : Bool×Int×Int×Int)=>some c) b
theorem q_R:∀N x,u_R.F L0 P0 (orcOf []) N x=V_R N x:=by intros;kernel_rfl
def W_R (N:Nat):=V_R N
theorem con_R_ok (N:Nat):(u_R.con (W_R N)).ok P0:=Uf.ok mixed (q_R N) trivial Tryz.func119 (by kernel_rfl) fun x y=>by kernel_rfl
def u_2:Uf:=⟨118,22,Tryz.f118,[.val (.list T3_),.val (.int .i64),.val (.int .i64)],[],
⟨[(6,.val .bool)],[]⟩,[],
[],
[],fun y=>(valW .bool y,[],[])⟩
def V_2 (w_R:List (Int×Int×Int)×Int→Option (Bool×Int×Int×Int)) (N:Nat) (x:List (Int×Int×Int)×Int×Int):Option (Bool):=
 obind (w_R (x.1,x.2.1)) fun b=>cnd b.1 (some (decide (x.2.2<b.2.2.1))) (some false)
theorem q_2:∀w_R N x,u_2.F L0 P0 (orcOf [u_R.con w_R]) N x=V_2 w_R N x:=by intros;kernel_rfl
def W_2 (N:Nat):=V_2 (W_R N) N
theorem con_2_ok (N:Nat):(u_2.con (W_2 N)).ok P0:=Uf.ok mixed (q_2 (W_R N) N) ⟨con_R_ok N,trivial⟩ Tryz.func118 (by kernel_rfl) fun x y=>by kernel_rfl
def u_W:Uf:=⟨124,28,Tryz.f124,[.val (.list T3_),.val (.int .i64)],[],
⟨[(4,.acc 700005)],[(700005,.nrow 53 T3_ false true)]⟩,[],
[(3,.loop [] ⟨[(5,.acc 700005),(6,.val (.int .i64))],[(700005,.nrow 53 T3_ false true)]⟩ [(.exit 0,⟨[(5,.acc 700005)],[(700005,.nrow 53 T3_ false true)]⟩)])],
[],fun y=>(.acc 2000000 0,[],[.nrow 53 false true ⟨T3_,y⟩])⟩
def V_W (N:Nat) (x:List (Int×Int×Int)×Int):Option (List (Int×Int×Int)):=
 obind (loopN N (fun(v:Int×List (Int×Int×Int))=>cnd (decide (v.1<(↑(List.length x.1):Int))) (cnd (decide ((0:Int)≤v.1)&&decide (v.1
 < (↑(List.length x.1):Int))) (cnd (decide (Prod.fst (List.getD x.1 (Int.toNat v.1) ((0:Int),(0:Int),(0:Int)))≠x.2)) (cnd (decide ((0:Int) ≤
 v.1)&&decide (v.1<(↑(List.length x.1):Int))) (cnd (decide ((List.length v.2+List.length [(Prod.fst (List.getD x.1 (Int.toNat v.1) ((0:Int),
 (0:Int),(0:Int))),Prod.fst (Prod.snd (List.getD x.1 (Int.toNat v.1) ((0:Int),(0:Int),(0:Int)))),Prod.snd (Prod.snd (List.getD x.1 (Int.toNat
 v.1) ((0:Int),(0:Int),(0:Int)))))])*(24:Nat)≤(140737488355328:Nat))) (some (Sum.inl (wr .i64 (v.1+(1:Int)),v.2++[(Prod.fst (List.getD x.1
 (Int.toNat v.1) ((0:Int),(0:Int),(0:Int))),Prod.fst (Prod.snd (List.getD x.1 (Int.toNat v.1) ((0:Int),(0:Int),(0:Int)))),Prod.snd (Prod.snd
 (List.getD x.1 (Int.toNat v.1) ((0:Int),(0:Int),(0:Int)))))]))) none) none) (some (Sum.inl (wr .i64 (v.1+(1:Int)),v.2)))) none) (some (Sum.inr
 v.2))) ((0:Int),[])) fun(b:List (Int×Int×Int))=>some b
theorem q_W:∀N x,u_W.F L0 P0 (orcOf []) N x=V_W N x:=by intros;kernel_rfl
def W_W (N:Nat):=V_W N
theorem con_W_ok (N:Nat):(u_W.con (W_W N)).ok P0:=Uf.ok mixed (q_W N) trivial Tryz.func124 (by kernel_rfl) fun x y=>by kernel_rfl
def u_ax:Uf:=⟨121,49,Tryz.f121,[.val (.list T3_),.val T3_],[],
⟨[(4,.val (.list T3_)),(5,.val .bool)],[]⟩,[],
[(5,.loop [] ⟨[(3,.ptr 600003 0),(6,.acc 700018),(7,.val (.int .i64))],[(600003,.box 53 (.val (.pair (.int .i64) T6_))),(700018,.nrow 53 T3_ true true)]⟩ [(.exit 0,⟨[(3,.ptr 600003 0),(6,.acc 700018)],[(600003,.box 53 (.val (.pair (.int .i64) T6_))),(700018,.nrow 53 T3_ true true)]⟩),(.ret,⟨[(4,.val (.list T3_)),(5,.val .bool)],[]⟩)])],
[],fun y=>(.tup [valW (.list T3_) y.1,valW .bool y.2],[],[])⟩
def V_ax (w_2:List (Int×Int×Int)×Int×Int→Option (Bool)) (w_W:List (Int×Int×Int)×Int→Option (List (Int×Int×Int))) (N:Nat) (x:List (Int×Int×Int)×Int×Int×Int):Option (List (Int×Int×Int)×Bool):=
 obind (w_2 (x.1,x.2.1,x.2.2.1)) fun b=>cnd b (some (x.1,false)) (obind (w_W (x.1,x.2.1)) fun b=>obind (loopN N (fun(v:
 Int×(Int×Int×Int)×List (Int×Int×Int))=>cnd (decide (v.1<(↑(List.length v.2.2):Int))) (cnd (decide ((0:Int)≤v.1)&&decide (v.1 <
 (↑(List.length v.2.2):Int))) (cnd (decide (v.2.1.1<Prod.fst (List.getD v.2.2 (Int.toNat v.1) ((0:Int),(0:Int),(0:Int))))) (cnd (decide
 (Option.getD none (0:Int)≤v.1)) (cnd (decide ((↑(0:Nat):Int)+v.1≤(↑(List.length v.2.2):Int))) (cnd (decide (List.length (List.drop
 ((0:Nat)+Prod.fst (Prod.snd (cutT (0:Nat) (List.length v.2.2) (List.length v.2.2) none (some v.1)))) (List.take ((0:Nat)+Prod.fst (Prod.snd
 (cutT (0:Nat) (List.length v.2.2) (List.length v.2.2) none (some v.1)))+(Prod.snd (Prod.snd (cutT (0:Nat) (List.length v.2.2) (List.length v.2.2)
 none (some v.1)))-Prod.fst (Prod.snd (cutT (0:Nat) (List.length v.2.2) (List.length v.2.2) none (some v.1))))) v.2.2))*(24:Nat) ≤
 (140737488355328:Nat))) (cnd (decide ((List.length (List.drop ((0:Nat)+Prod.fst (Prod.snd (cutT (0:Nat) (List.length v.2.2) (List.length v.2.2)
 none (some v.1)))) (List.take ((0:Nat)+Prod.fst (Prod.snd (cutT (0:Nat) (List.length v.2.2) (List.length v.2.2) none (some v.1)))+(Prod.snd
 (Prod.snd (cutT (0:Nat) (List.length v.2.2) (List.length v.2.2) none (some v.1)))-Prod.fst (Prod.snd (cutT (0:Nat) (List.length v.2.2)
 (List.length v.2.2) none (some v.1))))) v.2.2))+List.length [v.2.1])*(24:Nat)≤(140737488355328:Nat))) (cnd (decide ((0:Int)≤Option.getD
 (some v.1) (0:Int))) (cnd (decide (Option.getD (some v.1) (0:Int)≤(↑(List.length v.2.2):Int))) (cnd (decide ((List.length (List.drop ((0:Nat) +
 Prod.fst (Prod.snd (cutT (0:Nat) (List.length v.2.2) (List.length v.2.2) none (some v.1)))) (List.take ((0:Nat)+Prod.fst (Prod.snd (cutT (0:Nat)
 (List.length v.2.2) (List.length v.2.2) none (some v.1)))+(Prod.snd (Prod.snd (cutT (0:Nat) (List.length v.2.2) (List.length v.2.2) none (some
 v.1)))-Prod.fst (Prod.snd (cutT (0:Nat) (List.length v.2.2) (List.length v.2.2) none (some v.1))))) v.2.2)++[v.2.1])+List.length (List.drop
 ((0:Nat)+Prod.fst (Prod.snd (cutT (0:Nat) (List.length v.2.2) (List.length v.2.2) (some v.1) none))) (List.take ((0:Nat)+Prod.fst (Prod.snd
 (cutT (0:Nat) (List.length v.2.2) (List.length v.2.2) (some v.1) none))+(Prod.snd (Prod.snd (cutT (0:Nat) (List.length v.2.2) (List.length v.2.2)
 (some v.1) none))-Prod.fst (Prod.snd (cutT (0:Nat) (List.length v.2.2) (List.length v.2.2) (some v.1) none)))) v.2.2)))*(24:Nat) ≤
 (140737488355328:Nat))) (some (Sum.inr (Sum.inr (List.drop ((0:Nat)+Prod.fst (Prod.snd (cutT (0:Nat) (List.length v.2.2) (List.length v.2.2) none
 (some v.1)))) (List.take ((0:Nat)+Prod.fst (Prod.snd (cutT (0:Nat) (List.length v.2.2) (List.length v.2.2) none (some v.1)))+(Prod.snd (Prod.snd
 (cutT (0:Nat) (List.length v.2.2) (List.length v.2.2) none (some v.1)))-Prod.fst (Prod.snd (cutT (0:Nat) (List.length v.2.2) (List.length v.2.2)
 none (some v.1))))) v.2.2)++[v.2.1]++List.drop ((0:Nat)+Prod.fst (Prod.snd (cutT (0:Nat) (List.length v.2.2) (List.length v.2.2) (some v.1)
 none))) (List.take ((0:Nat)+Prod.fst (Prod.snd (cutT (0:Nat) (List.length v.2.2) (List.length v.2.2) (some v.1) none))+(Prod.snd (Prod.snd (cutT
 (0:Nat) (List.length v.2.2) (List.length v.2.2) (some v.1) none))-Prod.fst (Prod.snd (cutT (0:Nat) (List.length v.2.2) (List.length v.2.2) (some
 v.1) none)))) v.2.2),true)))) none) none) none) none) none) none) none) (some (Sum.inl (wr .i64 (v.1+(1:Int)),v.2)))) none) (some (Sum.inr
 (Sum.inl v.2)))) ((0:Int),x.2,b)) fun(b:(Int×Int×Int)×List (Int×Int×Int)⊕List (Int×Int×Int)×Bool)=>selim (fun(b:(Int×Int×Int)×List (Int×Int×Int))=>cnd (decide ((List.length b.2+List.length [b.1])*(24:Nat)≤(140737488355328:Nat))) (some (b.2++[b.1],
 true)) none) (fun(c:List (Int×Int×Int)×Bool)=>some c) b)
theorem q_ax:∀w_2 w_W N x,u_ax.F L0 P0 (orcOf [u_2.con w_2,u_W.con w_W]) N x=V_ax w_2 w_W N x:=by intros;kernel_rfl
def W_ax (N:Nat):=V_ax (W_2 N) (W_W N) N
theorem con_ax_ok (N:Nat):(u_ax.con (W_ax N)).ok P0:=Uf.ok mixed (q_ax (W_2 N) (W_W N) N) ⟨con_2_ok N,con_W_ok N,trivial⟩ Tryz.func121 (by kernel_rfl) fun x y=>by kernel_rfl
def u_a4:Uf:=⟨157,12,Tryz.f157,[.val (.list (.int .i64))],[],
⟨[(2,.val (.int .i64))],[]⟩,[],
[],
[],fun y=>(valW (.int .i64) y,[],[])⟩
def V_a4 (N:Nat) (x:List Int):Option (Int):=
 cnd (decide ((↑(List.length x):Int)<(2:Int))) (some (0:Int)) (cnd (decide ((0:Int)≤wr .i64 ((↑(List.length x):Int)-(2:Int)))&&decide (wr
 .i64 ((↑(List.length x):Int)-(2:Int))<(↑(List.length x):Int))) (some (List.getD x (Int.toNat (wr .i64 ((↑(List.length x):Int)-(2:Int))))
 (0:Int))) none)
theorem q_a4:∀N x,u_a4.F L0 P0 (orcOf []) N x=V_a4 N x:=by intros;kernel_rfl
def W_a4 (N:Nat):=V_a4 N
theorem con_a4_ok (N:Nat):(u_a4.con (W_a4 N)).ok P0:=Uf.ok mixed (q_a4 N) trivial Tryz.func157 (by kernel_rfl) fun x y=>by kernel_rfl
def u_U:Uf:=⟨123,9,Tryz.f123,[.val (.list (.int .i64))],[],
⟨[(2,.val (.int .i64))],[]⟩,[],
[],
[],fun y=>(valW (.int .i64) y,[],[])⟩
def V_U (w_a4:List Int→Option (Int)) (N:Nat) (x:List Int):Option (Int):=
 obind (w_a4 x) fun b=>cnd (decide (b=(0:Int))) (some (1:Int)) (some b)
theorem q_U:∀w_a4 N x,u_U.F L0 P0 (orcOf [u_a4.con w_a4]) N x=V_U w_a4 N x:=by intros;kernel_rfl
def W_U (N:Nat):=V_U (W_a4 N) N
theorem con_U_ok (N:Nat):(u_U.con (W_U N)).ok P0:=Uf.ok mixed (q_U (W_a4 N) N) ⟨con_a4_ok N,trivial⟩ Tryz.func123 (by kernel_rfl) fun x y=>by kernel_rfl
def u_aR:Uf:=⟨122,89,Tryz.f122,[.val (.agg T0_),.val (.agg T_)],[],
⟨[(4,.ptr 600004 0),(5,.val (.list (.agg T_)))],[(600004,.box 31 (.val T0_))]⟩,[],
[],
[(1000003,.reg [(10,[],⟨[(2,.ptr 600002 0),(3,.ptr 600003 0),(4,.ptr 600004 0),(28,.val .bool)],[(600002,.box 31 (.val T0_)),(600003,.box 46 (.val T_)),(600004,.box 31 (.val T0_))]⟩)]),
(5,.cut [] [(.normal,⟨[(2,.ptr 600002 0),(3,.ptr 600003 0),(4,.ptr 600004 0)],[(600002,.box 31 (.val T0_)),(600003,.box 46 (.val T_)),(600004,.box 31 (.val T0_))]⟩),(.ret,⟨[(4,.ptr 600004 0),(5,.val (.list (.agg T_)))],[(600004,.box 31 (.val T0_))]⟩)]),
(3,.cut [] [(.normal,⟨[(2,.ptr 600002 0),(3,.ptr 600003 0),(4,.ptr 600004 0)],[(600002,.box 31 (.val T0_)),(600003,.box 46 (.val T_)),(600004,.box 31 (.val T0_))]⟩),(.ret,⟨[(4,.ptr 600004 0),(5,.val (.list (.agg T_)))],[(600004,.box 31 (.val T0_))]⟩)])],fun y=>(.tup [valW (.agg T0_) y.2,valW (.list (.agg T_)) y.1],[],[])⟩
def V_aR (w_j:A1_×Int×Int→Option (M_)) (w_t:List Int×Int→Option (List Int×Bool)) (w_U:List Int→Option (Int)) (N:Nat) (x:A1_×M_):Option (List (M_)×A1_):=
 obind (cnd (decide (x.1.2.2.2.1≠(0:Int))) (cnd (decide (x.2.2.1=x.1.2.2.2.1)) (some (Sum.inr ([],x.1))) (some (Sum.inl (x.1,x.2,(0:Int),
 (0:Int),(0:Int),(0:Int),(0:Int),(0:Int),[],(0:Int),(0:Int),(0:Int),(0:Int),(0:Int),[])))) (some (Sum.inl (x.1,x.2,(0:Int),(0:Int),
 (0:Int),(0:Int),(0:Int),(0:Int),[],(0:Int),(0:Int),(0:Int),(0:Int),(0:Int),[])))) fun(b:A1_×A2_×Int×Int×Int×Int×Int×Int×List Int×Int×Int×Int×Int×Int×List (Int×Int×Int)⊕List A2_×A1_)=>selim (fun(b:A1_×A2_×A1_)=>obind (obind (cnd (decide
 (b.1.2.2.2.2.2.2.2.2.2.1=(0:Int))) (some (true,b)) (some (decide (b.1.2.2.2.2.2.2.2.2.2.1≠b.2.1.2.1),b))) fun(b:Bool×A1_×A2_×A1_)=>cnd b.1 (obind (w_j
 (b.2.1,(6:Int),b.2.2.1.2.1)) fun b_1=>some (Sum.inr ([b_1],b.2.1))) (cnd (decide (b.2.1.2.2.2.1≠(0:Int))) (obind (w_j (b.2.1,
 (6:Int),b.2.2.1.2.1)) fun b_1=>some (Sum.inr ([b_1],b.2.1))) (some (Sum.inl b.2)))) fun(b:A1_×A2_×Int×Int×Int×Int×Int×Int×List Int×Int×Int×Int×Int×Int×List (Int×Int×Int)⊕List A2_×A1_)=>selim (fun(b:A1_×A2_×A1_)=>obind (w_t
 (b.2.1.2.2.2.2.2.2.1,b.1.1)) fun b_1=>cnd (!b_1.2) (obind (w_j ((b.1.1,b.1.2.1,b.1.2.2.1,b.1.2.2.2.1,b.1.2.2.2.2.1,
 b.1.2.2.2.2.2.1,b.1.2.2.2.2.2.2.1,b.1.2.2.2.2.2.2.2.1,b.1.2.2.2.2.2.2.2.2.1,(0:Int),b.1.2.2.2.2.2.2.2.2.2.2.1,wr .i64
 (b.1.2.2.2.2.2.2.2.2.2.2.2.1+(1:Int)),b.1.2.2.2.2.2.2.2.2.2.2.2.2),(6:Int),b.2.1.2.1)) fun b_2=>some ([b_2],b.1.1,b.1.2.1,b.1.2.2.1,
 b.1.2.2.2.1,b.1.2.2.2.2.1,b.1.2.2.2.2.2.1,b.1.2.2.2.2.2.2.1,b.1.2.2.2.2.2.2.2.1,b.1.2.2.2.2.2.2.2.2.1,(0:Int),b.1.2.2.2.2.2.2.2.2.2.2.1,wr
 .i64 (b.1.2.2.2.2.2.2.2.2.2.2.2.1+(1:Int)),b.1.2.2.2.2.2.2.2.2.2.2.2.2)) (cnd (decide ((20:Int)<b.2.1.2.2.2.2.2.1)) (obind (w_j
 ((b.1.1,b.1.2.1,b.1.2.2.1,b.1.2.2.2.1,b.1.2.2.2.2.1,b.1.2.2.2.2.2.1,b.1.2.2.2.2.2.2.1,b.1.2.2.2.2.2.2.2.1,b.1.2.2.2.2.2.2.2.2.1,(0:Int),
 b.1.2.2.2.2.2.2.2.2.2.2.1,wr .i64 (b.1.2.2.2.2.2.2.2.2.2.2.2.1+(1:Int)),b.1.2.2.2.2.2.2.2.2.2.2.2.2),(6:Int),b.2.1.2.1)) fun b_2=>some
 ([b_2],b.1.1,b.1.2.1,b.1.2.2.1,b.1.2.2.2.1,b.1.2.2.2.2.1,b.1.2.2.2.2.2.1,b.1.2.2.2.2.2.2.1,b.1.2.2.2.2.2.2.2.1,b.1.2.2.2.2.2.2.2.2.1,
 (0:Int),b.1.2.2.2.2.2.2.2.2.2.2.1,wr .i64 (b.1.2.2.2.2.2.2.2.2.2.2.2.1+(1:Int)),b.1.2.2.2.2.2.2.2.2.2.2.2.2)) (obind (w_U
 b.2.1.2.2.2.2.2.2.1) fun b_2=>some ([],b.1.1,b.1.2.1,b.1.2.2.1,b.2.1.2.1,b.2.1.2.2.2.1,b_2,b_1.1,b.2.1.2.2.2.2.1,wr .i64 (b.1.2.2.1 -
 b.2.1.2.2.2.2.2.1),(0:Int),b.1.2.2.2.2.2.2.2.2.2.2.1,(0:Int),b.1.2.2.2.2.2.2.2.2.2.2.2.2)))) (fun(c:List A2_×A1_)=>some c)
 b) (fun(c:List A2_×A1_)=>some c) b
theorem q_aR:∀w_j w_t w_U N x,u_aR.F L0 P0 (orcOf [u_j.con w_j,u_t.con w_t,u_U.con w_U]) N x=V_aR w_j w_t w_U N x:=by intros;kernel_rfl
def W_aR (N:Nat):=V_aR (W_j N) (W_t N) (W_U N) N
theorem con_aR_ok (N:Nat):(u_aR.con (W_aR N)).ok P0:=Uf.ok mixed (q_aR (W_j N) (W_t N) (W_U N) N) ⟨con_j_ok N,con_t_ok N,con_U_ok N,trivial⟩ Tryz.func122 (by kernel_rfl) fun x y=>by kernel_rfl
def u_aq:Uf:=⟨62,246,Tryz.f62,[.val (.agg T0_),.val (.agg T_),.val (.int .i64)],[],
⟨[(6,.ptr 600006 0),(7,.val (.list (.agg T_)))],[(600006,.box 31 (.val T0_))]⟩,[],
[],
[(1000012,.reg [(10,[],⟨[(3,.ptr 600003 0),(4,.ptr 600004 0),(6,.ptr 600006 0),(87,.val .bool)],[(600003,.box 31 (.val T0_)),(600004,.box 46 (.val T_)),(600006,.box 31 (.val T0_))]⟩)]),
(14,.cut [] [(.normal,⟨[(3,.ptr 600003 0),(4,.ptr 600004 0),(6,.ptr 600006 0)],[(600003,.box 31 (.val T0_)),(600004,.box 46 (.val T_)),(600006,.box 31 (.val T0_))]⟩),(.ret,⟨[(6,.ptr 600006 0),(7,.val (.list (.agg T_)))],[(600006,.box 31 (.val T0_))]⟩)]),
(12,.cut [] [(.normal,⟨[(3,.ptr 600003 0),(4,.ptr 600004 0),(6,.ptr 600006 0),(11,.val (.int .i64))],[(600003,.box 31 (.val T0_)),(600004,.box 46 (.val T_)),(600006,.box 31 (.val T0_))]⟩)]),
(23,.cut [] [(.normal,⟨[(3,.ptr 600003 0),(6,.ptr 600006 0)],[(600003,.box 31 (.val T0_)),(600006,.box 31 (.val T0_))]⟩)]),
(6,.cut [] [(.normal,⟨[(3,.ptr 600003 0),(4,.ptr 600004 0),(6,.ptr 600006 0),(8,.val .bool)],[(600003,.box 31 (.val T0_)),(600004,.box 46 (.val T_)),(600006,.box 31 (.val T0_))]⟩)]),
(5,.cut [] [(.normal,⟨[(3,.ptr 600003 0),(4,.ptr 600004 0),(6,.ptr 600006 0)],[(600003,.box 31 (.val T0_)),(600004,.box 46 (.val T_)),(600006,.box 31 (.val T0_))]⟩)]),
(3,.cut [] [(.normal,⟨[(3,.ptr 600003 0),(4,.ptr 600004 0),(6,.ptr 600006 0)],[(600003,.box 31 (.val T0_)),(600004,.box 46 (.val T_)),(600006,.box 31 (.val T0_))]⟩),(.ret,⟨[(6,.ptr 600006 0),(7,.val (.list (.agg T_)))],[(600006,.box 31 (.val T0_))]⟩)])],fun y=>(.tup [valW (.agg T0_) y.2,valW (.list (.agg T_)) y.1],[],[])⟩
def V_aq (w_2:List (Int×Int×Int)×Int×Int→Option (Bool)) (w_Y:A1_×Int→Option A1_) (w_R:List (Int×Int×Int)×Int→Option (Bool×Int×Int×Int)) (w_O:A1_→Option (Bool)) (w_1:List Int×Int→Option (Bool)) (w_j:A1_×Int×Int→Option (M_)) (w_ax:List (Int×Int×Int)×Int×Int×Int→Option (List (Int×Int×Int)×Bool)) (w_Q:A1_×Int×Int→Option (M_)) (w_aR:A1_×M_→Option (List (M_)×A1_)) (w_t:List Int×Int→Option (List Int×Bool)) (w_U:List Int→Option (Int)) (w_W:List (Int×Int×Int)×Int→Option (List (Int×Int×Int))) (N:Nat) (x:A1_×(M_)×Int):Option (List (M_)×A1_):=
 obind (obind (w_2 (x.1.2.2.2.2.2.2.2.2.2.2.2.2,x.2.1.2.1,x.2.1.2.2.2.1)) fun b=>cnd b (some (Sum.inr ([],x.1))) (cnd (decide (x.2.1.2.1
 = x.1.2.2.2.1)) (cnd (decide (x.2.1.2.2.2.1<x.1.2.2.2.2.1)) (some (Sum.inr ([],x.1))) (some (Sum.inl (x.1,x.2.1,(0:Int),(0:Int),(0:Int),
 (0:Int),(0:Int),(0:Int),[],(0:Int),(0:Int),(0:Int),(0:Int),(0:Int),[])))) (some (Sum.inl (x.1,x.2.1,(0:Int),(0:Int),(0:Int),(0:Int),
 (0:Int),(0:Int),[],(0:Int),(0:Int),(0:Int),(0:Int),(0:Int),[]))))) fun(b:A1_×A2_×Int×Int×Int×Int×Int×Int×List Int×Int×Int×Int×Int×Int×List (Int×Int×Int)⊕List A2_×A1_)=>selim (fun(b:A1_×A2_×A1_)=>obind (cnd (decide (b.2.1.2.1=
 b.1.2.2.2.1)) (cnd (decide (b.1.2.2.2.2.1<b.2.1.2.2.2.1)) (obind (w_Y (b.1,(0:Int))) fun b_1=>some (b_1,b.2)) (some b)) (some b))
 fun(b:A1_×A2_×A1_)=>obind
 (cnd (decide (b.1.2.2.2.1≠(0:Int))) (some (decide (b.2.1.2.1=b.1.2.2.2.1),b)) (some (false,b))) fun(b:Bool×A1_×A2_×A1_)=>cnd (decide (b.2.2.1.1=(1:Int))) (obind
 (w_R (b.2.1.2.2.2.2.2.2.2.2.2.2.2.2,b.2.2.1.2.1)) fun b_1=>obind (cnd (decide (b.2.1.1=(1:Int))) (some ((8:Int),b.2)) (some
 ((3:Int),b.2))) fun(b:Int×A1_×A2_×A1_)=>obind (obind (obind (w_O b.2.1) fun b_2=>cnd (!b_2) (some (true,b.2)) (obind (w_1 (b.2.1.2.2.2.2.2.2.1,
 b.2.2.1.2.1)) fun b_3=>some (b_3,b.2))) fun(b_2:Bool×A1_×A2_×A1_)=>cnd b_2.1 (obind (w_j (b_2.2.1,(3:Int),b_2.2.2.1.2.1)) fun b=>some (Sum.inr ([b],
 b_2.2.1))) (cnd (!b_1.1) (cnd (decide (b.1≤(↑(List.length b_2.2.1.2.2.2.2.2.2.2.2.2.2.2.2):Int))) (obind (w_j (b_2.2.1,(3:Int),
 b_2.2.2.1.2.1)) fun b=>some (Sum.inr ([b],b_2.2.1))) (some (Sum.inl b_2.2))) (some (Sum.inl b_2.2)))) fun(b:A1_×A2_×Int×Int×Int×Int×Int×Int×List Int×Int×Int×Int×Int×Int×List (Int×Int×Int)⊕List A2_×A1_)=>selim (fun(b:
 A1_×A2_×A1_)=>obind
 (w_ax (b.1.2.2.2.2.2.2.2.2.2.2.2.2,b.2.1.2.1,b.2.1.2.2.2.1,b.1.2.2.1)) fun b_2=>obind (w_Q ((b.1.1,b.1.2.1,b.1.2.2.1,
 b.1.2.2.2.1,b.1.2.2.2.2.1,b.1.2.2.2.2.2.1,b.1.2.2.2.2.2.2.1,b.1.2.2.2.2.2.2.2.1,b.1.2.2.2.2.2.2.2.2.1,b.1.2.2.2.2.2.2.2.2.2.1,
 b.1.2.2.2.2.2.2.2.2.2.2.1,b.1.2.2.2.2.2.2.2.2.2.2.2.1,b_2.1),(2:Int),b.2.1.2.1)) fun b_3=>some ([(b_3.1,b_3.2.1,b_3.2.2.1,b_3.2.2.2.1,
 b_3.2.2.2.2.1,b_3.2.2.2.2.2.1,b_3.2.2.2.2.2.2.1,x.2.2,b_3.2.2.2.2.2.2.2.2)],b.1.1,b.1.2.1,b.1.2.2.1,b.1.2.2.2.1,b.1.2.2.2.2.1,
 b.1.2.2.2.2.2.1,b.1.2.2.2.2.2.2.1,b.1.2.2.2.2.2.2.2.1,b.1.2.2.2.2.2.2.2.2.1,b.1.2.2.2.2.2.2.2.2.2.1,b.1.2.2.2.2.2.2.2.2.2.2.1,
 b.1.2.2.2.2.2.2.2.2.2.2.2.1,b_2.1)) (fun(c:List A2_×A1_)=>some c) b) (cnd (decide (b.2.2.1.1=(2:Int))) (obind
 (w_aR (b.2.1,b.2.2.1)) fun b=>some b) (cnd (decide (b.2.2.1.1=(3:Int))) (obind (cnd (decide (b.2.1.2.2.2.2.2.2.2.2.2.1 ≠
 (0:Int))) (cnd (decide (b.2.1.2.2.2.2.2.2.2.2.2.1=b.2.2.1.2.1)) (some ((b.2.1.1,b.2.1.2.1,b.2.1.2.2.1,b.2.1.2.2.2.1,b.2.1.2.2.2.2.1,
 b.2.1.2.2.2.2.2.1,b.2.1.2.2.2.2.2.2.1,b.2.1.2.2.2.2.2.2.2.1,b.2.1.2.2.2.2.2.2.2.2.1,(0:Int),b.2.1.2.2.2.2.2.2.2.2.2.2.1,wr .i64
 (b.2.1.2.2.2.2.2.2.2.2.2.2.2.1+(1:Int)),b.2.1.2.2.2.2.2.2.2.2.2.2.2.2),b.2.2.2)) (some (b.2.1,b.2.2.2))) (some (b.2.1,b.2.2.2))) fun(b_1:
 A1_×A1_)=>cnd b.1 (obind (w_Y (b_1.1,(0:Int))) fun b=>some ([],b)) (some ([],
 b_1.1))) (cnd (decide (b.2.2.1.1=(4:Int))) (obind (w_R (b.2.1.2.2.2.2.2.2.2.2.2.2.2.2,b.2.2.1.2.1)) fun b_1=>cnd (!b_1.1) (obind
 (w_j (b.2.1,(3:Int),b.2.2.1.2.1)) fun b_2=>some ([b_2],b.2.1)) (obind (w_ax (b.2.1.2.2.2.2.2.2.2.2.2.2.2.2,b.2.2.1.2.1,
 b.2.2.1.2.2.2.1,b.2.1.2.2.1)) fun b_2=>some ([],b.2.1.1,b.2.1.2.1,b.2.1.2.2.1,b.2.1.2.2.2.1,b.2.1.2.2.2.2.1,b.2.1.2.2.2.2.2.1,
 b.2.1.2.2.2.2.2.2.1,b.2.1.2.2.2.2.2.2.2.1,b.2.1.2.2.2.2.2.2.2.2.1,b.2.1.2.2.2.2.2.2.2.2.2.1,b.2.1.2.2.2.2.2.2.2.2.2.2.1,
 b.2.1.2.2.2.2.2.2.2.2.2.2.2.1,b_2.1))) (cnd (decide (b.2.2.1.1=(5:Int))) (cnd (!b.1) (obind (w_j (b.2.1,(6:Int),b.2.2.1.2.1)) fun
 b_1=>some ([b_1],b.2.1)) (obind (w_t (b.2.2.1.2.2.2.2.2.2.1,b.2.1.1)) fun b_1=>cnd (!b_1.2) (obind (w_Y (b.2.1,
 (1:Int))) fun b_2=>obind (w_j (b.2.1,(6:Int),b.2.2.1.2.1)) fun b=>some ([b],b_2)) (obind (w_U b.2.2.1.2.2.2.2.2.2.1)
 fun b_2=>cnd (decide (b.2.1.2.2.2.2.2.2.2.2.1<wr .i64 (b.2.1.2.2.1-b.2.2.1.2.2.2.2.2.1))) (some ([],b.2.1.1,b.2.1.2.1,b.2.1.2.2.1,
 b.2.1.2.2.2.1,b.2.1.2.2.2.2.1,b_2,b_1.1,b.2.2.1.2.2.2.2.1,wr .i64 (b.2.1.2.2.1-b.2.2.1.2.2.2.2.2.1),b.2.1.2.2.2.2.2.2.2.2.2)) (some ([],
 b.2.1.1,b.2.1.2.1,b.2.1.2.2.1,b.2.1.2.2.2.1,b.2.1.2.2.2.2.1,b_2,b_1.1,b.2.1.2.2.2.2.2.2.2))))) (cnd (decide (b.2.2.1.1=(6:Int))) (obind
 (w_W (b.2.1.2.2.2.2.2.2.2.2.2.2.2.2,b.2.2.1.2.1)) fun b_1=>some ([],b.2.1.1,b.2.1.2.1,b.2.1.2.2.1,b.2.1.2.2.2.1,b.2.1.2.2.2.2.1,
 b.2.1.2.2.2.2.2.1,b.2.1.2.2.2.2.2.2.1,b.2.1.2.2.2.2.2.2.2.1,b.2.1.2.2.2.2.2.2.2.2.1,b.2.1.2.2.2.2.2.2.2.2.2.1,b.2.1.2.2.2.2.2.2.2.2.2.2.1,
 b.2.1.2.2.2.2.2.2.2.2.2.2.2.1,b_1)) (some ([],b.2.1)))))))) (fun(c:List A2_×A1_)=>some c) b
theorem q_aq:∀w_2 w_Y w_R w_O w_1 w_j w_ax w_Q w_aR w_t w_U w_W N x,u_aq.F L0 P0 (orcOf [u_2.con w_2,u_Y.con w_Y,u_R.con w_R,u_O.con w_O,u_1.con w_1,u_j.con w_j,u_ax.con w_ax,u_Q.con w_Q,u_aR.con w_aR,u_t.con w_t,u_U.con w_U,u_W.con w_W]) N x=V_aq w_2 w_Y w_R w_O w_1 w_j w_ax w_Q w_aR w_t w_U w_W N x:=by intros;kernel_rfl
def W_aq (N:Nat):=V_aq (W_2 N) (W_Y N) (W_R N) (W_O N) (W_1 N) (W_j N) (W_ax N) (W_Q N) (W_aR N) (W_t N) (W_U N) (W_W N) N
theorem con_aq_ok (N:Nat):(u_aq.con (W_aq N)).ok P0:=Uf.ok mixed (q_aq (W_2 N) (W_Y N) (W_R N) (W_O N) (W_1 N) (W_j N) (W_ax N) (W_Q N) (W_aR N) (W_t N) (W_U N) (W_W N) N) ⟨con_2_ok N,con_Y_ok N,con_R_ok N,con_O_ok N,con_1_ok N,con_j_ok N,con_ax_ok N,con_Q_ok N,con_aR_ok N,con_t_ok N,con_U_ok N,con_W_ok N,trivial⟩ Tryz.func62 (by kernel_rfl) fun x y=>by kernel_rfl
def u_a9:Uf:=⟨33,112,Tryz.f33,[.ptr 0 0,.val (.int .i64),.val (.int .i64)],[.box 72 T7_],
⟨[(0,.ptr 1000000 0),(6,.ptr 600006 0)],[(1000000,.box 72 (.val T7_)),(600006,.box 31 (.val T0_))]⟩,[true],
[(3,.loop [] ⟨[(0,.ptr 1000000 0),(6,.ptr 600006 0),(7,.ptr 600007 0),(8,.val (.int .i64))],[(1000000,.box 72 (.val T7_)),(600006,.box 31 (.val T0_)),(600007,.box 31 (.val T0_))]⟩ [(.exit 0,⟨[(0,.ptr 1000000 0),(6,.ptr 600006 0),(7,.ptr 600007 0)],[(1000000,.box 72 (.val T7_)),(600006,.box 31 (.val T0_)),(600007,.box 31 (.val T0_))]⟩)])],
[(13,.cut [] [(.normal,⟨[(0,.ptr 1000000 0),(6,.ptr 600006 0),(7,.ptr 600007 0),(9,.ptr 600009 0)],[(1000000,.box 72 (.val T7_)),(600006,.box 31 (.val T0_)),(600007,.box 31 (.val T0_)),(600009,.box 46 (.val T_))]⟩)]),
(18,.cut [] [(.normal,⟨[(0,.ptr 1000000 0),(6,.ptr 600006 0),(7,.ptr 600007 0),(10,.ptr 600010 0)],[(1000000,.box 72 (.val T7_)),(600006,.box 31 (.val T0_)),(600007,.box 31 (.val T0_)),(600010,.box 46 (.val T_))]⟩)])],fun y=>(valW (.agg T0_) y.2,[.box 72 (cellsW T7_ y.1)],[])⟩
def V_a9 (w_b:Int×List Int×Int→Option (Int×List Int×Int)) (w_J:Int×Int×Int×Int→Option A1_) (w_6:List Int×Int→Option (Bool×List Int×Int)) (w_a0:A1_→Option (List (M_)×A1_)) (w_I:Int×List Int×Int→Option ((List Int×Int)×M_)) (w_L:List Int×Int→Option (List Int×List Int×Int)) (w_aq:A1_×(M_)×Int→Option (List (M_)×A1_)) (N:Nat) (x:Int×Int×List Int×Int):Option ((List Int×Int)×A1_):=
 obind (w_b ((5:Int),x.2.2)) fun b=>obind (w_b ((4:Int),b.2)) fun b_1=>obind (w_J (x.1,(2:Int),b.1,b_1.1)) fun
 b_2=>obind (loopN N (fun(v:Int×(List Int×Int)×A1_×A1_)=>cnd (decide (v.1<x.2.1))
 (obind (w_6 v.2.1) fun b_3=>cnd (!b_3.1) (obind (w_b ((4:Int),b_3.2)) fun b_4=>cnd (decide (b_4.1=(0:Int))) (obind
 (w_a0 v.2.2.2) fun b=>some (Sum.inl (wr .i64 (v.1+(1:Int)),b_4.2,v.2.2.1,b.2))) (cnd (decide (b_4.1=(1:Int))) (obind (w_I (x.1,b_4.2)) fun b_5=>obind (cnd (decide (v.2.2.2.2.2.2.2.2.2.2.2.2.1≠(0:Int))) (cnd (decide (v.2.2.2.2.2.2.2.2.2.2.2.2.1≠x.1)) (obind
 (w_b ((2:Int),b_5.1)) fun b_6=>obind (w_b ((9:Int),b_6.2)) fun b_7=>obind (w_b ((22:Int),b_7.2)) fun b_8=>
 obind (w_L b_8.2) fun b_9=>cnd (decide ((0:Int)≤(1:Int))&&decide ((1:Int)≤(↑(List.length b_9.1):Int))) (cnd (decide
 (List.length ([(1:Int)]++List.drop (1:Nat) (List.take (List.length b_9.1) b_9.1))*(8:Nat)≤(140737488355328:Nat))) (obind (w_b
 ((4:Int),b_9.2)) fun b=>some (b.2,v.2.2.1,v.2.2.2,(2:Int),v.2.2.2.2.2.2.2.2.2.2.2.2.1,x.1,wr .i64 ((1:Int)+b_6.1),b_7.1,b_8.1,
 [(1:Int)]++List.drop (1:Nat) (List.take (List.length b_9.1) b_9.1),wr .i64 ((1:Int)+b.1),(0:Int),[])) none) none) (some (b_5.1,v.2.2.1,
 v.2.2.2,b_5.2))) (some (b_5.1,v.2.2.1,v.2.2.2,b_5.2))) fun(b:(List Int×Int)×A1_×A1_×A2_)=>obind (w_aq (b.2.2.1,b.2.2.2,(1:Int))) fun b_6=>some
 (Sum.inl (wr .i64 (v.1+(1:Int)),b.1,b.2.1,b_6.2))) (cnd (decide (b_4.1=(2:Int))) (obind (w_I (x.1,b_4.2)) fun b=>obind (cnd
 (decide (v.2.2.2.2.2.2.1≠(0:Int))) (obind (w_b ((30:Int),b.1)) fun b=>obind (w_b ((20:Int),b.2)) fun b_5=>obind
 (w_L b_5.2) fun b_6=>obind (w_b ((9:Int),b_6.2)) fun b_7=>some (b_7.2,v.2.2.1,v.2.2.2,(5:Int),v.2.2.2.2.2.2.1,x.1,
 v.2.2.2.2.2.2.2.1,b.1,b_5.1,b_6.1,(0:Int),b_7.1,[])) (some (b.1,v.2.2.1,v.2.2.2,b.2))) fun(b:(List Int×Int)×A1_×A1_×A2_)=>obind (w_aq (b.2.2.1,
 b.2.2.2,(1:Int))) fun b_5=>some (Sum.inl (wr .i64 (v.1+(1:Int)),b.1,b.2.1,b_5.2))) (obind (w_I (x.1,b_4.2)) fun b=>obind
 (w_aq (v.2.2.2,b.2,(1:Int))) fun b_5=>some (Sum.inl (wr .i64 (v.1+(1:Int)),b.1,v.2.2.1,b_5.2)))))) (some (Sum.inr (b_3.2,
 v.2.2)))) (some (Sum.inr v.2))) ((0:Int),b_1.2,((0:Int),(0:Int),(0:Int),(0:Int),(0:Int),(0:Int),[],(0:Int),(0:Int),(0:Int),(0:Int),
 (0:Int),[]),b_2)) fun(b:(List Int×Int)×A1_×A1_)=>some (b.1,b.2.2)
theorem q_a9:∀w_b w_J w_6 w_a0 w_I w_L w_aq N x,u_a9.F L0 P0 (orcOf [u_b.con w_b,u_J.con w_J,u_6.con w_6,u_a0.con w_a0,u_I.con w_I,u_L.con w_L,u_aq.con w_aq]) N x=V_a9 w_b w_J w_6 w_a0 w_I w_L w_aq N x:=by intros;kernel_rfl
def W_a9 (N:Nat):=V_a9 (W_b N) (W_J N) (W_6 N) (W_a0 N) (W_I N) (W_L N) (W_aq N) N
theorem con_a9_ok (N:Nat):(u_a9.con (W_a9 N)).ok P0:=Uf.ok mixed (q_a9 (W_b N) (W_J N) (W_6 N) (W_a0 N) (W_I N) (W_L N) (W_aq N) N) ⟨con_b_ok N,con_J_ok N,con_6_ok N,con_a0_ok N,con_I_ok N,con_L_ok N,con_aq_ok N,trivial⟩ Tryz.func33 (by kernel_rfl) fun x y=>by kernel_rfl
def u_m:Uf:=⟨65,18,Tryz.f65,[.val (.agg T1_),.val (.int .i64)],[],
⟨[(4,.ptr 600004 0)],[(600004,.box 37 (.val T1_))]⟩,[],
[],
[],fun y=>(valW (.agg T1_) y,[],[])⟩
def V_m (N:Nat) (x:A0_×Int):Option A0_:=
 cnd (decide ((0:Int)<x.1.1)) (cnd (decide (x.2≤(1000000:Int))) (some (x.1.1,max x.1.2.1 x.2,x.1.2.2)) (some x.1)) (some x.1)
theorem q_m:∀N x,u_m.F L0 P0 (orcOf []) N x=V_m N x:=by intros;kernel_rfl
def W_m (N:Nat):=V_m N
theorem con_m_ok (N:Nat):(u_m.con (W_m N)).ok P0:=Uf.ok mixed (q_m N) trivial Tryz.func65 (by kernel_rfl) fun x y=>by kernel_rfl
def u_aH:Uf:=⟨63,21,Tryz.f63,[.val (.agg T1_),.val (.int .i64)],[],
⟨[(4,.ptr 600004 0)],[(600004,.box 37 (.val T1_))]⟩,[],
[],
[],fun y=>(valW (.agg T1_) y,[],[])⟩
def V_aH (w_m:A0_×Int→Option A0_) (N:Nat) (x:A0_×Int):Option A0_:=
 cnd (decide ((0:Int)<x.1.1)) (obind (w_m (x.1,wr .i64 (x.2-(1:Int)))) fun b=>some b) (cnd (decide ((1:Int)≤x.2)) (cnd (decide (x.2≤(1000000:Int))) (some (x.2,x.1.2)) (some x.1)) (some x.1))
theorem q_aH:∀w_m N x,u_aH.F L0 P0 (orcOf [u_m.con w_m]) N x=V_aH w_m N x:=by intros;kernel_rfl
def W_aH (N:Nat):=V_aH (W_m N) N
theorem con_aH_ok (N:Nat):(u_aH.con (W_aH N)).ok P0:=Uf.ok mixed (q_aH (W_m N) N) ⟨con_m_ok N,trivial⟩ Tryz.func63 (by kernel_rfl) fun x y=>by kernel_rfl
def u_F:Uf:=⟨90,18,Tryz.f90,[.val (.agg T6_)],[],
⟨[(2,.val .bool)],[]⟩,[],
[],
[(1000001,.reg [(10,[],⟨[(1,.ptr 600001 0),(12,.val .bool)],[(600001,.box 101 (.val T6_))]⟩)])],fun y=>(valW .bool y,[],[])⟩
def V_F (N:Nat) (x:Int×Int):Option (Bool):=
 obind (cnd (decide ((1:Int)≤x.1)) (some (decide (x.1≤x.2),x)) (some (false,x))) fun(b:Bool×Int×Int)=>cnd b.1 (some (decide (b.2.2≤(1000000:Int)))) (some false)
theorem q_F:∀N x,u_F.F L0 P0 (orcOf []) N x=V_F N x:=by intros;kernel_rfl
def W_F (N:Nat):=V_F N
theorem con_F_ok (N:Nat):(u_F.con (W_F N)).ok P0:=Uf.ok mixed (q_F N) trivial Tryz.func90 (by kernel_rfl) fun x y=>by kernel_rfl
def u_P:Uf:=⟨158,10,Tryz.f158,[.val (.list T5_)],[],
⟨[(2,.val (.int .i64))],[]⟩,[],
[],
[],fun y=>(valW (.int .i64) y,[],[])⟩
def V_P (N:Nat) (x:List (Int×List UInt8)):Option (Int):=
 cnd (decide ((↑(List.length x):Int)=(0:Int))) (some (0:Int)) (cnd (decide ((0:Int)≤(0:Int))&&decide ((0:Int)<(↑(List.length x):Int))) (some (Prod.fst (List.getD x (0:Nat) ((0:Int),[])))) none)
theorem q_P:∀N x,u_P.F L0 P0 (orcOf []) N x=V_P N x:=by intros;kernel_rfl
def W_P (N:Nat):=V_P N
theorem con_P_ok (N:Nat):(u_P.con (W_P N)).ok P0:=Uf.ok mixed (q_P N) trivial Tryz.func158 (by kernel_rfl) fun x y=>by kernel_rfl
def u_aI:Uf:=⟨159,18,Tryz.f159,[.val (.list T4_),.val (.int .i64),.val (.int .i64),.val (.int .i64)],[],
⟨[(8,.val (.list T4_))],[]⟩,[],
[],
[],fun y=>(valW (.list T4_) y,[],[])⟩
def V_aI (N:Nat) (x:List A4_×Int×Int×Int):Option (List A4_):=
 cnd (decide (List.length x.1*(48:Nat)≤(140737488355328:Nat))) (cnd (decide ((List.length x.1+(1:Nat))*(48:Nat)≤(140737488355328:Nat))) (some (x.1++[((2:Int),x.2.1,x.2.2.1,[],x.2.2.2)])) none) none
theorem q_aI:∀N x,u_aI.F L0 P0 (orcOf []) N x=V_aI N x:=by intros;kernel_rfl
def W_aI (N:Nat):=V_aI N
theorem con_aI_ok (N:Nat):(u_aI.con (W_aI N)).ok P0:=Uf.ok mixed (q_aI N) trivial Tryz.func159 (by kernel_rfl) fun x y=>by kernel_rfl
def u_ae:Uf:=⟨160,27,Tryz.f160,[.val (.list T5_),.val (.int .i64)],[],
⟨[(4,.val (.list T5_)),(5,.ptr 600005 0),(6,.val .bool)],[(600005,.box 69 (.val (.pair (.int .i64) .str)))]⟩,[],
[],
[],fun y=>(.tup [valW (.list T5_) y.1,valW T5_ y.2.2,valW .bool y.2.1],[],[])⟩
def V_ae (N:Nat) (x:List (Int×List UInt8)×Int):Option (List (Int×List UInt8)×Bool×Int×List UInt8):=
 cnd (decide ((↑(List.length x.1):Int)=(0:Int))) (some (x.1,false,(0:Int),[])) (cnd (decide ((0:Int)≤(0:Int))&&decide ((0:Int) <
 (↑(List.length x.1):Int))) (cnd (decide (Prod.fst (List.getD x.1 (0:Nat) ((0:Int),[]))≠x.2)) (some (x.1,false,(0:Int),[])) (cnd (decide
 ((0:Int)≤(1:Int))&&decide ((1:Int)≤(↑(List.length x.1):Int))) (cnd (decide (List.length (List.drop (1:Nat) (List.take (List.length x.1)
 x.1))*(24:Nat)≤(140737488355328:Nat))) (cnd (decide ((0:Int)≤(0:Int))&&decide ((0:Int)<(↑(List.length x.1):Int))) (some (List.drop
 (1:Nat) (List.take (List.length x.1) x.1),true,Prod.fst (List.getD x.1 (0:Nat) ((0:Int),[])),Prod.snd (List.getD x.1 (0:Nat) ((0:Int),[]))))
 none) none) none)) none)
theorem q_ae:∀N x,u_ae.F L0 P0 (orcOf []) N x=V_ae N x:=by intros;kernel_rfl
def W_ae (N:Nat):=V_ae N
theorem con_ae_ok (N:Nat):(u_ae.con (W_ae N)).ok P0:=Uf.ok mixed (q_ae N) trivial Tryz.func160 (by kernel_rfl) fun x y=>by kernel_rfl
def u_a5:Uf:=⟨161,16,Tryz.f161,[.val (.list T4_),.val (.int .i64),.val .str],[],
⟨[(6,.val (.list T4_))],[]⟩,[],
[],
[],fun y=>(valW (.list T4_) y,[],[])⟩
def V_a5 (N:Nat) (x:List A4_×Int×List UInt8):Option (List A4_):=
 cnd (decide (List.length x.1*(48:Nat)≤(140737488355328:Nat))) (cnd (decide ((List.length x.1+List.length [((1:Int),x.2.1,x.2.1,x.2.2,(0:Int))])*(48:Nat)≤(140737488355328:Nat))) (some (x.1++[((1:Int),x.2.1,x.2.1,x.2.2,(0:Int))])) none) none
theorem q_a5:∀N x,u_a5.F L0 P0 (orcOf []) N x=V_a5 N x:=by intros;kernel_rfl
def W_a5 (N:Nat):=V_a5 N
theorem con_a5_ok (N:Nat):(u_a5.con (W_a5 N)).ok P0:=Uf.ok mixed (q_a5 N) trivial Tryz.func161 (by kernel_rfl) fun x y=>by kernel_rfl
def u_aV:Uf:=⟨162,35,Tryz.f162,[.val (.list T5_),.val T5_],[],
⟨[(4,.val (.list T5_))],[]⟩,[],
[],
[],fun y=>(valW (.list T5_) y,[],[])⟩
def V_aV (N:Nat) (x:List (Int×List UInt8)×Int×List UInt8):Option (List (Int×List UInt8)):=
 cnd (decide (List.length x.1*(24:Nat)≤(140737488355328:Nat))) (cnd (decide ((0:Int)<(↑(List.length x.1):Int))) (cnd (decide ((0:Int)≤wr .i64
 ((↑(List.length x.1):Int)-(1:Int)))&&decide (wr .i64 ((↑(List.length x.1):Int)-(1:Int))<(↑(List.length x.1):Int))) (cnd (decide (x.2.1
 ≤ Prod.fst (List.getD x.1 (Int.toNat (wr .i64 ((↑(List.length x.1):Int)-(1:Int)))) ((0:Int),[])))) (some x.1) (cnd (decide ((List.length x.1 +
 List.length [x.2])*(24:Nat)≤(140737488355328:Nat))) (cnd (decide ((6:Int)<(↑(List.length (x.1++[x.2])):Int))) (cnd (decide (Option.getD
 (some (1:Int)) (0:Int)≤(↑(List.length (x.1++[x.2])):Int))) (some (List.drop ((0:Nat)+Prod.fst (Prod.snd (cutT (0:Nat) (List.length (x.1++
 [x.2])) (List.length (x.1++[x.2])) (some (1:Int)) none))) (List.take ((0:Nat)+Prod.fst (Prod.snd (cutT (0:Nat) (List.length (x.1++[x.2]))
 (List.length (x.1++[x.2])) (some (1:Int)) none))+(Prod.snd (Prod.snd (cutT (0:Nat) (List.length (x.1++[x.2])) (List.length (x.1++[x.2]))
 (some (1:Int)) none))-Prod.fst (Prod.snd (cutT (0:Nat) (List.length (x.1++[x.2])) (List.length (x.1++[x.2])) (some (1:Int)) none)))) (x.1++
 [x.2])))) none) (some (x.1++[x.2]))) none)) none) (cnd (decide ((List.length x.1+List.length [x.2])*(24:Nat)≤(140737488355328:Nat))) (cnd
 (decide ((6:Int)<(↑(List.length (x.1++[x.2])):Int))) (cnd (decide (Option.getD (some (1:Int)) (0:Int)≤(↑(List.length (x.1++[x.2])):
 Int))) (some (List.drop ((0:Nat)+Prod.fst (Prod.snd (cutT (0:Nat) (List.length (x.1++[x.2])) (List.length (x.1++[x.2])) (some (1:Int)) none)))
 (List.take ((0:Nat)+Prod.fst (Prod.snd (cutT (0:Nat) (List.length (x.1++[x.2])) (List.length (x.1++[x.2])) (some (1:Int)) none))+(Prod.snd
 (Prod.snd (cutT (0:Nat) (List.length (x.1++[x.2])) (List.length (x.1++[x.2])) (some (1:Int)) none))-Prod.fst (Prod.snd (cutT (0:Nat)
 (List.length (x.1++[x.2])) (List.length (x.1++[x.2])) (some (1:Int)) none)))) (x.1++[x.2])))) none) (some (x.1++[x.2]))) none)) none
theorem q_aV:∀N x,u_aV.F L0 P0 (orcOf []) N x=V_aV N x:=by intros;kernel_rfl
def W_aV (N:Nat):=V_aV N
theorem con_aV_ok (N:Nat):(u_aV.con (W_aV N)).ok P0:=Uf.ok mixed (q_aV N) trivial Tryz.func162 (by kernel_rfl) fun x y=>by kernel_rfl
def u_l:Uf:=⟨126,46,Tryz.f126,[.val (.agg T1_)],[],
⟨[(2,.ptr 600002 0),(3,.val (.list T5_))],[(600002,.box 37 (.val T1_))]⟩,[],
[(2,.loop [] ⟨[(1,.ptr 600001 0),(2,.ptr 600002 0),(4,.acc 700004)],[(600001,.box 37 (.val T1_)),(600002,.box 37 (.val T1_)),(700004,.nrow 69 T5_ true true)]⟩ [(.ret,⟨[(2,.ptr 600002 0),(3,.val (.list T5_))],[(600002,.box 37 (.val T1_))]⟩)])],
[],fun y=>(.tup [valW (.agg T1_) y.2,valW (.list T5_) y.1],[],[])⟩
def V_l (w_ae:List (Int×List UInt8)×Int→Option (List (Int×List UInt8)×Bool×Int×List UInt8)) (w_a5:List A4_×Int×List UInt8→Option (List A4_)) (w_aV:List (Int×List UInt8)×Int×List UInt8→Option (List (Int×List UInt8))) (N:Nat) (x:A0_):Option A5_:=
 obind (loopN N (fun(v:A0_×A0_×List (Int×List UInt8))
 => obind (w_ae (v.1.2.2.2.1,v.1.1)) fun b=>cnd (!b.2.1) (some (Sum.inr (v.2.2,v.1))) (obind (w_a5 (v.1.2.2.2.2.1,b.2.2))
 fun b_1=>obind (w_aV (v.1.2.2.1,b.2.2)) fun b_2=>cnd (decide ((List.length v.2.2+List.length [b.2.2])*(24:Nat) ≤
 (140737488355328:Nat))) (some (Sum.inl ((wr .i64 (v.1.1+(1:Int)),v.1.2.1,b_2,b.1,b_1,(0:Int),(0:Int)),v.2.1,v.2.2++[b.2.2]))) none)) (x,
 ((0:Int),(0:Int),[],[],[],(0:Int),(0:Int)),[])) fun(b:A5_)=>some b
theorem q_l:∀w_ae w_a5 w_aV N x,u_l.F L0 P0 (orcOf [u_ae.con w_ae,u_a5.con w_a5,u_aV.con w_aV]) N x=V_l w_ae w_a5 w_aV N x:=by intros;kernel_rfl
def W_l (N:Nat):=V_l (W_ae N) (W_a5 N) (W_aV N) N
theorem con_l_ok (N:Nat):(u_l.con (W_l N)).ok P0:=Uf.ok mixed (q_l (W_ae N) (W_a5 N) (W_aV N) N) ⟨con_ae_ok N,con_a5_ok N,con_aV_ok N,trivial⟩ Tryz.func126 (by kernel_rfl) fun x y=>by kernel_rfl
def u_V:Uf:=⟨125,73,Tryz.f125,[.val (.agg T1_),.val (.int .i64),.val (.int .i64)],[],
⟨[(6,.ptr 600006 0),(7,.val (.list (.agg T6_)))],[(600006,.box 37 (.val T1_))]⟩,[],
[(4,.loop [] ⟨[(3,.ptr 600003 0),(6,.ptr 600006 0),(8,.acc 700008)],[(600003,.box 37 (.val T1_)),(600006,.box 37 (.val T1_)),(700008,.nrow 101 (.agg T6_) true true)]⟩ [(.exit 0,⟨[(3,.ptr 600003 0),(6,.ptr 600006 0),(8,.val (.list (.agg T6_)))],[(600003,.box 37 (.val T1_)),(600006,.box 37 (.val T1_))]⟩)])],
[(13,.cut [] [(.normal,⟨[(3,.ptr 600003 0),(6,.ptr 600006 0),(8,.acc 700008)],[(600003,.box 37 (.val T1_)),(600006,.box 37 (.val T1_)),(700008,.nrow 101 (.agg T6_) true true)]⟩)]),
(9,.cut [] [(.normal,⟨[(3,.ptr 600003 0),(6,.ptr 600006 0),(8,.acc 700008),(9,.val (.int .i64))],[(600003,.box 37 (.val T1_)),(600006,.box 37 (.val T1_)),(700008,.nrow 101 (.agg T6_) true true)]⟩)])],fun y=>(.tup [valW (.agg T1_) y.2,valW (.list (.agg T6_)) y.1],[],[])⟩
def V_V (w_P:List (Int×List UInt8)→Option (Int)) (w_aI:List A4_×Int×Int×Int→Option (List A4_)) (w_l:A0_→Option A5_) (N:Nat) (x:A0_×Int×Int):Option (List (Int×Int)×A0_):=
 cnd (decide (x.1.1<(1:Int))) (some ([],x.1)) (cnd (decide ((1000000:Int)<x.2.1)) (some ([],x.1)) (obind (loopN N (fun(v:A0_×A0_×List (Int×Int))=>cnd (decide (v.1.1≤x.2.1)) (obind (cnd (decide
 ((0:Int)<(↑(List.length v.1.2.2.2.1):Int))) (obind (w_P v.1.2.2.2.1) fun b=>cnd (decide (b≤x.2.1)) (obind (w_P
 v.1.2.2.2.1) fun b=>some (wr .i64 (b-(1:Int)),(v.1.1,v.1.2.1,v.1.2.2.1,v.1.2.2.2.1,v.1.2.2.2.2.1,(0:Int),(0:Int)),v.2)) (some (x.2.1,
 (v.1.1,v.1.2.1,v.1.2.2.1,v.1.2.2.2.1,v.1.2.2.2.2.1,(0:Int),(0:Int)),v.2))) (some (x.2.1,(v.1.1,v.1.2.1,v.1.2.2.1,v.1.2.2.2.1,
 v.1.2.2.2.2.1,(0:Int),(0:Int)),v.2))) fun(b:Int×A0_×A0_×List (Int×Int))=>obind (cnd (decide (b.2.1.1≤b.1)) (obind (w_aI (b.2.1.2.2.2.2.1,b.2.1.1,b.1,x.2.2)) fun b_1=>cnd
 (decide ((List.length b.2.2.2+List.length [(b.2.1.1,b.1)])*(16:Nat)≤(140737488355328:Nat))) (some ((wr .i64 (b.1+(1:Int)),b.2.1.2.1,
 b.2.1.2.2.1,b.2.1.2.2.2.1,b_1,b.2.1.2.2.2.2.2),b.2.2.1,b.2.2.2++[(b.2.1.1,b.1)])) none) (some b.2)) fun(b:A0_×A0_×List (Int×Int))=>cnd (decide (b.1.1≤x.2.1)) (obind (w_l b.1) fun
 b_1=>some (Sum.inl (b_1.2,b.2))) (some (Sum.inl b))) (some (Sum.inr (v.2.2,v.1,v.2.1)))) (x.1,((0:Int),(0:Int),[],[],[],(0:Int),
 (0:Int)),[])) fun(b:List (Int×Int)×A0_×A0_)=>some
 (b.1,b.2.1)))
theorem q_V:∀w_P w_aI w_l N x,u_V.F L0 P0 (orcOf [u_P.con w_P,u_aI.con w_aI,u_l.con w_l]) N x=V_V w_P w_aI w_l N x:=by intros;kernel_rfl
def W_V (N:Nat):=V_V (W_P N) (W_aI N) (W_l N) N
theorem con_V_ok (N:Nat):(u_V.con (W_V N)).ok P0:=Uf.ok mixed (q_V (W_P N) (W_aI N) (W_l N) N) ⟨con_P_ok N,con_aI_ok N,con_l_ok N,trivial⟩ Tryz.func125 (by kernel_rfl) fun x y=>by kernel_rfl
def u_aG:Uf:=⟨64,44,Tryz.f64,[.val (.agg T1_),.val (.int .i64),.val (.int .i64)],[],
⟨[(6,.ptr 600006 0)],[(600006,.box 37 (.val T1_))]⟩,[],
[],
[],fun y=>(valW (.agg T1_) y,[],[])⟩
def V_aG (w_F:Int×Int→Option (Bool)) (w_m:A0_×Int→Option A0_) (w_V:A0_×Int×Int→Option (List (Int×Int)×A0_)) (w_l:A0_→Option A5_) (N:Nat) (x:A0_×Int×Int):Option A0_:=
 cnd (decide (x.1.1=(0:Int))) (some x.1) (obind (w_F x.2) fun b=>cnd (!b) (some x.1) (obind (w_m (x.1,x.2.2)) fun b=>
 cnd (decide (b.1<x.2.1)) (some b) (cnd (decide (x.2.2<b.1)) (some b) (obind (w_V (b,x.2.2,(1:Int))) fun b=>obind (w_l
 b.2) fun b=>some b.2))))
theorem q_aG:∀w_F w_m w_V w_l N x,u_aG.F L0 P0 (orcOf [u_F.con w_F,u_m.con w_m,u_V.con w_V,u_l.con w_l]) N x=V_aG w_F w_m w_V w_l N x:=by intros;kernel_rfl
def W_aG (N:Nat):=V_aG (W_F N) (W_m N) (W_V N) (W_l N) N
theorem con_aG_ok (N:Nat):(u_aG.con (W_aG N)).ok P0:=Uf.ok mixed (q_aG (W_F N) (W_m N) (W_V N) (W_l N) N) ⟨con_F_ok N,con_m_ok N,con_V_ok N,con_l_ok N,trivial⟩ Tryz.func64 (by kernel_rfl) fun x y=>by kernel_rfl
def u_aY:Uf:=⟨127,29,Tryz.f127,[.val (.agg T1_)],[],
⟨[(2,.ptr 600002 0),(3,.val .bool)],[(600002,.box 101 (.val T6_))]⟩,[],
[],
[(4,.cut [] [(.normal,⟨[(1,.ptr 600001 0),(2,.ptr 600002 0),(4,.val (.int .i64))],[(600001,.box 37 (.val T1_)),(600002,.box 101 (.val T6_))]⟩)])],fun y=>(.tup [valW (.agg T6_) y.2,valW .bool y.1],[],[])⟩
def V_aY (w_P:List (Int×List UInt8)→Option (Int)) (N:Nat) (x:A0_):Option (Bool×Int×Int):=
 obind (cnd (decide ((0:Int)<(↑(List.length x.2.2.2.1):Int))) (obind (w_P x.2.2.2.1) fun b=>some (wr .i64 (b-(1:Int)),x,(0:Int),
 (0:Int))) (some (x.2.1,x,(0:Int),(0:Int)))) fun(b:Int×A0_×Int×Int)=>cnd (decide (b.2.1.1=(0:Int))) (some (false,(0:Int),(0:Int))) (cnd (decide (b.1<b.2.1.1))
 (some (false,(0:Int),(0:Int))) (some (true,b.2.1.1,b.1)))
theorem q_aY:∀w_P N x,u_aY.F L0 P0 (orcOf [u_P.con w_P]) N x=V_aY w_P N x:=by intros;kernel_rfl
def W_aY (N:Nat):=V_aY (W_P N) N
theorem con_aY_ok (N:Nat):(u_aY.con (W_aY N)).ok P0:=Uf.ok mixed (q_aY (W_P N) N) ⟨con_P_ok N,trivial⟩ Tryz.func127 (by kernel_rfl) fun x y=>by kernel_rfl
def u_be:Uf:=⟨128,14,Tryz.f128,[.val (.agg T6_),.val (.int .i64)],[],
⟨[(4,.val .bool)],[]⟩,[],
[],
[],fun y=>(valW .bool y,[],[])⟩
def V_be (N:Nat) (x:(Int×Int)×Int):Option (Bool):=
 cnd (decide (x.1.1=(0:Int))) (some true) (some (decide (x.1.2≤x.2)))
theorem q_be:∀N x,u_be.F L0 P0 (orcOf []) N x=V_be N x:=by intros;kernel_rfl
def W_be (N:Nat):=V_be N
theorem con_be_ok (N:Nat):(u_be.con (W_be N)).ok P0:=Uf.ok mixed (q_be N) trivial Tryz.func128 (by kernel_rfl) fun x y=>by kernel_rfl
def u_a2:Uf:=⟨129,26,Tryz.f129,[.val (.agg T6_),.val (.int .i64)],[],
⟨[(4,.ptr 600004 0)],[(600004,.box 35 (.val T6_))]⟩,[],
[(3,.loop [] ⟨[(2,.ptr 600002 0),(4,.ptr 600004 0),(5,.val (.int .i64)),(6,.val (.int .i64))],[(600002,.box 35 (.val T6_)),(600004,.box 35 (.val T6_))]⟩ [(.exit 0,⟨[(2,.ptr 600002 0),(4,.ptr 600004 0),(5,.val (.int .i64))],[(600002,.box 35 (.val T6_)),(600004,.box 35 (.val T6_))]⟩)])],
[],fun y=>(valW (.agg T6_) y,[],[])⟩
def V_a2 (N:Nat) (x:(Int×Int)×Int):Option (Int×Int):=
 obind (loopN N (fun(v:Int×Int×(Int×Int)×Int×Int)=>cnd (decide (v.2.1<v.2.2.1.1)) (cnd (decide (v.2.1<(3:Int))) (some (Sum.inl (wr
 .i64 (v.1*(2:Int)),wr .i64 (v.2.1+(1:Int)),v.2.2))) (some (Sum.inr (v.1,v.2.2)))) (some (Sum.inr (v.1,v.2.2)))) ((2:Int),(0:Int),x.1,
 (0:Int),(0:Int))) fun(b:Int×(Int×Int)×Int×Int)=>some (wr .i64 (b.2.1.1+(1:Int)),wr .i64 (x.2+b.1))
theorem q_a2:∀N x,u_a2.F L0 P0 (orcOf []) N x=V_a2 N x:=by intros;kernel_rfl
def W_a2 (N:Nat):=V_a2 N
theorem con_a2_ok (N:Nat):(u_a2.con (W_a2 N)).ok P0:=Uf.ok mixed (q_a2 N) trivial Tryz.func129 (by kernel_rfl) fun x y=>by kernel_rfl
def u_aJ:Uf:=⟨66,50,Tryz.f66,[.val (.agg T1_),.val (.int .i64)],[],
⟨[(4,.ptr 600004 0),(5,.ptr 600005 0),(6,.val .bool)],[(600004,.box 37 (.val T1_)),(600005,.box 101 (.val T6_))]⟩,[],
[],
[],fun y=>(.tup [valW (.agg T1_) y.2.1,valW (.agg T6_) y.2.2,valW .bool y.1],[],[])⟩
def V_aJ (w_aY:A0_→Option (Bool×Int×Int)) (w_be:(Int×Int)×Int→Option (Bool)) (w_V:A0_×Int×Int→Option (List (Int×Int)×A0_)) (w_l:A0_→Option A5_) (w_a2:(Int×Int)×Int→Option (Int×Int)) (N:Nat) (x:A0_×Int):Option (Bool×A0_×Int×Int):=
 obind (w_aY x.1) fun b=>cnd (!b.1) (some (false,x.1,(0:Int),(0:Int))) (obind (w_be (x.1.2.2.2.2.2,x.2)) fun b_1=>cnd (!b_1)
 (some (false,x.1,(0:Int),(0:Int))) (cnd (decide ((3:Int)≤x.1.2.2.2.2.2.1)) (obind (w_V (x.1,b.2.2,(2:Int))) fun b=>obind
 (w_l b.2) fun b=>some (false,b.2,(0:Int),(0:Int))) (obind (w_a2 (x.1.2.2.2.2.2,x.2)) fun b_2=>some (true,(x.1.1,
 x.1.2.1,x.1.2.2.1,x.1.2.2.2.1,x.1.2.2.2.2.1,b_2),b.2))))
theorem q_aJ:∀w_aY w_be w_V w_l w_a2 N x,u_aJ.F L0 P0 (orcOf [u_aY.con w_aY,u_be.con w_be,u_V.con w_V,u_l.con w_l,u_a2.con w_a2]) N x=V_aJ w_aY w_be w_V w_l w_a2 N x:=by intros;kernel_rfl
def W_aJ (N:Nat):=V_aJ (W_aY N) (W_be N) (W_V N) (W_l N) (W_a2 N) N
theorem con_aJ_ok (N:Nat):(u_aJ.con (W_aJ N)).ok P0:=Uf.ok mixed (q_aJ (W_aY N) (W_be N) (W_V N) (W_l N) (W_a2 N) N) ⟨con_aY_ok N,con_be_ok N,con_V_ok N,con_l_ok N,con_a2_ok N,trivial⟩ Tryz.func66 (by kernel_rfl) fun x y=>by kernel_rfl
def u_a8:Uf:=⟨163,25,Tryz.f163,[.val (.list T5_),.val (.int .i64)],[],
⟨[(4,.val .str),(5,.val .bool)],[]⟩,[],
[(2,.loop [] ⟨[(6,.val (.int .i64))],[]⟩ [(.exit 0,⟨[],[]⟩),(.ret,⟨[(4,.val .str),(5,.val .bool)],[]⟩)])],
[],fun y=>(.tup [valW .str y.1,valW .bool y.2],[],[])⟩
def V_a8 (N:Nat) (x:List (Int×List UInt8)×Int):Option (List UInt8×Bool):=
 obind (loopN N (fun(v:Int)=>cnd (decide (v<(↑(List.length x.1):Int))) (cnd (decide ((0:Int)≤v)&&decide (v<(↑(List.length x.1):Int)))
 (cnd (decide (Prod.fst (List.getD x.1 (Int.toNat v) ((0:Int),[]))=x.2)) (cnd (decide ((0:Int)≤v)&&decide (v<(↑(List.length x.1):Int)))
 (some (Sum.inr (Sum.inr (Prod.snd (List.getD x.1 (Int.toNat v) ((0:Int),[])),true)))) none) (some (Sum.inl (wr .i64 (v+(1:Int)))))) none) (some
 (Sum.inr (Sum.inl ())))) (Int.ofNat (0:Nat))) fun(b:PUnit⊕List UInt8×Bool)=>selim (fun(b:PUnit)=>some ([],false)) (fun(c:List UInt8×Bool)=>some c) b
theorem q_a8:∀N x,u_a8.F L0 P0 (orcOf []) N x=V_a8 N x:=by intros;kernel_rfl
def W_a8 (N:Nat):=V_a8 N
theorem con_a8_ok (N:Nat):(u_a8.con (W_a8 N)).ok P0:=Uf.ok mixed (q_a8 N) trivial Tryz.func163 (by kernel_rfl) fun x y=>by kernel_rfl
def u_aE:Uf:=⟨130,71,Tryz.f130,[.val (.list T5_),.val (.int .i64),.val T5_],[],
⟨[(6,.val (.list T5_)),(7,.val .bool)],[]⟩,[],
[(7,.loop [] ⟨[(5,.ptr 600005 0),(10,.acc 700010),(11,.val .bool),(12,.val (.int .i64))],[(600005,.box 69 (.val (.pair (.int .i64) .str))),(700010,.nrow 69 T5_ true true)]⟩ [(.exit 0,⟨[(5,.ptr 600005 0),(10,.acc 700010),(11,.val .bool)],[(600005,.box 69 (.val (.pair (.int .i64) .str))),(700010,.nrow 69 T5_ true true)]⟩)])],
[(11,.cut [] [(.normal,⟨[(5,.ptr 600005 0),(10,.acc 700010),(11,.val .bool)],[(600005,.box 69 (.val (.pair (.int .i64) .str))),(700010,.nrow 69 T5_ true true)]⟩)])],fun y=>(.tup [valW (.list T5_) y.1,valW .bool y.2],[],[])⟩
def V_aE (w_a8:List (Int×List UInt8)×Int→Option (List UInt8×Bool)) (N:Nat) (x:List (Int×List UInt8)×Int×Int×List UInt8):Option (List (Int×List UInt8)×Bool):=
 obind (w_a8 (x.1,x.2.2.1)) fun b=>cnd (decide (x.2.2.1<x.2.1)) (some (x.1,false)) (cnd (decide ((8:Int)≤wr .i64 (x.2.2.1-x.2.1)))
 (some (x.1,false)) (cnd b.2 (some (x.1,false)) (obind (loopN N (fun(v:Bool×Int×(Int×List UInt8)×List (Int×List UInt8))=>cnd (decide
 (v.2.1<(↑(List.length x.1):Int))) (obind (cnd (!v.1) (cnd (decide ((0:Int)≤v.2.1)&&decide (v.2.1<(↑(List.length x.1):Int))) (cnd (decide
 (v.2.2.1.1<Prod.fst (List.getD x.1 (Int.toNat v.2.1) ((0:Int),[])))) (cnd (decide ((List.length v.2.2.2+List.length [v.2.2.1])*(24:Nat) ≤
 (140737488355328:Nat))) (some (true,v.2.2.1,v.2.2.2++[v.2.2.1])) none) (some (v.1,v.2.2))) none) (some (v.1,v.2.2))) fun(b:Bool×(Int×List UInt8)×List (Int×List UInt8))=>cnd (decide ((0:Int)≤v.2.1)&&decide (v.2.1<(↑(List.length x.1):Int))) (cnd (decide ((List.length
 b.2.2+(1:Nat))*(24:Nat)≤(140737488355328:Nat))) (some (Sum.inl (b.1,wr .i64 (v.2.1+(1:Int)),b.2.1,b.2.2++[(Prod.fst (List.getD x.1
 (Int.toNat v.2.1) ((0:Int),[])),Prod.snd (List.getD x.1 (Int.toNat v.2.1) ((0:Int),[])))]))) none) none) (some (Sum.inr (v.1,v.2.2)))) (false,
 (0:Int),x.2.2,[])) fun(b:Bool×(Int×List UInt8)×List (Int×List UInt8))=>cnd (!b.1) (cnd (decide ((List.length b.2.2+List.length
 [b.2.1])*(24:Nat)≤(140737488355328:Nat))) (some (b.2.2++[b.2.1],true)) none) (some (b.2.2,true)))))
theorem q_aE:∀w_a8 N x,u_aE.F L0 P0 (orcOf [u_a8.con w_a8]) N x=V_aE w_a8 N x:=by intros;kernel_rfl
def W_aE (N:Nat):=V_aE (W_a8 N) N
theorem con_aE_ok (N:Nat):(u_aE.con (W_aE N)).ok P0:=Uf.ok mixed (q_aE (W_a8 N) N) ⟨con_a8_ok N,trivial⟩ Tryz.func130 (by kernel_rfl) fun x y=>by kernel_rfl
def u_aF:Uf:=⟨67,45,Tryz.f67,[.val (.agg T1_),.val T5_],[],
⟨[(4,.ptr 600004 0)],[(600004,.box 37 (.val T1_))]⟩,[],
[],
[(1000001,.reg [(8,[],⟨[(2,.ptr 600002 0),(3,.ptr 600003 0),(4,.ptr 600004 0),(12,.val .bool)],[(600002,.box 37 (.val T1_)),(600003,.box 69 (.val (.pair (.int .i64) .str))),(600004,.box 37 (.val T1_))]⟩),(5,[],⟨[(2,.ptr 600002 0),(3,.ptr 600003 0),(4,.ptr 600004 0),(17,.val .bool)],[(600002,.box 37 (.val T1_)),(600003,.box 69 (.val (.pair (.int .i64) .str))),(600004,.box 37 (.val T1_))]⟩)])],fun y=>(valW (.agg T1_) y,[],[])⟩
def V_aF (w_m:A0_×Int→Option A0_) (w_aE:List (Int×List UInt8)×Int×Int×List UInt8→Option (List (Int×List UInt8)×Bool)) (w_l:A0_→Option A5_) (N:Nat) (x:A0_×Int×List UInt8):Option A0_:=
 obind (cnd (decide (x.1.1=(0:Int))) (some (true,x.1,x.2,(0:Int),(0:Int),[],[],[],(0:Int),(0:Int))) (some (decide (x.2.1<(1:Int)),x.1,
 x.2,(0:Int),(0:Int),[],[],[],(0:Int),(0:Int)))) fun(b:Bool×A0_×(Int×List UInt8)×A0_)=>obind (cnd b.1 (some (true,b.2)) (some (decide ((1000000:Int)<b.2.2.1.1),b.2))) fun(b:Bool×A0_×(Int×List UInt8)×A0_)=>cnd b.1 (some b.2.1) (cnd (decide
 ((12:Int)<(↑(List.length b.2.2.1.2):Int))) (some b.2.1) (obind (w_m (b.2.1,b.2.2.1.1)) fun b_1=>obind (w_aE
 (b_1.2.2.2.1,b_1.1,b.2.2.1)) fun b=>obind (w_l (b_1.1,b_1.2.1,b_1.2.2.1,b.1,b_1.2.2.2.2)) fun b=>some b.2))
theorem q_aF:∀w_m w_aE w_l N x,u_aF.F L0 P0 (orcOf [u_m.con w_m,u_aE.con w_aE,u_l.con w_l]) N x=V_aF w_m w_aE w_l N x:=by intros;kernel_rfl
def W_aF (N:Nat):=V_aF (W_m N) (W_aE N) (W_l N) N
theorem con_aF_ok (N:Nat):(u_aF.con (W_aF N)).ok P0:=Uf.ok mixed (q_aF (W_m N) (W_aE N) (W_l N) N) ⟨con_m_ok N,con_aE_ok N,con_l_ok N,trivial⟩ Tryz.func67 (by kernel_rfl) fun x y=>by kernel_rfl
end
end Go.Proofs.YtgpgmncgbebgdaaGreat.nodeDeafX
