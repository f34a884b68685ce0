/- NodeDown: for all arguments the call returns true. The law is brought to a function of Lean's own (W_..) by the machine of the texts beside it, and that is reckoned; no condition. -/
import Derived.Test.YtgpgmncgbebgdaaGreatExtIn
import Derived.Test.YtgpgmncgbebgdaaGreatExtDl
import Derived.Test.YtgpgmncgbebgdaaGreatExtCm
import Derived.Test.YtgpgmncgbebgdaaGreatRows
import Derived.WalkKit
import Derived.ProofKit
import Derived.OpenShut
import Derived.ShutString
import Derived.ChangeOld
import Derived.Below
import Derived.Shelf.RegionOpenPlain
import Derived.Deep.RegionLaw
import Derived.Lib.Walk
namespace Go.Proofs.YtgpgmncgbebgdaaGreat.nodeDownX
open Go.Abs Go.RowKit Go.ChangeShapes Go.WideShapes Go.ChangeAt
set_option maxRecDepth 100000
set_option linter.unusedVariables false
set_option linter.unusedSimpArgs false
noncomputable section
abbrev T_:Ty:=(.pair (.int .i64) (.pair (.int .i64) (.pair (.int .i64) (.pair (.int .i64) (.pair (.int .i64) (.pair (.int .i64) (.pair (.list (.int .i64)) (.pair (.int .i64) (.pair (.int .i64) .str)))))))))
abbrev M_:Type:=Int×Int×Int×Int×Int×Int×(List Int)×Int×Int×List UInt8
abbrev A0_:Type:=Int×Int×List (Int×List UInt8)×List (Int×List UInt8)×List (Int×Int×Int×List UInt8×Int)×Int×Int
abbrev A1_:Type:=Int×Int×Int×Int×Int×Int×List Int×Int×Int×Int×Int×Int×List (Int×Int×Int)
abbrev A2_:Type:=Int×Int×Int×Int×Int×Int×List Int×Int×Int×List UInt8
abbrev A3_:Type:=Bool×Int×List UInt8×A1_×A0_×Int
abbrev A4_:Type:=Int×Int×Int×List UInt8×Int
abbrev A5_:Type:=List (Int×List UInt8)×A0_
abbrev T0_:Ty:=.pair (.int .i64) (.pair (.int .i64) (.pair (.int .i64) (.pair (.int .i64) (.pair (.int .i64) (.pair (.int .i64) (.pair (.list (.int .i64)) (.pair (.int .i64) (.pair (.int .i64) (.pair (.int .i64) (.pair (.int .i64) (.pair (.int .i64) (.list (.agg (.pair (.int .i64) (.pair (.int .i64) (.int .i64))))))))))))))))
abbrev T1_:Ty:=.pair (.int .i64) (.pair (.int .i64) (.pair (.list (.agg (.pair (.int .i64) .str))) (.pair (.list (.agg (.pair (.int .i64) .str))) (.pair (.list (.agg (.pair (.int .i64) (.pair (.int .i64) (.pair (.int .i64) (.pair .str (.int .i64))))))) (.agg (.pair (.int .i64) (.int .i64)))))))
abbrev T2_:Ty:=.pair .bool (.pair (.int .i64) (.pair .str (.pair (.agg T0_) (.pair (.agg T1_) (.int .i64)))))
abbrev T3_:Ty:=.pair (.int .i64) (.pair (.int .i64) (.int .i64))
abbrev T4_:Ty:=.agg (.pair (.int .i64) (.pair (.int .i64) (.pair (.int .i64) (.pair .str (.int .i64)))))
abbrev T5_:Ty:=.agg (.pair (.int .i64) .str)
abbrev T6_:Ty:=.pair (.list (.int .u8)) (.int .i64)
abbrev T7_:Ty:=.pair (.int .i64) (.int .i64)
abbrev P0:Program:=Tryz.prog
def bodyOf (fn:Func):Code:=fn.body.getD .skip
def L0:Lend:=fun f=>aget [] [(142,[0]),(155,[0]),(171,[0]),(177,[0])] f
def kpL (l:List Bool):Nat→Bool:=fun j=>l.getD j true
theorem own:ownKnob Tryz.prog.godebug=none:=by kernel_rfl
theorem laidOut:laidOutB Tryz.prog=true:=by kernel_rfl
theorem mixed:P0.follows .mixedOrders=true:=by decide +kernel
theorem progOk_:progOk P0=true:=by decide +kernel

theorem delU155:Tryz.prog.underlying 32=some (.slice 69):=by kernel_rfl
theorem delE155:∃(inf:TypeInfo) (z:Value),Tryz.prog.info? 69=some inf∧inf.size=2∧inf.zero=some z∧z.cells.size=2∧(∀u∈z.cells.toList,u.oneCell'=true):=delE_of (by kernel_rfl)
set_option maxHeartbeats 4000000 in
theorem delW155 {inf:TypeInfo} {z:Value} (hinf:Tryz.prog.info? 69=some inf) (hsz:inf.size=2) (hzz:inf.zero=some z) (hzs:z.cells.size=2) (hz1:∀u∈z.cells.toList,u.oneCell'=true) (w:World) (b i k c:Nat) (arr:Array Value) (tb:Nat) (fz:Nat×Nat) (cs:List Value) (hmem:w.heap[b]? = some (.cells arr tb fz)) (hf:∀j,j<arr.size→¬(fz.1≤j∧j<fz.2))
    (hi:i<k+1) (hnc:k+1≤c) (hn:k+1≤140737488355328) (hsize:arr.size=c*2) (hcs:cs=(arr.toList.take ((k+1)*2)).drop ((i+1)*2)) (h1c:∀u∈cs,u.oneCell'=true) (A1 A2:Array Value)
    (hA1:A1=(arr.toList.take (i*2)++(cs++arr.toList.drop (i*2+cs.length))).toArray) (hA2:A2=(A1.toList.take (k*2)++(z.cells.toList++A1.toList.drop (k*2+z.cells.toList.length))).toArray):
    Calls Tryz.prog 155 #[.slice (some ⟨b,0,none⟩) (k+1) c,.int .i64 (i:Nat),.int .i64 ((i:Int)+1)] w fun e w'=>e=.returned (.slice (some ⟨b,0,none⟩) k c)∧w'=(w.drew.setRow b A1).setRow b A2:=by
  have mixed:=mixed
  have hz2:¬((i:Int)=(i:Int)+1):=by omega
  have hcl:cs.length=(k-i)*2:=by rw[hcs];simp;omega
  have hA1s:A1.size=arr.size:=by rw[hA1];simp[hcl];omega
  obtain⟨Ad,hA,hsrc⟩:∃Ad:Addr,(if c=i+1 then(some ⟨b,0,none⟩:Option Addr) else some ⟨b,(i+1)*2,none⟩)=some Ad∧(∀(t:Nat) (u:Value),cs[t]? = some u→w.drew.cell? (Ad.add t)=some u):=by
    by_cases h:c=i+1
    · refine⟨⟨b,0,none⟩,by simp[h],fun t u hu=>?_⟩
      have h0:cs=[]:=List.eq_nil_of_length_eq_zero (by rw[hcl,show k-i=0 by omega,Nat.zero_mul])
      rw[h0] at hu;simp at hu
    · refine⟨⟨b,(i+1)*2,none⟩,by simp[h],fun t u hu=>?_⟩
      rw[hcs,List.getElem?_drop,List.getElem?_take] at hu
      split at hu
      · rw[Addr.add_lit]
        have e:w.drew.cell? ⟨b,(i+1)*2+t,none⟩=arr[(i+1)*2+t]?:=by simp[World.cell?,show w.drew.heap=w.heap from rfl,hmem]
        rw[e];simpa using hu
      · cases hu
  obtain⟨W1,hW1⟩:∃W1,W1=w.drew.setRow b A1:=⟨_,rfl⟩
  have hm1:W1.heap[b]? = some (.cells A1 tb fz):=by rw[hW1];exact setRow_heap w.drew b arr A1 tb fz hmem
  have hap:∀ty m' c',m'=k-i→(Builtin.append_ #[32,32] ty #[.slice (some ⟨b,0,none⟩) i c,.slice (some Ad) m' c']).run Tryz.prog w.drew=.ok (.slice (some ⟨b,0,none⟩) k c) W1:=fun ty m' c' hm=>by
    subst hm
    have h:=run_appendR (P:=Tryz.prog) delU155 hinf w.drew hmem hf i c ty Ad (k-i) c' cs (by rw[hsz];exact hcl) hsrc h1c (by omega) (by rw[hsize,hsz])
    rw[hsz] at h
    rw[h,hW1,hA1,show i+(k-i)=k by omega]
  have hclr:∀ty m' c',m'=1→(Builtin.clear_ #[32] ty #[.slice (some ⟨b,k*2,none⟩) m' c']).run Tryz.prog W1=.ok (.tuple #[]) (W1.setRow b A2):=fun ty m' c' hm=>by
    subst hm
    rw[hA2]
    exact run_clearR (P:=Tryz.prog) delU155 hinf hzz W1 hm1 (by rw[hA1s];exact hf) (k*2) c' ty hz1 (by simp[hzs];rw[hA1s,hsize];omega)
  have hic:i≤c:=by omega
  have hjc:i+1≤c:=by omega
  have hb3:¬(c=k):=by omega
  have hb1:(0:Int)≤(i:Int)+1:=by omega
  have hb4:((k+1:Nat):Int)=(k:Int)+1:=by omega
  have hb5:(0:Int)≤(k:Int):=by omega
  have hb6:(k:Int)≤(k:Int)+1:=by omega
  have hb7:(k:Int)+1≤(c:Int):=by omega
  have hb8:(i:Int)+1≤(k:Int)+1:=by omega
  have hb2:(i:Int)+1≤((k+1:Nat):Int):=by omega
  rw[←hW1]
  clear hcs hA1 hA2 hW1 hm1 hsrc hcl
  go_enter Tryz.func155,Tryz.ntmps155
  go_wp2_with fail
  go_region_law_o (refine step_append_runR rfl _ _ 32 32 rfl (.slice (some ⟨b,0,none⟩) i c) (.slice (some Ad) (k-i) (c-(i+1))) (by simp[Act.eval,Act.put]) (by simp[Act.eval,Act.put]) (hap _ _ _ rfl) ?_)
  go_wp2
  go_ret
  exact⟨rfl,rfl⟩
theorem delF155:DelF Tryz.prog 155 2:=by
  intro w b i n c arr tb fz hmem hsize hf h1c hi hnc hn
  obtain⟨inf,z,hinf,hsz,hzz,hzs,hz1⟩:=delE155
  obtain⟨k,rfl⟩:∃k,n=k+1:=⟨n-1,by omega⟩
  simp only[Nat.add_sub_cancel]
  obtain⟨cs,hcs⟩:∃cs,cs=(arr.toList.take ((k+1)*2)).drop ((i+1)*2):=⟨_,rfl⟩
  have hsl:arr.toList.length=arr.size:=Array.length_toList
  have hcl:cs.length=(k-i)*2:=by rw[hcs,List.length_drop,List.length_take,hsl,hsize];omega
  have hzl:z.cells.toList.length=2:=by rw[Array.length_toList,hzs]
  refine(delW155 hinf hsz hzz hzs hz1 w b i k c arr tb fz cs hmem hf hi hnc hn hsize hcs (fun u hu=>h1c u (by rw[hcs] at hu;exact List.mem_of_mem_drop hu)) _ _ rfl rfl).mono fun x w'=>?_
  rintro⟨rfl,rfl⟩
  have hA1s:(arr.toList.take (i*2)++(cs++arr.toList.drop (i*2+cs.length))).toArray.size=arr.size:=by simp[hcl];omega
  have hm1:=setRow_heap w.drew b arr (arr.toList.take (i*2)++(cs++arr.toList.drop (i*2+cs.length))).toArray tb fz hmem
  have hA1t:(arr.toList.take (i*2)++(cs++arr.toList.drop (i*2+cs.length))).toArray.toList.take (k*2)=arr.toList.take (i*2)++cs:=by
    rw[List.toList_toArray,←List.append_assoc]
    exact List.take_left' (by rw[List.length_append,List.length_take,hcl,hsl,hsize];omega)
  generalize hA1:(arr.toList.take (i*2)++(cs++arr.toList.drop (i*2+cs.length))).toArray=A1 at *
  have hA1l:A1.toList.length=A1.size:=Array.length_toList
  have hA2s:(A1.toList.take (k*2)++(z.cells.toList++A1.toList.drop (k*2+z.cells.toList.length))).toArray.size=A1.size:=by simp only[List.size_toArray,List.length_append,List.length_take,List.length_drop,hzl,hA1l,hA1s,hsize];omega
  have hm2:=setRow_heap (w.drew.setRow b A1) b A1 (A1.toList.take (k*2)++(z.cells.toList++A1.toList.drop (k*2+z.cells.toList.length))).toArray tb fz hm1
  refine⟨rfl,rfl,rfl,rfl,_,hm2,by rw[hA2s,hA1s],?_,by simp[World.setRow],fun j hj=>?_⟩
  · rw[List.toList_toArray,List.take_left' (by rw[List.length_take,hA1l,hA1s,hsize];omega),hA1t,hcs]
  · rw[setRow_other _ _ _ _ hj,setRow_other _ _ _ _ hj];rfl

set_option linter.unusedSimpArgs false
set_option linter.unusedVariables false

theorem iqU171:Tryz.prog.underlying 29=some (.slice 53):=by kernel_rfl
theorem iqI171:Tryz.prog.underlying 3=some (.int .i64):=by kernel_rfl
theorem iqE171:∃(inf:TypeInfo) (z:Value),Tryz.prog.info? 53=some inf∧inf.size=3∧inf.zero=some z∧z.cells.size=3∧inf.bytes=24:=insE_of (by kernel_rfl)
set_option maxHeartbeats 4000000 in
theorem iqShift171 {inf:TypeInfo} (hinf:Tryz.prog.info? 53=some inf) (hsz:inf.size=3) (w:World) (b i n c vb vo vc:Nat) (arr:Array Value) (tb:Nat) (fz:Nat×Nat) (cs vs:List Value) (hmem:w.heap[b]? = some (.cells arr tb fz)) (hf:∀j,j<arr.size→¬(fz.1≤j∧j<fz.2))
    (hi:i<n) (hroom:n+1≤c) (hsize:arr.size=c*3) (hby:(n+1)*24≤140737488355328) (hbn:vb≠b)
    (hcs:cs=(arr.toList.take (n*3)).drop (i*3)) (hvl:vs.length=3) (hvs:∀(j:Nat) (u:Value),vs[j]? = some u→w.cell? ⟨vb,vo+j,none⟩=some u) (h1c:∀u∈cs,u.oneCell'=true) (h1v:∀u∈vs,u.oneCell'=true)
    (hov:∀y,(callFunc 189 #[.slice (some ⟨vb,vo,none⟩) 1 vc,.slice (some ⟨b,(i+1)*3,none⟩) (n-i) y]).run Tryz.prog w=.ok (.value (.bool false)) w) (A1 A2:Array Value)
    (hA1:A1=(arr.toList.take ((i+1)*3)++(cs++arr.toList.drop ((i+1)*3+cs.length))).toArray) (hA2:A2=(A1.toList.take (i*3)++(vs++A1.toList.drop (i*3+vs.length))).toArray):
    Calls Tryz.prog 171 #[.slice (some ⟨b,0,none⟩) n c,.int .i64 (i:Nat),.slice (some ⟨vb,vo,none⟩) 1 vc] w fun e w'=>e=.returned (.slice (some ⟨b,0,none⟩) (n+1) c)∧w'=(w.drew.setRow b A1).setRow b A2:=by
  have mixed:=mixed
  have hz2:¬((i:Int)=(n:Int)):=by omega
  have hw1:IntKind.i64.wrap ((i:Int)+(1:Int))=(i:Int)+(1:Int):=by rw[IntKind.wrap_i64];omega
  have hw2:IntKind.i64.wrap ((n:Int)+(1:Int))=(n:Int)+(1:Int):=by rw[IntKind.wrap_i64];omega
  have hcl:cs.length=(n-i)*3:=by rw[hcs];simp;omega
  have hA1s:A1.size=arr.size:=by rw[hA1];simp[hcl];omega
  have hcp1:∀ty dc sc,(Builtin.copy_ #[29,29] ty #[.slice (some ⟨b,(i+1)*3,none⟩) (n-i) dc,.slice (some ⟨b,i*3,none⟩) (n+1-i) sc]).run Tryz.prog w.drew=.ok (.int .i64 ((n-i:Nat):Int)) (w.drew.setRow b A1):=fun ty dc sc=>by
    rw[hA1]
    refine run_copyR iqU171 hinf w.drew (fz:=fz) hmem hf _ _ _ (m:=n+1-i) (k:=n-i) (by omega) (lenOf_slice _ _ _ _) (run_firstCells_some w.drew _ _ _ _ _ _ (by rw[hsz];exact hcl) (fun j v hj=>?_)) (by omega) h1c
    rw[hcs,List.getElem?_drop,List.getElem?_take] at hj
    split at hj
    · have:(⟨b,i*3,none⟩:Addr).add j=⟨b,i*3+j,none⟩:=by unfold Addr.add;split<;>simp_all
      rw[this]
      have e:w.drew.cell? ⟨b,i*3+j,none⟩=arr[i*3+j]?:=by simp[World.cell?,show w.drew.heap=w.heap from rfl,hmem]
      rw[e];simpa using hj
    · cases hj
  have hcp2:∀(W:World),W.heap=(w.drew.setRow b A1).heap→∀ty dc,(Builtin.copy_ #[29,29] ty #[.slice (some ⟨b,i*3,none⟩) (n+1-i) dc,.slice (some ⟨vb,vo,none⟩) 1 vc]).run Tryz.prog W=.ok (.int .i64 ((1:Nat):Int)) (W.setRow b A2):=fun W hW ty dc=>by
    rw[hA2]
    have hm1:W.heap[b]? = some (.cells A1 tb fz):=by rw[hW];exact setRow_heap w.drew b arr A1 tb fz hmem
    refine run_copyR iqU171 hinf W (fz:=fz) hm1 (by rw[hA1s];exact hf) _ _ _ (m:=1) (k:=1) (by omega) (lenOf_slice _ _ _ _) (run_firstCells_some W _ _ _ _ _ _ (by rw[hsz];exact hvl) (fun j v hj=>?_)) (by omega) h1v
    have:(⟨vb,vo,none⟩:Addr).add j=⟨vb,vo+j,none⟩:=by unfold Addr.add;split<;>simp_all
    rw[this]
    have e:W.cell? ⟨vb,vo+j,none⟩=w.cell? ⟨vb,vo+j,none⟩:=cell_congr (by rw[hW];exact setRow_other w.drew b vb A1 hbn)
    rw[e];exact hvs j v hj
  have hb1:(0:Int)≤(i:Int)+1:=by omega
  have hin:i≤n:=by omega
  have hb2:¬(c=i+1):=by omega
  have hb4:¬(c=i):=by omega
  have hb3:(i:Int)≤(n:Int)+1:=by omega
  clear hcs hA1 hA2
  go_enter Tryz.func171,Tryz.ntmps171
  go_wp2_with (simp only[hov])
  go_region_law_o (refine step_copy_runR rfl _ _ 29 29 rfl _ _ (by simp[Act.eval,Act.put]) (by simp[Act.eval,Act.put]) (hcp1 _ _ _) ?_)
  go_wp2_with (at_builtin;refine wpList_copy_runR _ rfl _ _ 29 29 rfl _ _ rfl rfl (hcp2 _ rfl _ _) ?_)
  go_ret
  exact⟨rfl,rfl⟩
set_option maxHeartbeats 4000000 in
theorem iqGrow171 {inf:TypeInfo} {z:Value} (hinf:Tryz.prog.info? 53=some inf) (hsz:inf.size=3) (hzz:inf.zero=some z) (hzs:z.cells.size=3) (hbb:inf.bytes=24) (w:World) (b i n c vb vo vc:Nat) (arr:Array Value) (tb:Nat) (fz:Nat×Nat) (cs vs:List Value) (hmem:w.heap[b]? = some (.cells arr tb fz))
    (hi:i<n) (hnc:n≤c) (hroom:¬(n+1≤c)) (hsize:arr.size=c*3) (hby:(n+1)*24≤140737488355328) (va:Array Value) (tv:Nat) (fv:Nat×Nat) (hmemv:w.heap[vb]? = some (.cells va tv fv))
    (hcs:cs=(arr.toList.take (n*3)).drop (i*3)) (hvl:vs.length=3) (hvs:∀(j:Nat) (u:Value),vs[j]? = some u→va[vo+j]? = some u) (h1c:∀u∈cs,u.oneCell'=true) (h1v:∀u∈vs,u.oneCell'=true)
    (G:Nat) (hG:G=grownCap w (n+1) c 53) (ROW A1 A2:Array Value)
    (hROW:ROW=(arr.toList.take (i*3)).toArray++Builtin.zeroCells z.cells (n+1-i)++Builtin.zeroCells z.cells (G-(n+1)))
    (hA1:A1=(ROW.toList.take (i*3)++(vs++ROW.toList.drop (i*3+vs.length))).toArray) (hA2:A2=(A1.toList.take ((i+1)*3)++(cs++A1.toList.drop ((i+1)*3+cs.length))).toArray):
    Calls Tryz.prog 171 #[.slice (some ⟨b,0,none⟩) n c,.int .i64 (i:Nat),.slice (some ⟨vb,vo,none⟩) 1 vc] w fun e w'=>e=.returned (.slice (some ⟨w.heap.size,0,none⟩) (n+1) G)∧w'=(((w.drew.alloc (.cells ROW 53)).setRow w.heap.size A1).drew).setRow w.heap.size A2:=by
  have mixed:=mixed
  have hz2:¬((i:Int)=(n:Int)):=by omega
  have hw1:IntKind.i64.wrap ((i:Int)+(1:Int))=(i:Int)+(1:Int):=by rw[IntKind.wrap_i64];omega
  have hw2:IntKind.i64.wrap ((n:Int)+(1:Int))=(n:Int)+(1:Int):=by rw[IntKind.wrap_i64];omega
  have hw3:IntKind.i64.wrap ((n:Int)+(1:Int)-(i:Int))=(n:Int)+(1:Int)-(i:Int):=by rw[IntKind.wrap_i64];omega
  have hcl:cs.length=(n-i)*3:=by rw[hcs];simp;omega
  have hGn:n+1≤G:=by rw[hG];exact grownCap_ge w _ _ _
  have hbw:b<w.heap.size:=(Array.getElem?_eq_some_iff.1 hmem).1
  have hvw:vb<w.heap.size:=(Array.getElem?_eq_some_iff.1 hmemv).1
  have hzc:∀k,(Builtin.zeroCells z.cells k).size=k*3:=fun k=>by rw[size_zeroCells,hzs]
  have hRs:ROW.size=G*3:=by
    rw[hROW];simp only[Array.size_append,hzc,List.size_toArray,List.length_take,Array.length_toList];omega
  have hA1s:A1.size=ROW.size:=by rw[hA1];simp[hvl];omega
  have hold:(Builtin.firstCells inf.size i (.slice (some ⟨b,0,none⟩) i c)).run Tryz.prog w.drew=.ok (arr.toList.take (i*3)).toArray w.drew:=by
    rw[hsz]
    refine run_firstCells_some w.drew 3 i ⟨b,0,none⟩ i c (arr.toList.take (i*3)) (by rw[List.length_take];simp;omega) (fun j v hj=>?_)
    rw[List.getElem?_take] at hj
    split at hj
    · have:(⟨b,0,none⟩:Addr).add j=⟨b,j,none⟩:=by unfold Addr.add;split<;>simp_all
      rw[this]
      have e:w.drew.cell? ⟨b,j,none⟩=arr[j]?:=by simp[World.cell?,show w.drew.heap=w.heap from rfl,hmem]
      rw[e];simpa using hj
    · cases hj
  have hik:i+(n+1-i)=n+1:=by omega
  have hkk:(n:Int)+1-(i:Int)=((n+1-i:Nat):Int):=by omega
  obtain⟨W1,hW1⟩:∃W1,W1=w.drew.alloc (.cells ROW 53):=⟨_,rfl⟩
  have hrz:∀ty,(Builtin.append_ #[29,3] ty #[.slice (some ⟨b,0,none⟩) i c,.int .i64 ((n:Int)+1-(i:Int))]).run Tryz.prog w=.ok (.slice (some ⟨w.heap.size,0,none⟩) (n+1) G) W1:=fun ty=>by
    have hnx:=nextslicecap_le (need:=n+1) (old:=c) (by omega)
    have h:=Lib.run_append_grow_zeros w 29 3 ty 53 inf z .i64 .i64 iqU171 iqI171 hinf hzz (some ⟨b,0,none⟩) i c (arr.toList.take (i*3)) hold (n+1-i) (by omega) (by omega) (by omega) (by omega) (by rw[hbb];omega) (by rw[hbb,hik];omega)
    rw[hik,←hG,←hROW,←hW1] at h
    rw[hkk]
    exact h
  have hWn:W1.heap[w.heap.size]? = some (.cells ROW 53 (0,0)):=by rw[hW1];exact heap_alloc_new w.drew _
  have hWo:∀j,j<w.heap.size→W1.heap[j]? = w.heap[j]?:=fun j hj=>by rw[hW1];exact heap_alloc_old w.drew _ hj
  have hcp1:∀(W:World),W.heap=W1.heap→∀ty dc,(Builtin.copy_ #[29,29] ty #[.slice (some ⟨w.heap.size,i*3,none⟩) (n+1-i) dc,.slice (some ⟨vb,vo,none⟩) 1 vc]).run Tryz.prog W=.ok (.int .i64 ((1:Nat):Int)) (W.setRow w.heap.size A1):=fun W hW ty dc=>by
    rw[hA1]
    refine run_copyR iqU171 hinf W (fz:=(0,0)) (by rw[hW];exact hWn) (fun j _ hj=>by simp at hj) _ _ _ (m:=1) (k:=1) (by omega) (lenOf_slice _ _ _ _) (run_firstCells_some W _ _ _ _ _ _ (by rw[hsz];exact hvl) (fun j v hj=>?_)) (by omega) h1v
    have:(⟨vb,vo,none⟩:Addr).add j=⟨vb,vo+j,none⟩:=by unfold Addr.add;split<;>simp_all
    rw[this]
    have e:W.cell? ⟨vb,vo+j,none⟩=va[vo+j]?:=by simp[World.cell?,hW,hWo vb hvw,hmemv]
    rw[e];exact hvs j v hj
  have hcp2:∀(W:World),W.heap=(W1.setRow w.heap.size A1).heap→∀ty dc sc,(Builtin.copy_ #[29,29] ty #[.slice (some ⟨w.heap.size,(i+1)*3,none⟩) (n-i) dc,.slice (some ⟨b,i*3,none⟩) (n-i) sc]).run Tryz.prog W=.ok (.int .i64 ((n-i:Nat):Int)) (W.setRow w.heap.size A2):=fun W hW ty dc sc=>by
    rw[hA2]
    have hm1:W.heap[w.heap.size]? = some (.cells A1 53 (0,0)):=by rw[hW];exact setRow_heap W1 w.heap.size ROW A1 53 (0,0) hWn
    refine run_copyR iqU171 hinf W (fz:=(0,0)) hm1 (fun j _ hj=>by simp at hj) _ _ _ (m:=n-i) (k:=n-i) (by omega) (lenOf_slice _ _ _ _) (run_firstCells_some W _ _ _ _ _ _ (by rw[hsz];exact hcl) (fun j v hj=>?_)) (by omega) h1c
    rw[hcs,List.getElem?_drop,List.getElem?_take] at hj
    split at hj
    · have:(⟨b,i*3,none⟩:Addr).add j=⟨b,i*3+j,none⟩:=by unfold Addr.add;split<;>simp_all
      rw[this]
      have e:W.cell? ⟨b,i*3+j,none⟩=arr[i*3+j]?:=by
        have e1:W.heap[b]? = w.heap[b]?:=by rw[hW,setRow_other W1 w.heap.size b A1 (by omega)];exact hWo b hbw
        simp[World.cell?,e1,hmem]
      rw[e];simpa using hj
    · cases hj
  have hb1:(0:Int)≤(i:Int)+1:=by omega
  have hin:i≤n:=by omega
  have hb2:¬(G=i+1):=by omega
  have hb4:¬(c=i):=by omega
  have hb5:¬(G=i):=by omega
  have hb3:(i:Int)≤(n:Int)+1:=by omega
  have hb6:(c:Int)<(n:Int)+1:=by omega
  have hb7:i≤c:=by omega
  rw[←hW1]
  clear hG hcs hA1 hA2 hW1 hold hROW hWn hWo hik hkk
  go_enter Tryz.func171,Tryz.ntmps171
  go_wp2_with (first
    | (at_builtin;refine Lib.wpList_append_run _ rfl _ _ _ _ rfl _ _ rfl rfl _ _ (hrz _) ?_)
    | (at_builtin;refine wpList_copy_runR _ rfl _ _ 29 29 rfl _ _ rfl rfl (hcp1 _ (by exact rfl) _ _) ?_))
  have hF:((W1.setRow w.heap.size A1).drew).heap=(W1.setRow w.heap.size A1).heap:=rfl
  go_region_law_o (refine step_copy_runR rfl _ _ 29 29 rfl (.slice (some ⟨w.heap.size,(i+1)*3,none⟩) (n-i) (G-(i+1))) (.slice (some ⟨b,i*3,none⟩) (n-i) (c-i)) (by simp[Act.eval,Act.put]) (by simp[Act.eval,Act.put]) (hcp2 _ hF 3 (G-(i+1)) (c-i)) ?_)
  go_wp2
  go_ret
  exact⟨rfl,rfl⟩
theorem insP171:InsP Tryz.prog 171 53 3 24:=by
  intro w b i n c vb vo vc arr va tb tv fz fv vs hmem hsize hf hmemv hbn hvl hvs h1v h1c hi hnc hby
  obtain⟨inf,z,hinf,hsz,hzz,hzs,hbb⟩:=iqE171
  obtain⟨cs,hcs⟩:∃cs,cs=(arr.toList.take (n*3)).drop (i*3):=⟨_,rfl⟩
  have h1:∀u∈cs,u.oneCell'=true:=fun u hu=>h1c u (by rw[hcs] at hu;exact List.mem_of_mem_drop hu)
  have hcl:cs.length=(n-i)*3:=by rw[hcs];simp;omega
  by_cases hroom:n+1≤c
  · have hvo:vo<va.size:=by
      have:=hvs 0 vs[0] (List.getElem?_eq_getElem (by omega))
      have:=(Array.getElem?_eq_some_iff.1 this).1
      omega
    have hov:∀y,(callFunc 189 #[.slice (some ⟨vb,vo,none⟩) 1 vc,.slice (some ⟨b,(i+1)*3,none⟩) (n-i) y]).run Tryz.prog w=.ok (.value (.bool false)) w:=fun y=>by
      rw[run_callFunc_extern Tryz.func189 (by kernel_rfl) (by kernel_rfl) (by kernel_rfl) (e:=Extern.SlicesOverlaps.overlaps #[29,29] #[4]) (by kernel_rfl),
        overlaps_apart2 w 29 4 53 iqU171 3 (fun w=>by rw[run_size hinf,hsz]) ⟨vb,vo,none⟩ ⟨b,(i+1)*3,none⟩ 1 vc (n-i) y hbn tv tb va.size arr.size (by simp[World.shape?,hmemv]) (by simp[World.shape?,hmem]) (by omega)
          (by have:=hf ((i+1)*3) (by omega);simp only[World.frozen?,hmem];simp;omega) (by have:=hf arr.size (Nat.le_refl _);simp only[World.frozen?,hmem];simp;omega)]
      rfl
    refine(iqShift171 hinf hsz w b i n c vb vo vc arr tb fz cs vs hmem (fun j hj=>hf j (by omega)) hi hroom hsize hby hbn hcs hvl (fun j u hj=>by simpa [World.cell?,hmemv] using hvs j u hj) h1 h1v hov _ _ rfl rfl).mono fun x w'=>?_
    rintro⟨rfl,rfl⟩
    have hA1s:(arr.toList.take ((i+1)*3)++(cs++arr.toList.drop ((i+1)*3+cs.length))).toArray.size=arr.size:=by simp[hcl];omega
    have hm1:=setRow_heap w.drew b arr (arr.toList.take ((i+1)*3)++(cs++arr.toList.drop ((i+1)*3+cs.length))).toArray tb fz hmem
    generalize hA1:(arr.toList.take ((i+1)*3)++(cs++arr.toList.drop ((i+1)*3+cs.length))).toArray=A1 at *
    have hA2s:(A1.toList.take (i*3)++(vs++A1.toList.drop (i*3+vs.length))).toArray.size=A1.size:=by simp[hvl];omega
    have hm2:=setRow_heap (w.drew.setRow b A1) b A1 (A1.toList.take (i*3)++(vs++A1.toList.drop (i*3+vs.length))).toArray tb fz hm1
    refine⟨b,c,tb,_,fz,rfl,rfl,rfl,rfl,hm2,fun j hj=>hf j (by rw[hA2s,hA1s] at hj;exact hj),by rw[hA2s,hA1s];exact hsize,hroom,?_,.inl ⟨rfl,rfl,by rw[hA2s,hA1s],by rw[setRow_size,setRow_size];rfl,fun j hj=>?_⟩⟩
    · subst hA1
      exact insShiftL arr.toList vs cs (i*3) (n*3) 3 ((i+1)*3) ((n+1)*3) (by omega) (by omega) (by omega) (by simp;omega) hvl hcs
    · rw[setRow_other _ _ _ _ hj,setRow_other _ _ _ _ hj];rfl
  · refine(iqGrow171 hinf hsz hzz hzs hbb w b i n c vb vo vc arr tb fz cs vs hmem hi hnc hroom hsize hby va tv fv hmemv hcs hvl hvs h1 h1v _ rfl _ _ _ rfl rfl rfl).mono fun x w'=>?_
    rintro⟨rfl,rfl⟩
    have hGn:n+1≤grownCap w (n+1) c 53:=grownCap_ge w _ _ _
    have hzc:∀k,(Builtin.zeroCells z.cells k).size=k*3:=fun k=>by rw[size_zeroCells,hzs]
    have hRs:((arr.toList.take (i*3)).toArray++Builtin.zeroCells z.cells (n+1-i)++Builtin.zeroCells z.cells (grownCap w (n+1) c 53-(n+1))).size=grownCap w (n+1) c 53*3:=by
      simp only[Array.size_append,hzc,List.size_toArray,List.length_take,Array.length_toList];omega
    have hRt:((arr.toList.take (i*3)).toArray++Builtin.zeroCells z.cells (n+1-i)++Builtin.zeroCells z.cells (grownCap w (n+1) c 53-(n+1))).toList.take (i*3)=arr.toList.take (i*3):=by
      simp only[Array.toList_append,List.append_assoc]
      exact List.take_left' (by simp;omega)
    generalize hG:grownCap w (n+1) c 53=G at *
    generalize hR:(arr.toList.take (i*3)).toArray++Builtin.zeroCells z.cells (n+1-i)++Builtin.zeroCells z.cells (G-(n+1))=ROW at *
    have hm0:(w.drew.alloc (.cells ROW 53)).heap[w.heap.size]? = some (.cells ROW 53 (0,0)):=heap_alloc_new w.drew _
    have hA1s:(ROW.toList.take (i*3)++(vs++ROW.toList.drop (i*3+vs.length))).toArray.size=ROW.size:=by simp[hvl];omega
    have hm1:=setRow_heap (w.drew.alloc (.cells ROW 53)) w.heap.size ROW (ROW.toList.take (i*3)++(vs++ROW.toList.drop (i*3+vs.length))).toArray 53 (0,0) hm0
    generalize hA1:(ROW.toList.take (i*3)++(vs++ROW.toList.drop (i*3+vs.length))).toArray=A1 at *
    have hA2s:(A1.toList.take ((i+1)*3)++(cs++A1.toList.drop ((i+1)*3+cs.length))).toArray.size=A1.size:=by simp[hcl];omega
    have hm2:=setRow_heap ((w.drew.alloc (.cells ROW 53)).setRow w.heap.size A1).drew w.heap.size A1 (A1.toList.take ((i+1)*3)++(cs++A1.toList.drop ((i+1)*3+cs.length))).toArray 53 (0,0) hm1
    refine⟨w.heap.size,G,53,_,(0,0),rfl,rfl,rfl,rfl,hm2,fun j _ hj=>by simp at hj,by rw[hA2s,hA1s];exact hRs,hGn,?_,.inr ⟨rfl,rfl,?_,fun j hj=>?_⟩⟩
    · subst hA1
      exact insGrowL arr.toList ROW.toList vs cs (i*3) (n*3) 3 ((i+1)*3) ((n+1)*3) (by omega) (by omega) (by omega) (by simp;omega) hvl hcs hRt
    · rw[setRow_size]
      show ((w.drew.alloc (.cells ROW 53)).setRow w.heap.size A1).heap.size=_
      rw[setRow_size]
      simp
    · rw[setRow_other _ _ _ _ (by omega)]
      show ((w.drew.alloc (.cells ROW 53)).setRow w.heap.size A1).heap[j]? = _
      rw[setRow_other _ _ _ _ (by omega)]
      exact heap_alloc_old w.drew _ hj


theorem iqU177:Tryz.prog.underlying 32=some (.slice 69):=by kernel_rfl
theorem iqI177:Tryz.prog.underlying 3=some (.int .i64):=by kernel_rfl
theorem iqE177:∃(inf:TypeInfo) (z:Value),Tryz.prog.info? 69=some inf∧inf.size=2∧inf.zero=some z∧z.cells.size=2∧inf.bytes=24:=insE_of (by kernel_rfl)
set_option maxHeartbeats 4000000 in
theorem iqShift177 {inf:TypeInfo} (hinf:Tryz.prog.info? 69=some inf) (hsz:inf.size=2) (w:World) (b i n c vb vo vc:Nat) (arr:Array Value) (tb:Nat) (fz:Nat×Nat) (cs vs:List Value) (hmem:w.heap[b]? = some (.cells arr tb fz)) (hf:∀j,j<arr.size→¬(fz.1≤j∧j<fz.2))
    (hi:i<n) (hroom:n+1≤c) (hsize:arr.size=c*2) (hby:(n+1)*24≤140737488355328) (hbn:vb≠b)
    (hcs:cs=(arr.toList.take (n*2)).drop (i*2)) (hvl:vs.length=2) (hvs:∀(j:Nat) (u:Value),vs[j]? = some u→w.cell? ⟨vb,vo+j,none⟩=some u) (h1c:∀u∈cs,u.oneCell'=true) (h1v:∀u∈vs,u.oneCell'=true)
    (hov:∀y,(callFunc 191 #[.slice (some ⟨vb,vo,none⟩) 1 vc,.slice (some ⟨b,(i+1)*2,none⟩) (n-i) y]).run Tryz.prog w=.ok (.value (.bool false)) w) (A1 A2:Array Value)
    (hA1:A1=(arr.toList.take ((i+1)*2)++(cs++arr.toList.drop ((i+1)*2+cs.length))).toArray) (hA2:A2=(A1.toList.take (i*2)++(vs++A1.toList.drop (i*2+vs.length))).toArray):
    Calls Tryz.prog 177 #[.slice (some ⟨b,0,none⟩) n c,.int .i64 (i:Nat),.slice (some ⟨vb,vo,none⟩) 1 vc] w fun e w'=>e=.returned (.slice (some ⟨b,0,none⟩) (n+1) c)∧w'=(w.drew.setRow b A1).setRow b A2:=by
  have mixed:=mixed
  have hz2:¬((i:Int)=(n:Int)):=by omega
  have hw1:IntKind.i64.wrap ((i:Int)+(1:Int))=(i:Int)+(1:Int):=by rw[IntKind.wrap_i64];omega
  have hw2:IntKind.i64.wrap ((n:Int)+(1:Int))=(n:Int)+(1:Int):=by rw[IntKind.wrap_i64];omega
  have hcl:cs.length=(n-i)*2:=by rw[hcs];simp;omega
  have hA1s:A1.size=arr.size:=by rw[hA1];simp[hcl];omega
  have hcp1:∀ty dc sc,(Builtin.copy_ #[32,32] ty #[.slice (some ⟨b,(i+1)*2,none⟩) (n-i) dc,.slice (some ⟨b,i*2,none⟩) (n+1-i) sc]).run Tryz.prog w.drew=.ok (.int .i64 ((n-i:Nat):Int)) (w.drew.setRow b A1):=fun ty dc sc=>by
    rw[hA1]
    refine run_copyR iqU177 hinf w.drew (fz:=fz) hmem hf _ _ _ (m:=n+1-i) (k:=n-i) (by omega) (lenOf_slice _ _ _ _) (run_firstCells_some w.drew _ _ _ _ _ _ (by rw[hsz];exact hcl) (fun j v hj=>?_)) (by omega) h1c
    rw[hcs,List.getElem?_drop,List.getElem?_take] at hj
    split at hj
    · have:(⟨b,i*2,none⟩:Addr).add j=⟨b,i*2+j,none⟩:=by unfold Addr.add;split<;>simp_all
      rw[this]
      have e:w.drew.cell? ⟨b,i*2+j,none⟩=arr[i*2+j]?:=by simp[World.cell?,show w.drew.heap=w.heap from rfl,hmem]
      rw[e];simpa using hj
    · cases hj
  have hcp2:∀(W:World),W.heap=(w.drew.setRow b A1).heap→∀ty dc,(Builtin.copy_ #[32,32] ty #[.slice (some ⟨b,i*2,none⟩) (n+1-i) dc,.slice (some ⟨vb,vo,none⟩) 1 vc]).run Tryz.prog W=.ok (.int .i64 ((1:Nat):Int)) (W.setRow b A2):=fun W hW ty dc=>by
    rw[hA2]
    have hm1:W.heap[b]? = some (.cells A1 tb fz):=by rw[hW];exact setRow_heap w.drew b arr A1 tb fz hmem
    refine run_copyR iqU177 hinf W (fz:=fz) hm1 (by rw[hA1s];exact hf) _ _ _ (m:=1) (k:=1) (by omega) (lenOf_slice _ _ _ _) (run_firstCells_some W _ _ _ _ _ _ (by rw[hsz];exact hvl) (fun j v hj=>?_)) (by omega) h1v
    have:(⟨vb,vo,none⟩:Addr).add j=⟨vb,vo+j,none⟩:=by unfold Addr.add;split<;>simp_all
    rw[this]
    have e:W.cell? ⟨vb,vo+j,none⟩=w.cell? ⟨vb,vo+j,none⟩:=cell_congr (by rw[hW];exact setRow_other w.drew b vb A1 hbn)
    rw[e];exact hvs j v hj
  have hb1:(0:Int)≤(i:Int)+1:=by omega
  have hin:i≤n:=by omega
  have hb2:¬(c=i+1):=by omega
  have hb4:¬(c=i):=by omega
  have hb3:(i:Int)≤(n:Int)+1:=by omega
  clear hcs hA1 hA2
  go_enter Tryz.func177,Tryz.ntmps177
  go_wp2_with (simp only[hov])
  go_region_law_o (refine step_copy_runR rfl _ _ 32 32 rfl _ _ (by simp[Act.eval,Act.put]) (by simp[Act.eval,Act.put]) (hcp1 _ _ _) ?_)
  go_wp2_with (at_builtin;refine wpList_copy_runR _ rfl _ _ 32 32 rfl _ _ rfl rfl (hcp2 _ rfl _ _) ?_)
  go_ret
  exact⟨rfl,rfl⟩
set_option maxHeartbeats 4000000 in
theorem iqGrow177 {inf:TypeInfo} {z:Value} (hinf:Tryz.prog.info? 69=some inf) (hsz:inf.size=2) (hzz:inf.zero=some z) (hzs:z.cells.size=2) (hbb:inf.bytes=24) (w:World) (b i n c vb vo vc:Nat) (arr:Array Value) (tb:Nat) (fz:Nat×Nat) (cs vs:List Value) (hmem:w.heap[b]? = some (.cells arr tb fz))
    (hi:i<n) (hnc:n≤c) (hroom:¬(n+1≤c)) (hsize:arr.size=c*2) (hby:(n+1)*24≤140737488355328) (va:Array Value) (tv:Nat) (fv:Nat×Nat) (hmemv:w.heap[vb]? = some (.cells va tv fv))
    (hcs:cs=(arr.toList.take (n*2)).drop (i*2)) (hvl:vs.length=2) (hvs:∀(j:Nat) (u:Value),vs[j]? = some u→va[vo+j]? = some u) (h1c:∀u∈cs,u.oneCell'=true) (h1v:∀u∈vs,u.oneCell'=true)
    (G:Nat) (hG:G=grownCap w (n+1) c 69) (ROW A1 A2:Array Value)
    (hROW:ROW=(arr.toList.take (i*2)).toArray++Builtin.zeroCells z.cells (n+1-i)++Builtin.zeroCells z.cells (G-(n+1)))
    (hA1:A1=(ROW.toList.take (i*2)++(vs++ROW.toList.drop (i*2+vs.length))).toArray) (hA2:A2=(A1.toList.take ((i+1)*2)++(cs++A1.toList.drop ((i+1)*2+cs.length))).toArray):
    Calls Tryz.prog 177 #[.slice (some ⟨b,0,none⟩) n c,.int .i64 (i:Nat),.slice (some ⟨vb,vo,none⟩) 1 vc] w fun e w'=>e=.returned (.slice (some ⟨w.heap.size,0,none⟩) (n+1) G)∧w'=(((w.drew.alloc (.cells ROW 69)).setRow w.heap.size A1).drew).setRow w.heap.size A2:=by
  have mixed:=mixed
  have hz2:¬((i:Int)=(n:Int)):=by omega
  have hw1:IntKind.i64.wrap ((i:Int)+(1:Int))=(i:Int)+(1:Int):=by rw[IntKind.wrap_i64];omega
  have hw2:IntKind.i64.wrap ((n:Int)+(1:Int))=(n:Int)+(1:Int):=by rw[IntKind.wrap_i64];omega
  have hw3:IntKind.i64.wrap ((n:Int)+(1:Int)-(i:Int))=(n:Int)+(1:Int)-(i:Int):=by rw[IntKind.wrap_i64];omega
  have hcl:cs.length=(n-i)*2:=by rw[hcs];simp;omega
  have hGn:n+1≤G:=by rw[hG];exact grownCap_ge w _ _ _
  have hbw:b<w.heap.size:=(Array.getElem?_eq_some_iff.1 hmem).1
  have hvw:vb<w.heap.size:=(Array.getElem?_eq_some_iff.1 hmemv).1
  have hzc:∀k,(Builtin.zeroCells z.cells k).size=k*2:=fun k=>by rw[size_zeroCells,hzs]
  have hRs:ROW.size=G*2:=by
    rw[hROW];simp only[Array.size_append,hzc,List.size_toArray,List.length_take,Array.length_toList];omega
  have hA1s:A1.size=ROW.size:=by rw[hA1];simp[hvl];omega
  have hold:(Builtin.firstCells inf.size i (.slice (some ⟨b,0,none⟩) i c)).run Tryz.prog w.drew=.ok (arr.toList.take (i*2)).toArray w.drew:=by
    rw[hsz]
    refine run_firstCells_some w.drew 2 i ⟨b,0,none⟩ i c (arr.toList.take (i*2)) (by rw[List.length_take];simp;omega) (fun j v hj=>?_)
    rw[List.getElem?_take] at hj
    split at hj
    · have:(⟨b,0,none⟩:Addr).add j=⟨b,j,none⟩:=by unfold Addr.add;split<;>simp_all
      rw[this]
      have e:w.drew.cell? ⟨b,j,none⟩=arr[j]?:=by simp[World.cell?,show w.drew.heap=w.heap from rfl,hmem]
      rw[e];simpa using hj
    · cases hj
  have hik:i+(n+1-i)=n+1:=by omega
  have hkk:(n:Int)+1-(i:Int)=((n+1-i:Nat):Int):=by omega
  obtain⟨W1,hW1⟩:∃W1,W1=w.drew.alloc (.cells ROW 69):=⟨_,rfl⟩
  have hrz:∀ty,(Builtin.append_ #[32,3] ty #[.slice (some ⟨b,0,none⟩) i c,.int .i64 ((n:Int)+1-(i:Int))]).run Tryz.prog w=.ok (.slice (some ⟨w.heap.size,0,none⟩) (n+1) G) W1:=fun ty=>by
    have hnx:=nextslicecap_le (need:=n+1) (old:=c) (by omega)
    have h:=Lib.run_append_grow_zeros w 32 3 ty 69 inf z .i64 .i64 iqU177 iqI177 hinf hzz (some ⟨b,0,none⟩) i c (arr.toList.take (i*2)) hold (n+1-i) (by omega) (by omega) (by omega) (by omega) (by rw[hbb];omega) (by rw[hbb,hik];omega)
    rw[hik,←hG,←hROW,←hW1] at h
    rw[hkk]
    exact h
  have hWn:W1.heap[w.heap.size]? = some (.cells ROW 69 (0,0)):=by rw[hW1];exact heap_alloc_new w.drew _
  have hWo:∀j,j<w.heap.size→W1.heap[j]? = w.heap[j]?:=fun j hj=>by rw[hW1];exact heap_alloc_old w.drew _ hj
  have hcp1:∀(W:World),W.heap=W1.heap→∀ty dc,(Builtin.copy_ #[32,32] ty #[.slice (some ⟨w.heap.size,i*2,none⟩) (n+1-i) dc,.slice (some ⟨vb,vo,none⟩) 1 vc]).run Tryz.prog W=.ok (.int .i64 ((1:Nat):Int)) (W.setRow w.heap.size A1):=fun W hW ty dc=>by
    rw[hA1]
    refine run_copyR iqU177 hinf W (fz:=(0,0)) (by rw[hW];exact hWn) (fun j _ hj=>by simp at hj) _ _ _ (m:=1) (k:=1) (by omega) (lenOf_slice _ _ _ _) (run_firstCells_some W _ _ _ _ _ _ (by rw[hsz];exact hvl) (fun j v hj=>?_)) (by omega) h1v
    have:(⟨vb,vo,none⟩:Addr).add j=⟨vb,vo+j,none⟩:=by unfold Addr.add;split<;>simp_all
    rw[this]
    have e:W.cell? ⟨vb,vo+j,none⟩=va[vo+j]?:=by simp[World.cell?,hW,hWo vb hvw,hmemv]
    rw[e];exact hvs j v hj
  have hcp2:∀(W:World),W.heap=(W1.setRow w.heap.size A1).heap→∀ty dc sc,(Builtin.copy_ #[32,32] ty #[.slice (some ⟨w.heap.size,(i+1)*2,none⟩) (n-i) dc,.slice (some ⟨b,i*2,none⟩) (n-i) sc]).run Tryz.prog W=.ok (.int .i64 ((n-i:Nat):Int)) (W.setRow w.heap.size A2):=fun W hW ty dc sc=>by
    rw[hA2]
    have hm1:W.heap[w.heap.size]? = some (.cells A1 69 (0,0)):=by rw[hW];exact setRow_heap W1 w.heap.size ROW A1 69 (0,0) hWn
    refine run_copyR iqU177 hinf W (fz:=(0,0)) hm1 (fun j _ hj=>by simp at hj) _ _ _ (m:=n-i) (k:=n-i) (by omega) (lenOf_slice _ _ _ _) (run_firstCells_some W _ _ _ _ _ _ (by rw[hsz];exact hcl) (fun j v hj=>?_)) (by omega) h1c
    rw[hcs,List.getElem?_drop,List.getElem?_take] at hj
    split at hj
    · have:(⟨b,i*2,none⟩:Addr).add j=⟨b,i*2+j,none⟩:=by unfold Addr.add;split<;>simp_all
      rw[this]
      have e:W.cell? ⟨b,i*2+j,none⟩=arr[i*2+j]?:=by
        have e1:W.heap[b]? = w.heap[b]?:=by rw[hW,setRow_other W1 w.heap.size b A1 (by omega)];exact hWo b hbw
        simp[World.cell?,e1,hmem]
      rw[e];simpa using hj
    · cases hj
  have hb1:(0:Int)≤(i:Int)+1:=by omega
  have hin:i≤n:=by omega
  have hb2:¬(G=i+1):=by omega
  have hb4:¬(c=i):=by omega
  have hb5:¬(G=i):=by omega
  have hb3:(i:Int)≤(n:Int)+1:=by omega
  have hb6:(c:Int)<(n:Int)+1:=by omega
  have hb7:i≤c:=by omega
  rw[←hW1]
  clear hG hcs hA1 hA2 hW1 hold hROW hWn hWo hik hkk
  go_enter Tryz.func177,Tryz.ntmps177
  go_wp2_with (first
    | (at_builtin;refine Lib.wpList_append_run _ rfl _ _ _ _ rfl _ _ rfl rfl _ _ (hrz _) ?_)
    | (at_builtin;refine wpList_copy_runR _ rfl _ _ 32 32 rfl _ _ rfl rfl (hcp1 _ (by exact rfl) _ _) ?_))
  have hF:((W1.setRow w.heap.size A1).drew).heap=(W1.setRow w.heap.size A1).heap:=rfl
  go_region_law_o (refine step_copy_runR rfl _ _ 32 32 rfl (.slice (some ⟨w.heap.size,(i+1)*2,none⟩) (n-i) (G-(i+1))) (.slice (some ⟨b,i*2,none⟩) (n-i) (c-i)) (by simp[Act.eval,Act.put]) (by simp[Act.eval,Act.put]) (hcp2 _ hF 3 (G-(i+1)) (c-i)) ?_)
  go_wp2
  go_ret
  exact⟨rfl,rfl⟩
theorem insP177:InsP Tryz.prog 177 69 2 24:=by
  intro w b i n c vb vo vc arr va tb tv fz fv vs hmem hsize hf hmemv hbn hvl hvs h1v h1c hi hnc hby
  obtain⟨inf,z,hinf,hsz,hzz,hzs,hbb⟩:=iqE177
  obtain⟨cs,hcs⟩:∃cs,cs=(arr.toList.take (n*2)).drop (i*2):=⟨_,rfl⟩
  have h1:∀u∈cs,u.oneCell'=true:=fun u hu=>h1c u (by rw[hcs] at hu;exact List.mem_of_mem_drop hu)
  have hcl:cs.length=(n-i)*2:=by rw[hcs];simp;omega
  by_cases hroom:n+1≤c
  · have hvo:vo<va.size:=by
      have:=hvs 0 vs[0] (List.getElem?_eq_getElem (by omega))
      have:=(Array.getElem?_eq_some_iff.1 this).1
      omega
    have hov:∀y,(callFunc 191 #[.slice (some ⟨vb,vo,none⟩) 1 vc,.slice (some ⟨b,(i+1)*2,none⟩) (n-i) y]).run Tryz.prog w=.ok (.value (.bool false)) w:=fun y=>by
      rw[run_callFunc_extern Tryz.func191 (by kernel_rfl) (by kernel_rfl) (by kernel_rfl) (e:=Extern.SlicesOverlaps.overlaps #[32,32] #[4]) (by kernel_rfl),
        overlaps_apart2 w 32 4 69 iqU177 2 (fun w=>by rw[run_size hinf,hsz]) ⟨vb,vo,none⟩ ⟨b,(i+1)*2,none⟩ 1 vc (n-i) y hbn tv tb va.size arr.size (by simp[World.shape?,hmemv]) (by simp[World.shape?,hmem]) (by omega)
          (by have:=hf ((i+1)*2) (by omega);simp only[World.frozen?,hmem];simp;omega) (by have:=hf arr.size (Nat.le_refl _);simp only[World.frozen?,hmem];simp;omega)]
      rfl
    refine(iqShift177 hinf hsz w b i n c vb vo vc arr tb fz cs vs hmem (fun j hj=>hf j (by omega)) hi hroom hsize hby hbn hcs hvl (fun j u hj=>by simpa [World.cell?,hmemv] using hvs j u hj) h1 h1v hov _ _ rfl rfl).mono fun x w'=>?_
    rintro⟨rfl,rfl⟩
    have hA1s:(arr.toList.take ((i+1)*2)++(cs++arr.toList.drop ((i+1)*2+cs.length))).toArray.size=arr.size:=by simp[hcl];omega
    have hm1:=setRow_heap w.drew b arr (arr.toList.take ((i+1)*2)++(cs++arr.toList.drop ((i+1)*2+cs.length))).toArray tb fz hmem
    generalize hA1:(arr.toList.take ((i+1)*2)++(cs++arr.toList.drop ((i+1)*2+cs.length))).toArray=A1 at *
    have hA2s:(A1.toList.take (i*2)++(vs++A1.toList.drop (i*2+vs.length))).toArray.size=A1.size:=by simp[hvl];omega
    have hm2:=setRow_heap (w.drew.setRow b A1) b A1 (A1.toList.take (i*2)++(vs++A1.toList.drop (i*2+vs.length))).toArray tb fz hm1
    refine⟨b,c,tb,_,fz,rfl,rfl,rfl,rfl,hm2,fun j hj=>hf j (by rw[hA2s,hA1s] at hj;exact hj),by rw[hA2s,hA1s];exact hsize,hroom,?_,.inl ⟨rfl,rfl,by rw[hA2s,hA1s],by rw[setRow_size,setRow_size];rfl,fun j hj=>?_⟩⟩
    · subst hA1
      exact insShiftL arr.toList vs cs (i*2) (n*2) 2 ((i+1)*2) ((n+1)*2) (by omega) (by omega) (by omega) (by simp;omega) hvl hcs
    · rw[setRow_other _ _ _ _ hj,setRow_other _ _ _ _ hj];rfl
  · refine(iqGrow177 hinf hsz hzz hzs hbb w b i n c vb vo vc arr tb fz cs vs hmem hi hnc hroom hsize hby va tv fv hmemv hcs hvl hvs h1 h1v _ rfl _ _ _ rfl rfl rfl).mono fun x w'=>?_
    rintro⟨rfl,rfl⟩
    have hGn:n+1≤grownCap w (n+1) c 69:=grownCap_ge w _ _ _
    have hzc:∀k,(Builtin.zeroCells z.cells k).size=k*2:=fun k=>by rw[size_zeroCells,hzs]
    have hRs:((arr.toList.take (i*2)).toArray++Builtin.zeroCells z.cells (n+1-i)++Builtin.zeroCells z.cells (grownCap w (n+1) c 69-(n+1))).size=grownCap w (n+1) c 69*2:=by
      simp only[Array.size_append,hzc,List.size_toArray,List.length_take,Array.length_toList];omega
    have hRt:((arr.toList.take (i*2)).toArray++Builtin.zeroCells z.cells (n+1-i)++Builtin.zeroCells z.cells (grownCap w (n+1) c 69-(n+1))).toList.take (i*2)=arr.toList.take (i*2):=by
      simp only[Array.toList_append,List.append_assoc]
      exact List.take_left' (by simp;omega)
    generalize hG:grownCap w (n+1) c 69=G at *
    generalize hR:(arr.toList.take (i*2)).toArray++Builtin.zeroCells z.cells (n+1-i)++Builtin.zeroCells z.cells (G-(n+1))=ROW at *
    have hm0:(w.drew.alloc (.cells ROW 69)).heap[w.heap.size]? = some (.cells ROW 69 (0,0)):=heap_alloc_new w.drew _
    have hA1s:(ROW.toList.take (i*2)++(vs++ROW.toList.drop (i*2+vs.length))).toArray.size=ROW.size:=by simp[hvl];omega
    have hm1:=setRow_heap (w.drew.alloc (.cells ROW 69)) w.heap.size ROW (ROW.toList.take (i*2)++(vs++ROW.toList.drop (i*2+vs.length))).toArray 69 (0,0) hm0
    generalize hA1:(ROW.toList.take (i*2)++(vs++ROW.toList.drop (i*2+vs.length))).toArray=A1 at *
    have hA2s:(A1.toList.take ((i+1)*2)++(cs++A1.toList.drop ((i+1)*2+cs.length))).toArray.size=A1.size:=by simp[hcl];omega
    have hm2:=setRow_heap ((w.drew.alloc (.cells ROW 69)).setRow w.heap.size A1).drew w.heap.size A1 (A1.toList.take ((i+1)*2)++(cs++A1.toList.drop ((i+1)*2+cs.length))).toArray 69 (0,0) hm1
    refine⟨w.heap.size,G,69,_,(0,0),rfl,rfl,rfl,rfl,hm2,fun j _ hj=>by simp at hj,by rw[hA2s,hA1s];exact hRs,hGn,?_,.inr ⟨rfl,rfl,?_,fun j hj=>?_⟩⟩
    · subst hA1
      exact insGrowL arr.toList ROW.toList vs cs (i*2) (n*2) 2 ((i+1)*2) ((n+1)*2) (by omega) (by omega) (by omega) (by simp;omega) hvl hcs hRt
    · rw[setRow_size]
      show ((w.drew.alloc (.cells ROW 69)).setRow w.heap.size A1).heap.size=_
      rw[setRow_size]
      simp
    · rw[setRow_other _ _ _ _ (by omega)]
      show ((w.drew.alloc (.cells ROW 69)).setRow w.heap.size A1).heap[j]? = _
      rw[setRow_other _ _ _ _ (by omega)]
      exact heap_alloc_old w.drew _ hj


set_option maxHeartbeats 4000000 in
theorem insEndN171 (w:World) (n c:Nat) (a:Addr) (vc:Nat) (hnc:n≤c) (hc0:c=0) (hn:n≤140737488355328) (x:Option Addr) (m k:Nat) {w1:World}
    (hap:∀ty,(Builtin.append_ #[29,29] ty #[.slice none n c,.slice (some a) 1 vc]).run Tryz.prog w=.ok (.slice x m k) w1):
    Calls Tryz.prog 171 #[.slice none n c,.int .i64 (n:Nat),.slice (some a) 1 vc] w fun e w'=>e=.returned (.slice x m k)∧w'=w1:=by
  have mixed:=mixed
  have hb1:(0:Int)≤(n:Int):=by omega
  have hb2:(n:Int)≤(n:Int):=Int.le_refl _
  have hb7:(n:Int)≤(c:Int):=by omega
  have hn0:n=0:=by omega
  subst hc0 hn0
  all_goals
    go_enter Tryz.func171,Tryz.ntmps171
    go_wp2_with (at_builtin;refine Lib.wpList_append_run _ rfl _ _ _ _ rfl _ _ rfl rfl _ _ (hap _) ?_)
    all_goals
      go_ret
      exact⟨rfl,rfl⟩


set_option maxHeartbeats 4000000 in
theorem insEndS171 (w:World) (b:Addr) (n c:Nat) (a:Addr) (vc:Nat) (hnc:n≤c) (hn:n≤140737488355328) (x:Option Addr) (m k:Nat) {w1:World}
    (hap:∀ty,(Builtin.append_ #[29,29] ty #[.slice (some b) n c,.slice (some a) 1 vc]).run Tryz.prog w=.ok (.slice x m k) w1):
    Calls Tryz.prog 171 #[.slice (some b) n c,.int .i64 (n:Nat),.slice (some a) 1 vc] w fun e w'=>e=.returned (.slice x m k)∧w'=w1:=by
  have mixed:=mixed
  have hb1:(0:Int)≤(n:Int):=by omega
  have hb2:(n:Int)≤(n:Int):=Int.le_refl _
  have hb7:(n:Int)≤(c:Int):=by omega
  have hb8:True:=trivial
  by_cases hcn:c=n
  all_goals
    go_enter Tryz.func171,Tryz.ntmps171
    go_wp2_with (at_builtin;refine Lib.wpList_append_run _ rfl _ _ _ _ rfl _ _ rfl rfl _ _ (hap _) ?_)
    all_goals
      go_ret
      exact⟨rfl,rfl⟩


set_option maxHeartbeats 4000000 in
theorem insEndN177 (w:World) (n c:Nat) (a:Addr) (vc:Nat) (hnc:n≤c) (hc0:c=0) (hn:n≤140737488355328) (x:Option Addr) (m k:Nat) {w1:World}
    (hap:∀ty,(Builtin.append_ #[32,32] ty #[.slice none n c,.slice (some a) 1 vc]).run Tryz.prog w=.ok (.slice x m k) w1):
    Calls Tryz.prog 177 #[.slice none n c,.int .i64 (n:Nat),.slice (some a) 1 vc] w fun e w'=>e=.returned (.slice x m k)∧w'=w1:=by
  have mixed:=mixed
  have hb1:(0:Int)≤(n:Int):=by omega
  have hb2:(n:Int)≤(n:Int):=Int.le_refl _
  have hb7:(n:Int)≤(c:Int):=by omega
  have hn0:n=0:=by omega
  subst hc0 hn0
  all_goals
    go_enter Tryz.func177,Tryz.ntmps177
    go_wp2_with (at_builtin;refine Lib.wpList_append_run _ rfl _ _ _ _ rfl _ _ rfl rfl _ _ (hap _) ?_)
    all_goals
      go_ret
      exact⟨rfl,rfl⟩


set_option maxHeartbeats 4000000 in
theorem insEndS177 (w:World) (b:Addr) (n c:Nat) (a:Addr) (vc:Nat) (hnc:n≤c) (hn:n≤140737488355328) (x:Option Addr) (m k:Nat) {w1:World}
    (hap:∀ty,(Builtin.append_ #[32,32] ty #[.slice (some b) n c,.slice (some a) 1 vc]).run Tryz.prog w=.ok (.slice x m k) w1):
    Calls Tryz.prog 177 #[.slice (some b) n c,.int .i64 (n:Nat),.slice (some a) 1 vc] w fun e w'=>e=.returned (.slice x m k)∧w'=w1:=by
  have mixed:=mixed
  have hb1:(0:Int)≤(n:Int):=by omega
  have hb2:(n:Int)≤(n:Int):=Int.le_refl _
  have hb7:(n:Int)≤(c:Int):=by omega
  have hb8:True:=trivial
  by_cases hcn:c=n
  all_goals
    go_enter Tryz.func177,Tryz.ntmps177
    go_wp2_with (at_builtin;refine Lib.wpList_append_run _ rfl _ _ _ _ rfl _ _ rfl rfl _ _ (hap _) ?_)
    all_goals
      go_ret
      exact⟨rfl,rfl⟩


theorem insN171:InsE Tryz.prog 171 29 53 3 24:=by
  refine⟨iqU171,?_,fun w base n c a vc hnc hbn hn x m k w1 hap=>?_⟩
  · obtain⟨inf,z,h1,h2,h3,h4,h5⟩:=iqE171
    exact⟨inf,z,h1,h2,h3,h4,h5⟩
  · cases base with
    | none=>exact insEndN171 w n c a vc hnc (hbn rfl) hn x m k hap
    | some b=>exact insEndS171 w b n c a vc hnc hn x m k hap

theorem insN177:InsE Tryz.prog 177 32 69 2 24:=by
  refine⟨iqU177,?_,fun w base n c a vc hnc hbn hn x m k w1 hap=>?_⟩
  · obtain⟨inf,z,h1,h2,h3,h4,h5⟩:=iqE177
    exact⟨inf,z,h1,h2,h3,h4,h5⟩
  · cases base with
    | none=>exact insEndN177 w n c a vc hnc (hbn rfl) hn x m k hap
    | some b=>exact insEndS177 w b n c a vc hnc hn x m k hap

def u_bx:Uf:=⟨156,18,Tryz.f156,[.val .str,.val .str],[],
⟨[(4,.val .bool)],[]⟩,[],
[],
[],fun y=>(valW .bool y,[],[])⟩
def V_bx (N:Nat) (x:List UInt8×List UInt8):Option (Bool):=
 cnd (decide ((↑(List.length x.2):Int)≤(↑(List.length x.1):Int))) (cnd (decide ((0:Int)≤(↑(List.length x.2):Int))&&decide ((↑(List.length x.2):Int)≤(↑(List.length x.1):Int))) (some (List.drop (0:Nat) (List.take (Int.toNat (↑(List.length x.2):Int)) x.1)==x.2)) none) (some false)
theorem q_bx:∀N x,u_bx.F L0 P0 (orcOf []) N x=V_bx N x:=by intros;kernel_rfl
def W_bx (N:Nat):=V_bx N
theorem con_bx_ok (N:Nat):(u_bx.con (W_bx N)).ok P0:=Uf.ok mixed (q_bx N) trivial Tryz.func156 (by kernel_rfl) fun x y=>by kernel_rfl
def u_by:Uf:=⟨107,8,Tryz.f107,[.val .str,.val .str],[],
⟨[(4,.val .bool)],[]⟩,[],
[],
[],fun y=>(valW .bool y,[],[])⟩
def V_by (w_bx:List UInt8×List UInt8→Option (Bool)) (N:Nat) (x:List UInt8×List UInt8):Option (Bool):=
 obind (w_bx x) fun b=>some b
theorem q_by:∀w_bx N x,u_by.F L0 P0 (orcOf [u_bx.con w_bx]) N x=V_by w_bx N x:=by intros;kernel_rfl
def W_by (N:Nat):=V_by (W_bx N) N
theorem con_by_ok (N:Nat):(u_by.con (W_by N)).ok P0:=Uf.ok mixed (q_by (W_bx N) N) ⟨con_bx_ok N,trivial⟩ Tryz.func107 (by kernel_rfl) fun x y=>by kernel_rfl
def u_bA:Uf:=⟨52,14,Tryz.f52,[.val .str,.val (.int .i32)],[],
⟨[(4,.val (.int .i64))],[]⟩,[],
[],
[],fun y=>(valW (.int .i64) y,[],[])⟩
def V_bA (w_by:List UInt8×List UInt8→Option (Bool)) (N:Nat) (x:List UInt8×Int):Option (Int):=
 cnd (decide (x.2=(65533:Int))) (obind (w_by (x.1,[(239:UInt8),(191:UInt8),(189:UInt8)])) fun b=>cnd (!b) (some (-1:Int)) (some (wr .i64 x.2))) (some (wr .i64 x.2))
theorem q_bA:∀w_by N x,u_bA.F L0 P0 (orcOf [u_by.con w_by]) N x=V_bA w_by N x:=by intros;kernel_rfl
def W_bA (N:Nat):=V_bA (W_by N) N
theorem con_bA_ok (N:Nat):(u_bA.con (W_bA N)).ok P0:=Uf.ok mixed (q_bA (W_by N) N) ⟨con_by_ok N,trivial⟩ Tryz.func52 (by kernel_rfl) fun x y=>by kernel_rfl
def u_bD:Uf:=⟨26,36,Tryz.f26,[.val .str],[],
⟨[(2,.val .bool)],[]⟩,[],
[(3,.loop [] ⟨[(3,.val (.int .i64)),(8,.ptr 600008 0)],[(600008,.iter)]⟩ [(.exit 0,⟨[(3,.val (.int .i64))],[]⟩),(.ret,⟨[(2,.val .bool)],[]⟩)])],
[],fun y=>(valW .bool y,[],[])⟩
def V_bD (w_bA:List UInt8×Int→Option (Int)) (N:Nat) (x:List UInt8):Option (Bool):=
 obind (loopN N (fun(v:Int×List UInt8×Int)=>cnd (decide (Int.toNat v.2.2<List.length v.2.1)) (cnd (decide ((0:Int)≤(↑(Int.toNat v.2.2):
 Int))&&decide ((↑(Int.toNat v.2.2):Int)≤(↑(List.length x):Int))) (obind (w_bA (List.drop (Int.toNat (↑(Int.toNat v.2.2):Int))
 (List.take (List.length x) x),(↑(Prod.fst (Utf8.decode { data:={ toList:=v.2.1 } } (Int.toNat v.2.2))):Int))) fun b=>cnd (decide (b <
 (33:Int))) (some (Sum.inr (Sum.inr false))) (cnd (decide ((127:Int)≤b)) (cnd (decide (b≤(159:Int))) (some (Sum.inr (Sum.inr false))) (some
 (Sum.inl (wr .i64 (v.1+(1:Int)),v.2.1,(↑(Int.toNat v.2.2+Prod.snd (Utf8.decode { data:={ toList:=v.2.1 } } (Int.toNat v.2.2))):Int)))))
 (some (Sum.inl (wr .i64 (v.1+(1:Int)),v.2.1,(↑(Int.toNat v.2.2+Prod.snd (Utf8.decode { data:={ toList:=v.2.1 } } (Int.toNat v.2.2))):
 Int)))))) none) (some (Sum.inr (Sum.inl v.1)))) ((0:Int),x,(↑(0:Nat):Int))) fun(b:Int⊕Bool)=>selim (fun(b:Int)=>cnd (decide ((1:Int)
 ≤ b)) (some (decide (b≤(8:Int)))) (some false)) (fun(c:Bool)=>some c) b
theorem q_bD:∀w_bA N x,u_bD.F L0 P0 (orcOf [u_bA.con w_bA]) N x=V_bD w_bA N x:=by intros;kernel_rfl
def W_bD (N:Nat):=V_bD (W_bA N) N
theorem con_bD_ok (N:Nat):(u_bD.con (W_bD N)).ok P0:=Uf.ok mixed (q_bD (W_bA N) N) ⟨con_bA_ok N,trivial⟩ Tryz.func26 (by kernel_rfl) fun x y=>by kernel_rfl
def as_e:List AS:=[.val (.list (.int .i64))]
def bs_e:List BS:=[]
def pout_e:Pat:=⟨[(2,.acc 700005)],[(700005,.nrow 3 (.int .i64) false true)]⟩
def G_e  (N:Nat):OrcT:=orcOf []
def F_e  (N:Nat) (x:List Int):Option (List Int):=
  (evT (G_e  N) L0 P0 []
    [] N 400 (bodyOf Tryz.f108) ⟨8,slots 0 [.nl ⟨(.int .i64),x⟩],tabU (lbOf as_e bs_e x) [],[]⟩).elim (kRet 8 pout_e (kpL []) (lbOf as_e bs_e x))
def out_e (y:List Int):V×List OK×List OK:=(.acc 2000000 0,[],[.nrow 3 false true ⟨(.int .i64),y⟩])
def V_e  (N:Nat) (x:List Int):Option (List Int):=
 cnd (decide (List.length x*(8:Nat)≤(140737488355328:Nat))) (some x) none
theorem FV_e_eq  (N:Nat) (x:List Int):F_e  N x=V_e  N x:=by kernel_rfl
def W_e (N:Nat) (x:List Int):Option (List Int):=V_e  N x
theorem F_e_eq (N:Nat) (x:List Int):F_e  N x=W_e N x:=(FV_e_eq  N x).trans (by kernel_rfl)
def conw_e (w:List Int→Option (List Int)):Con:=⟨108,as_e,bs_e,List Int,w,out_e⟩
def con_e (N:Nat):Con:=conw_e (W_e N)
theorem R_e_eq (x:List Int) (y:List Int):retOf2 P0 Tryz.f108 (kpL []) (lbOf as_e bs_e x) (patS ⟨8,[],[],[]⟩ pout_e y)=some (out_e y):=by kernel_rfl
def FA_slices_Clone_int:Option (List Int):=(evT (G_e 1) L0 P0 [] [] 1 400 (bodyOf Tryz.f108) ⟨8,slots 0 [.snil],tabU [] [],[]⟩).elim (kRet 8 pout_e (kpL []) [])
theorem FA_slices_Clone_int_eq:FA_slices_Clone_int=some []:=by kernel_rfl
theorem WN_slices_Clone_int (N:Nat) (r:List Int) (h:W_e N []=some r):r=[]:=by
  have e:W_e N []=some []:=by kernel_rfl
  rw[e] at h;injection h with h;exact h.symm
theorem con_e_ok (N:Nat):Con.ok P0 (con_e N):=⟨⟨Tryz.f108,Tryz.func108,by kernel_rfl,by kernel_rfl⟩,fun(x:List Int) (r:List Int) (hr:W_e N x=some r)=>
  clone_split (e:=(.int .i64)) (ty:=3) (l:=x) (r:=r)
    (spec2_evT (Γ:=G_e 1) (Λ:=L0) (lb:=[]) (pout:=pout_e) (kp:=kpL []) mixed (orcOf_ok [] (by simp)) Tryz.func108 (c:=bodyOf Tryz.f108) (by kernel_rfl) (by kernel_rfl) (of_decide_eq_true (by kernel_rfl)) FA_slices_Clone_int_eq (R_e_eq x []))
    (spec2_evT (Γ:=G_e N) (Λ:=L0) (lb:=[]) (pout:=pout_e) (kp:=kpL []) mixed (orcOf_ok [] (by simp)) Tryz.func108 (c:=bodyOf Tryz.f108) (by kernel_rfl) (by kernel_rfl) (of_decide_eq_true (by kernel_rfl)) ((F_e_eq N x).trans hr) (R_e_eq x r))
    (fun h=>by subst h;exact WN_slices_Clone_int N r hr)⟩
def as_f:List AS:=[.val (.list (.agg T3_))]
def bs_f:List BS:=[]
def pout_f:Pat:=⟨[(2,.acc 700005)],[(700005,.nrow 53 (.agg T3_) false true)]⟩
def G_f  (N:Nat):OrcT:=orcOf []
def F_f  (N:Nat) (x:List (Int×Int×Int)):Option (List (Int×Int×Int)):=
  (evT (G_f  N) L0 P0 []
    [] N 400 (bodyOf Tryz.f109) ⟨8,slots 0 [.nl ⟨(.agg T3_),x⟩],tabU (lbOf as_f bs_f x) [],[]⟩).elim (kRet 8 pout_f (kpL []) (lbOf as_f bs_f x))
def out_f (y:List (Int×Int×Int)):V×List OK×List OK:=(.acc 2000000 0,[],[.nrow 53 false true ⟨(.agg T3_),y⟩])
def V_f  (N:Nat) (x:List (Int×Int×Int)):Option (List (Int×Int×Int)):=
 cnd (decide (List.length x*(24:Nat)≤(140737488355328:Nat))) (some x) none
theorem FV_f_eq  (N:Nat) (x:List (Int×Int×Int)):F_f  N x=V_f  N x:=by kernel_rfl
def W_f (N:Nat) (x:List (Int×Int×Int)):Option (List (Int×Int×Int)):=V_f  N x
theorem F_f_eq (N:Nat) (x:List (Int×Int×Int)):F_f  N x=W_f N x:=(FV_f_eq  N x).trans (by kernel_rfl)
def conw_f (w:List (Int×Int×Int)→Option (List (Int×Int×Int))):Con:=⟨109,as_f,bs_f,List (Int×Int×Int),w,out_f⟩
def con_f (N:Nat):Con:=conw_f (W_f N)
theorem R_f_eq (x:List (Int×Int×Int)) (y:List (Int×Int×Int)):retOf2 P0 Tryz.f109 (kpL []) (lbOf as_f bs_f x) (patS ⟨8,[],[],[]⟩ pout_f y)=some (out_f y):=by kernel_rfl
def FA_slices_Clone_api_Kid:Option (List (Int×Int×Int)):=(evT (G_f 1) L0 P0 [] [] 1 400 (bodyOf Tryz.f109) ⟨8,slots 0 [.snil],tabU [] [],[]⟩).elim (kRet 8 pout_f (kpL []) [])
theorem FA_slices_Clone_api_Kid_eq:FA_slices_Clone_api_Kid=some []:=by kernel_rfl
theorem WN_slices_Clone_api_Kid (N:Nat) (r:List (Int×Int×Int)) (h:W_f N []=some r):r=[]:=by
  have e:W_f N []=some []:=by kernel_rfl
  rw[e] at h;injection h with h;exact h.symm
theorem con_f_ok (N:Nat):Con.ok P0 (con_f N):=⟨⟨Tryz.f109,Tryz.func109,by kernel_rfl,by kernel_rfl⟩,fun(x:List (Int×Int×Int)) (r:List (Int×Int×Int)) (hr:W_f N x=some r)=>
  clone_split (e:=(.agg T3_)) (ty:=53) (l:=x) (r:=r)
    (spec2_evT (Γ:=G_f 1) (Λ:=L0) (lb:=[]) (pout:=pout_f) (kp:=kpL []) mixed (orcOf_ok [] (by simp)) Tryz.func109 (c:=bodyOf Tryz.f109) (by kernel_rfl) (by kernel_rfl) (of_decide_eq_true (by kernel_rfl)) FA_slices_Clone_api_Kid_eq (R_f_eq x []))
    (spec2_evT (Γ:=G_f N) (Λ:=L0) (lb:=[]) (pout:=pout_f) (kp:=kpL []) mixed (orcOf_ok [] (by simp)) Tryz.func109 (c:=bodyOf Tryz.f109) (by kernel_rfl) (by kernel_rfl) (of_decide_eq_true (by kernel_rfl)) ((F_f_eq N x).trans hr) (R_f_eq x r))
    (fun h=>by subst h;exact WN_slices_Clone_api_Kid N r hr)⟩
def u_2:Uf:=⟨53,12,Tryz.f53,[.val (.agg T0_)],[],
⟨[(2,.ptr 600002 0)],[(600002,.box 31 (.val T0_))]⟩,[],
[],
[],fun y=>(valW (.agg T0_) y,[],[])⟩
def V_2 (w_e:List Int→Option (List Int)) (w_f:List (Int×Int×Int)→Option (List (Int×Int×Int))) (N:Nat) (x:A1_):Option A1_:=
 obind (w_e x.2.2.2.2.2.2.1) fun b=>obind (w_f x.2.2.2.2.2.2.2.2.2.2.2.2) fun b_1=>some (x.1,x.2.1,x.2.2.1,
 x.2.2.2.1,x.2.2.2.2.1,x.2.2.2.2.2.1,b,x.2.2.2.2.2.2.2.1,x.2.2.2.2.2.2.2.2.1,x.2.2.2.2.2.2.2.2.2.1,x.2.2.2.2.2.2.2.2.2.2.1,
 x.2.2.2.2.2.2.2.2.2.2.2.1,b_1)
theorem q_2:∀w_e w_f N x,u_2.F L0 P0 (orcOf [conw_e w_e,conw_f w_f]) N x=V_2 w_e w_f N x:=by intros;kernel_rfl
def W_2 (N:Nat):=V_2 (W_e N) (W_f N) N
theorem con_2_ok (N:Nat):(u_2.con (W_2 N)).ok P0:=Uf.ok mixed (q_2 (W_e N) (W_f N) N) ⟨con_e_ok N,con_f_ok N,trivial⟩ Tryz.func53 (by kernel_rfl) fun x y=>by kernel_rfl
def as_c:List AS:=[.val (.list T5_)]
def bs_c:List BS:=[]
def pout_c:Pat:=⟨[(2,.acc 700005)],[(700005,.nrow 69 T5_ false true)]⟩
def G_c  (N:Nat):OrcT:=orcOf []
def F_c  (N:Nat) (x:List (Int×List UInt8)):Option (List (Int×List UInt8)):=
  (evT (G_c  N) L0 P0 []
    [] N 400 (bodyOf Tryz.f110) ⟨8,slots 0 [.nl ⟨T5_,x⟩],tabU (lbOf as_c bs_c x) [],[]⟩).elim (kRet 8 pout_c (kpL []) (lbOf as_c bs_c x))
def out_c (y:List (Int×List UInt8)):V×List OK×List OK:=(.acc 2000000 0,[],[.nrow 69 false true ⟨T5_,y⟩])
def V_c  (N:Nat) (x:List (Int×List UInt8)):Option (List (Int×List UInt8)):=
 cnd (decide (List.length x*(24:Nat)≤(140737488355328:Nat))) (some x) none
theorem FV_c_eq  (N:Nat) (x:List (Int×List UInt8)):F_c  N x=V_c  N x:=by kernel_rfl
def W_c (N:Nat) (x:List (Int×List UInt8)):Option (List (Int×List UInt8)):=V_c  N x
theorem F_c_eq (N:Nat) (x:List (Int×List UInt8)):F_c  N x=W_c N x:=(FV_c_eq  N x).trans (by kernel_rfl)
def conw_c (w:List (Int×List UInt8)→Option (List (Int×List UInt8))):Con:=⟨110,as_c,bs_c,List (Int×List UInt8),w,out_c⟩
def con_c (N:Nat):Con:=conw_c (W_c N)
theorem R_c_eq (x:List (Int×List UInt8)) (y:List (Int×List UInt8)):retOf2 P0 Tryz.f110 (kpL []) (lbOf as_c bs_c x) (patS ⟨8,[],[],[]⟩ pout_c y)=some (out_c y):=by kernel_rfl
def FA_slices_Clone_api_Item:Option (List (Int×List UInt8)):=(evT (G_c 1) L0 P0 [] [] 1 400 (bodyOf Tryz.f110) ⟨8,slots 0 [.snil],tabU [] [],[]⟩).elim (kRet 8 pout_c (kpL []) [])
theorem FA_slices_Clone_api_Item_eq:FA_slices_Clone_api_Item=some []:=by kernel_rfl
theorem WN_slices_Clone_api_Item (N:Nat) (r:List (Int×List UInt8)) (h:W_c N []=some r):r=[]:=by
  have e:W_c N []=some []:=by kernel_rfl
  rw[e] at h;injection h with h;exact h.symm
theorem con_c_ok (N:Nat):Con.ok P0 (con_c N):=⟨⟨Tryz.f110,Tryz.func110,by kernel_rfl,by kernel_rfl⟩,fun(x:List (Int×List UInt8)) (r:List (Int×List UInt8)) (hr:W_c N x=some r)=>
  clone_split (e:=T5_) (ty:=69) (l:=x) (r:=r)
    (spec2_evT (Γ:=G_c 1) (Λ:=L0) (lb:=[]) (pout:=pout_c) (kp:=kpL []) mixed (orcOf_ok [] (by simp)) Tryz.func110 (c:=bodyOf Tryz.f110) (by kernel_rfl) (by kernel_rfl) (of_decide_eq_true (by kernel_rfl)) FA_slices_Clone_api_Item_eq (R_c_eq x []))
    (spec2_evT (Γ:=G_c N) (Λ:=L0) (lb:=[]) (pout:=pout_c) (kp:=kpL []) mixed (orcOf_ok [] (by simp)) Tryz.func110 (c:=bodyOf Tryz.f110) (by kernel_rfl) (by kernel_rfl) (of_decide_eq_true (by kernel_rfl)) ((F_c_eq N x).trans hr) (R_c_eq x r))
    (fun h=>by subst h;exact WN_slices_Clone_api_Item N r hr)⟩
def as_d:List AS:=[.val (.list T4_)]
def bs_d:List BS:=[]
def pout_d:Pat:=⟨[(2,.acc 700005)],[(700005,.nrow 55 T4_ false true)]⟩
def G_d  (N:Nat):OrcT:=orcOf []
def F_d  (N:Nat) (x:List A4_):Option (List A4_):=
  (evT (G_d  N) L0 P0 []
    [] N 400 (bodyOf Tryz.f111) ⟨8,slots 0 [.nl ⟨T4_,x⟩],tabU (lbOf as_d bs_d x) [],[]⟩).elim (kRet 8 pout_d (kpL []) (lbOf as_d bs_d x))
def out_d (y:List A4_):V×List OK×List OK:=(.acc 2000000 0,[],[.nrow 55 false true ⟨T4_,y⟩])
def V_d  (N:Nat) (x:List A4_):Option (List A4_):=
 cnd (decide (List.length x*(48:Nat)≤(140737488355328:Nat))) (some x) none
theorem FV_d_eq  (N:Nat) (x:List A4_):F_d  N x=V_d  N x:=by kernel_rfl
def W_d (N:Nat) (x:List A4_):Option (List A4_):=V_d  N x
theorem F_d_eq (N:Nat) (x:List A4_):F_d  N x=W_d N x:=(FV_d_eq  N x).trans (by kernel_rfl)
def conw_d (w:List A4_→Option (List A4_)):Con:=⟨111,as_d,bs_d,List A4_,w,out_d⟩
def con_d (N:Nat):Con:=conw_d (W_d N)
theorem R_d_eq (x:List A4_) (y:List A4_):retOf2 P0 Tryz.f111 (kpL []) (lbOf as_d bs_d x) (patS ⟨8,[],[],[]⟩ pout_d y)=some (out_d y):=by kernel_rfl
def FA_slices_Clone_api_Event:Option (List A4_):=(evT (G_d 1) L0 P0 [] [] 1 400 (bodyOf Tryz.f111) ⟨8,slots 0 [.snil],tabU [] [],[]⟩).elim (kRet 8 pout_d (kpL []) [])
theorem FA_slices_Clone_api_Event_eq:FA_slices_Clone_api_Event=some []:=by kernel_rfl
theorem WN_slices_Clone_api_Event (N:Nat) (r:List A4_) (h:W_d N []=some r):r=[]:=by
  have e:W_d N []=some []:=by kernel_rfl
  rw[e] at h;injection h with h;exact h.symm
theorem con_d_ok (N:Nat):Con.ok P0 (con_d N):=⟨⟨Tryz.f111,Tryz.func111,by kernel_rfl,by kernel_rfl⟩,fun(x:List A4_) (r:List A4_) (hr:W_d N x=some r)=>
  clone_split (e:=T4_) (ty:=55) (l:=x) (r:=r)
    (spec2_evT (Γ:=G_d 1) (Λ:=L0) (lb:=[]) (pout:=pout_d) (kp:=kpL []) mixed (orcOf_ok [] (by simp)) Tryz.func111 (c:=bodyOf Tryz.f111) (by kernel_rfl) (by kernel_rfl) (of_decide_eq_true (by kernel_rfl)) FA_slices_Clone_api_Event_eq (R_d_eq x []))
    (spec2_evT (Γ:=G_d N) (Λ:=L0) (lb:=[]) (pout:=pout_d) (kp:=kpL []) mixed (orcOf_ok [] (by simp)) Tryz.func111 (c:=bodyOf Tryz.f111) (by kernel_rfl) (by kernel_rfl) (of_decide_eq_true (by kernel_rfl)) ((F_d_eq N x).trans hr) (R_d_eq x r))
    (fun h=>by subst h;exact WN_slices_Clone_api_Event N r hr)⟩
def u_b:Uf:=⟨54,16,Tryz.f54,[.val (.agg T1_)],[],
⟨[(2,.ptr 600002 0)],[(600002,.box 37 (.val T1_))]⟩,[],
[],
[],fun y=>(valW (.agg T1_) y,[],[])⟩
def V_b (w_c:List (Int×List UInt8)→Option (List (Int×List UInt8))) (w_d:List A4_→Option (List A4_)) (N:Nat) (x:A0_):Option A0_:=
 obind (w_c x.2.2.1) fun b=>obind (w_c x.2.2.2.1) fun b_1=>obind (w_d x.2.2.2.2.1) fun b_2=>some (x.1,x.2.1,b,b_1,b_2,x.2.2.2.2.2)
theorem q_b:∀w_c w_d N x,u_b.F L0 P0 (orcOf [conw_c w_c,conw_d w_d]) N x=V_b w_c w_d N x:=by intros;kernel_rfl
def W_b (N:Nat):=V_b (W_c N) (W_d N) N
theorem con_b_ok (N:Nat):(u_b.con (W_b N)).ok P0:=Uf.ok mixed (q_b (W_c N) (W_d N) N) ⟨con_c_ok N,con_d_ok N,trivial⟩ Tryz.func54 (by kernel_rfl) fun x y=>by kernel_rfl
def u_o:Uf:=⟨27,12,Tryz.f27,[.val (.agg T2_)],[],
⟨[(2,.ptr 600002 0)],[(600002,.box 39 (.val T2_))]⟩,[],
[],
[],fun y=>(valW (.agg T2_) y,[],[])⟩
def V_o (w_2:A1_→Option A1_) (w_b:A0_→Option A0_) (N:Nat) (x:A3_):Option A3_:=
 obind (w_2 x.2.2.2.1) fun b=>obind (w_b x.2.2.2.2.1) fun b_1=>some (x.1,x.2.1,x.2.2.1,b,b_1,x.2.2.2.2.2)
theorem q_o:∀w_2 w_b N x,u_o.F L0 P0 (orcOf [u_2.con w_2,u_b.con w_b]) N x=V_o w_2 w_b N x:=by intros;kernel_rfl
def W_o (N:Nat):=V_o (W_2 N) (W_b N) N
theorem con_o_ok (N:Nat):(u_o.con (W_o N)).ok P0:=Uf.ok mixed (q_o (W_2 N) (W_b N) N) ⟨con_2_ok N,con_b_ok N,trivial⟩ Tryz.func27 (by kernel_rfl) fun x y=>by kernel_rfl
def u_bG:Uf:=⟨28,22,Tryz.f28,[.val (.int .i64),.val (.int .i64),.val (.int .i64),.val (.int .i64)],[],
⟨[(8,.ptr 600008 0)],[(600008,.box 31 (.val T0_))]⟩,[],
[],
[],fun y=>(valW (.agg T0_) y,[],[])⟩
def V_bG (N:Nat) (x:Int×Int×Int×Int):Option A1_:=
 cnd (decide (x.1=(1:Int))) (some (x.1,x.2.1,x.2.2.1,(0:Int),(0:Int),x.2.2.2,[(1:Int)],(0:Int),x.2.2.1,(0:Int),(0:Int),(0:Int),[])) (some (x.1,x.2.1,x.2.2.1,(0:Int),(0:Int),x.2.2.2,[],(0:Int),(0:Int),(0:Int),(0:Int),(0:Int),[]))
theorem q_bG:∀N x,u_bG.F L0 P0 (orcOf []) N x=V_bG N x:=by intros;kernel_rfl
def W_bG (N:Nat):=V_bG N
theorem con_bG_ok (N:Nat):(u_bG.con (W_bG N)).ok P0:=Uf.ok mixed (q_bG N) trivial Tryz.func28 (by kernel_rfl) fun x y=>by kernel_rfl
def u_bv:Uf:=⟨12,43,Tryz.f12,[.val (.agg T2_),.val (.int .i64),.val .str,.val (.int .i64)],[],
⟨[(8,.ptr 600008 0),(9,.val .bool)],[(600008,.box 39 (.val T2_))]⟩,[],
[],
[(1000001,.reg [(7,[],⟨[(4,.ptr 600004 0),(8,.ptr 600008 0),(17,.val .bool)],[(600004,.box 39 (.val T2_)),(600008,.box 39 (.val T2_))]⟩),(4,[],⟨[(4,.ptr 600004 0),(8,.ptr 600008 0),(21,.val .bool)],[(600004,.box 39 (.val T2_)),(600008,.box 39 (.val T2_))]⟩),(4,[],⟨[(4,.ptr 600004 0),(8,.ptr 600008 0),(25,.val .bool)],[(600004,.box 39 (.val T2_)),(600008,.box 39 (.val T2_))]⟩)])],fun y=>(.tup [valW (.agg T2_) y.2,valW .bool y.1],[],[])⟩
def V_bv (w_bD:List UInt8→Option (Bool)) (w_o:A3_→Option A3_) (w_bG:Int×Int×Int×Int→Option A1_) (N:Nat) (x:A3_×Int×List UInt8×Int):Option (Bool×A3_):=
 obind (cnd x.1.1 (some (true,x.1,false,(0:Int),[],((0:Int),(0:Int),(0:Int),(0:Int),(0:Int),(0:Int),[],(0:Int),(0:Int),(0:Int),(0:Int),
 (0:Int),[]),((0:Int),(0:Int),[],[],[],(0:Int),(0:Int)),(0:Int))) (obind (w_bD x.2.2.1) fun b=>some (!b,x.1,false,(0:Int),[],
 ((0:Int),(0:Int),(0:Int),(0:Int),(0:Int),(0:Int),[],(0:Int),(0:Int),(0:Int),(0:Int),(0:Int),[]),((0:Int),(0:Int),[],[],[],(0:Int),
 (0:Int)),(0:Int)))) fun(b:Bool×A3_×A3_)=>obind (cnd b.1 (some (true,
 b.2)) (some (decide (x.2.1<(1:Int)),b.2))) fun(b:Bool×A3_×A3_)=>obind (cnd
 b.1 (some (true,b.2)) (some (decide ((8:Int)<x.2.1),b.2))) fun(b:Bool×A3_×A3_)=>cnd b.1 (obind (w_o b.2.1) fun b=>some (false,b)) (cnd (decide ((1073741824:Int)≤b.2.1.2.1)) (obind (w_o b.2.1) fun
 b=>some (false,b)) (obind (w_bG (x.2.1,wr .i64 (b.2.1.2.1+(1:Int)),(0:Int),x.2.2.2)) fun b_1=>some (true,true,wr .i64 (b.2.1.2.1
 + (1:Int)),x.2.2.1,b_1,((0:Int),(0:Int),[],[],[],(0:Int),(0:Int)),(0:Int))))
theorem q_bv:∀w_bD w_o w_bG N x,u_bv.F L0 P0 (orcOf [u_bD.con w_bD,u_o.con w_o,u_bG.con w_bG]) N x=V_bv w_bD w_o w_bG N x:=by intros;kernel_rfl
def W_bv (N:Nat):=V_bv (W_bD N) (W_o N) (W_bG N) N
theorem con_bv_ok (N:Nat):(u_bv.con (W_bv N)).ok P0:=Uf.ok mixed (q_bv (W_bD N) (W_o N) (W_bG N) N) ⟨con_bD_ok N,con_o_ok N,con_bG_ok N,trivial⟩ Tryz.func12 (by kernel_rfl) fun x y=>by kernel_rfl
def u_h:Uf:=⟨104,12,Tryz.f104,[.val (.agg T1_)],[],
⟨[(2,.val (.alt 158 (.agg (.int .i64)) (.alt1 209 (.agg .unit))))],[]⟩,[],
[],
[],fun y=>(valW (.alt 158 (.agg (.int .i64)) (.alt1 209 (.agg .unit))) y,[],[])⟩
def V_h (N:Nat) (x:A0_):Option (Int⊕Unit):=
 cnd (decide (x.1<(1:Int))) (some (Sum.inr ())) (some (Sum.inl x.1))
theorem q_h:∀N x,u_h.F L0 P0 (orcOf []) N x=V_h N x:=by intros;kernel_rfl
def W_h (N:Nat):=V_h N
theorem con_h_ok (N:Nat):(u_h.con (W_h N)).ok P0:=Uf.ok mixed (q_h N) trivial Tryz.func104 (by kernel_rfl) fun x y=>by kernel_rfl
def u_W:Uf:=⟨105,15,Tryz.f105,[.val (.list T4_),.val (.int .i64),.val .str],[],
⟨[(6,.val (.list T4_))],[]⟩,[],
[],
[],fun y=>(valW (.list T4_) y,[],[])⟩
def V_W (w_d:List A4_→Option (List A4_)) (N:Nat) (x:List A4_×Int×List UInt8):Option (List A4_):=
 obind (w_d x.1) fun b=>cnd (decide ((List.length b+List.length [((1:Int),x.2.1,x.2.1,x.2.2,(0:Int))])*(48:Nat)≤(140737488355328:Nat))) (some (b++[((1:Int),x.2.1,x.2.1,x.2.2,(0:Int))])) none
theorem q_W:∀w_d N x,u_W.F L0 P0 (orcOf [conw_d w_d]) N x=V_W w_d N x:=by intros;kernel_rfl
def W_W (N:Nat):=V_W (W_d N) N
theorem con_W_ok (N:Nat):(u_W.con (W_W N)).ok P0:=Uf.ok mixed (q_W (W_d N) N) ⟨con_d_ok N,trivial⟩ Tryz.func105 (by kernel_rfl) fun x y=>by kernel_rfl
def as_ad:List AS:=[.acc 0,.val (.int .i64),.val (.int .i64)]
def bs_ad:List BS:=[.nrow 69 T5_ true]
def out_ad (y:List (Int×List UInt8)):V×List OK×List OK:=(.acc 2000000 0,[.dead],[.nrow 69 false true ⟨T5_,y⟩])
def W_ad (N:Nat) (x:Int×Int×List (Int×List UInt8)):Option (List (Int×List UInt8)):=
  cnd (decide ((0:Int)≤x.1)&&decide (x.1<((↑(List.length x.2.2):Int):Int))&&decide (x.2.1=x.1+(1:Int))&&decide (List.length x.2.2 ≤
    (140737488355328:Nat))&&decide ((2:Nat)≤List.length x.2.2)) (some (List.take (Int.toNat x.1) x.2.2++List.drop (Int.toNat x.1+(1:Nat))
    x.2.2)) none
def conw_ad (w:Int×Int×List (Int×List UInt8)→Option (List (Int×List UInt8))):Con:=⟨155,as_ad,bs_ad,List (Int×List UInt8),w,out_ad⟩
def con_ad (N:Nat):Con:=conw_ad (W_ad N)
theorem con_ad_ok (N:Nat):Con.ok P0 (con_ad N):=⟨⟨Tryz.f155,Tryz.func155,by kernel_rfl,by kernel_rfl⟩,fun(x:Int×Int×List (Int×List UInt8)) (r:List (Int×List UInt8)) (hr:W_ad N x=some r)=>by
  obtain⟨i,j,l⟩:=x
  exact del_con2 (e:=T5_) (ty:=69) (nl:=true) (l:=l) (r:=r) (i:=i) (j:=j) delF155 rfl (by decide) hr⟩
def u_1:Uf:=⟨106,34,Tryz.f106,[.val (.list T5_),.val T5_],[],
⟨[(4,.val (.list T5_))],[]⟩,[],
[],
[],fun y=>(valW (.list T5_) y,[],[])⟩
def V_1 (w_c:List (Int×List UInt8)→Option (List (Int×List UInt8))) (w_ad:Int×Int×List (Int×List UInt8)→Option (List (Int×List UInt8))) (N:Nat) (x:List (Int×List UInt8)×Int×List UInt8):Option (List (Int×List UInt8)):=
 obind (w_c x.1) fun b=>cnd (decide ((0:Int)<(↑(List.length x.1):Int))) (cnd (decide ((0:Int)≤wr .i64 ((↑(List.length
 x.1):Int)-(1:Int)))&&decide (wr .i64 ((↑(List.length x.1):Int)-(1:Int))<(↑(List.length x.1):Int))) (cnd (decide (x.2.1≤Prod.fst
 (List.getD x.1 (Int.toNat (wr .i64 ((↑(List.length x.1):Int)-(1:Int)))) ((0:Int),[])))) (some b) (cnd (decide ((List.length b+List.length
 [x.2])*(24:Nat)≤(140737488355328:Nat))) (cnd (decide ((6:Int)<(↑(List.length (b++[x.2])):Int))) (obind (w_ad
 ((0:Int),(1:Int),b++[x.2])) fun b=>some b) (some (b++[x.2]))) none)) none) (cnd (decide ((List.length b+List.length [x.2])*(24:Nat) ≤
 (140737488355328:Nat))) (cnd (decide ((6:Int)<(↑(List.length (b++[x.2])):Int))) (obind (w_ad ((0:Int),(1:Int),b++
 [x.2])) fun b=>some b) (some (b++[x.2]))) none)
theorem q_1:∀w_c w_ad N x,u_1.F L0 P0 (orcOf [conw_c w_c,conw_ad w_ad]) N x=V_1 w_c w_ad N x:=by intros;kernel_rfl
def W_1 (N:Nat):=V_1 (W_c N) (W_ad N) N
theorem con_1_ok (N:Nat):(u_1.con (W_1 N)).ok P0:=Uf.ok mixed (q_1 (W_c N) (W_ad N) N) ⟨con_c_ok N,con_ad_ok N,trivial⟩ Tryz.func106 (by kernel_rfl) fun x y=>by kernel_rfl
def u_bE:Uf:=⟨51,48,Tryz.f51,[.val (.agg T1_),.val .str],[],
⟨[(4,.ptr 600004 0),(5,.val .bool)],[(600004,.box 37 (.val T1_))]⟩,[],
[],
[(6,.cut [] [(.normal,⟨[(4,.ptr 600004 0),(6,.ptr 600006 0),(7,.val (.int .i64))],[(600004,.box 37 (.val T1_)),(600006,.box 37 (.val T1_))]⟩)])],fun y=>(.tup [valW (.agg T1_) y.2,valW .bool y.1],[],[])⟩
def V_bE (w_b:A0_→Option A0_) (w_h:A0_→Option (Int⊕Unit)) (w_W:List A4_×Int×List UInt8→Option (List A4_)) (w_1:List (Int×List UInt8)×Int×List UInt8→Option (List (Int×List UInt8))) (N:Nat) (x:A0_×List UInt8):Option (Bool×A0_):=
 obind (w_b x.1) fun b=>obind (obind (w_h x.1) fun b_1=>selim (fun(b_2:Int)=>some (b_2,((0:Int),(0:Int),[],[],[],
 (0:Int),(0:Int)),b)) (fun(c:PUnit)=>some ((1:Int),((0:Int),(0:Int),[],[],[],(0:Int),(0:Int)),b)) b_1) fun(b:Int×A0_×A0_)=>cnd (decide ((12:Int)<(↑(List.length x.2):Int))) (some
 (false,b.2.2)) (cnd (decide ((1000000:Int)<b.1)) (some (false,b.2.2)) (obind (w_W (b.2.2.2.2.2.2.1,b.1,x.2)) fun b_1=>obind
 (w_1 (b.2.2.2.2.1,b.1,x.2)) fun b_2=>some (true,wr .i64 (b.1+(1:Int)),b.1,b_2,b.2.2.2.2.2.1,b_1,b.2.2.2.2.2.2.2)))
theorem q_bE:∀w_b w_h w_W w_1 N x,u_bE.F L0 P0 (orcOf [u_b.con w_b,u_h.con w_h,u_W.con w_W,u_1.con w_1]) N x=V_bE w_b w_h w_W w_1 N x:=by intros;kernel_rfl
def W_bE (N:Nat):=V_bE (W_b N) (W_h N) (W_W N) (W_1 N) N
theorem con_bE_ok (N:Nat):(u_bE.con (W_bE N)).ok P0:=Uf.ok mixed (q_bE (W_b N) (W_h N) (W_W N) (W_1 N) N) ⟨con_b_ok N,con_h_ok N,con_W_ok N,con_1_ok N,trivial⟩ Tryz.func51 (by kernel_rfl) fun x y=>by kernel_rfl
def u_aY:Uf:=⟨87,19,Tryz.f87,[.val (.agg T1_),.val (.agg T1_)],[],
⟨[(4,.val (.list T4_))],[]⟩,[],
[],
[],fun y=>(valW (.list T4_) y,[],[])⟩
def V_aY (w_d:List A4_→Option (List A4_)) (N:Nat) (x:A0_×A0_):Option (List A4_):=
 cnd (decide ((↑(List.length x.1.2.2.2.2.1):Int)≤(↑(List.length x.2.2.2.2.2.1):Int))) (some []) (cnd (decide ((0:Int)≤(↑(List.length
 x.2.2.2.2.2.1):Int))&&decide ((↑(List.length x.2.2.2.2.2.1):Int)≤(↑(List.length x.1.2.2.2.2.1):Int))) (obind (w_d
 (List.drop (Int.toNat (↑(List.length x.2.2.2.2.2.1):Int)) (List.take (List.length x.1.2.2.2.2.1) x.1.2.2.2.2.1))) fun b=>some b) none)
theorem q_aY:∀w_d N x,u_aY.F L0 P0 (orcOf [conw_d w_d]) N x=V_aY w_d N x:=by intros;kernel_rfl
def W_aY (N:Nat):=V_aY (W_d N) N
theorem con_aY_ok (N:Nat):(u_aY.con (W_aY N)).ok P0:=Uf.ok mixed (q_aY (W_d N) N) ⟨con_d_ok N,trivial⟩ Tryz.func87 (by kernel_rfl) fun x y=>by kernel_rfl
def u_aa:Uf:=⟨50,16,Tryz.f50,[.val (.agg T2_),.val (.int .i64),.val (.int .i64)],[],
⟨[(6,.ptr 600006 0)],[(600006,.box 46 (.val T_))]⟩,[],
[],
[],fun y=>(valW (.agg T_) y,[],[])⟩
def V_aa (N:Nat) (x:A3_×Int×Int):Option (M_):=
 some (x.2.1,x.1.2.2.2.1.1,x.2.2,x.1.2.2.2.1.2.1,(0:Int),(0:Int),[],(0:Int),(0:Int),[])
theorem q_aa:∀N x,u_aa.F L0 P0 (orcOf []) N x=V_aa N x:=by intros;kernel_rfl
def W_aa (N:Nat):=V_aa N
theorem con_aa_ok (N:Nat):(u_aa.con (W_aa N)).ok P0:=Uf.ok mixed (q_aa N) trivial Tryz.func50 (by kernel_rfl) fun x y=>by kernel_rfl
def u_5:Uf:=⟨81,18,Tryz.f81,[.val (.agg T2_),.val (.int .i64),.val (.int .i64),.val .str],[],
⟨[(8,.ptr 600008 0)],[(600008,.box 46 (.val T_))]⟩,[],
[],
[],fun y=>(valW (.agg T_) y,[],[])⟩
def V_5 (w_aa:A3_×Int×Int→Option (M_)) (N:Nat) (x:A3_×Int×Int×List UInt8):Option (M_):=
 obind (w_aa (x.1,(7:Int),x.2.1)) fun b=>some (b.1,b.2.1,b.2.2.1,b.2.2.2.1,b.2.2.2.2.1,b.2.2.2.2.2.1,b.2.2.2.2.2.2.1,x.2.2.1,b.2.2.2.2.2.2.2.2.1,x.2.2.2)
theorem q_5:∀w_aa N x,u_5.F L0 P0 (orcOf [u_aa.con w_aa]) N x=V_5 w_aa N x:=by intros;kernel_rfl
def W_5 (N:Nat):=V_5 (W_aa N) N
theorem con_5_ok (N:Nat):(u_5.con (W_5 N)).ok P0:=Uf.ok mixed (q_5 (W_aa N) N) ⟨con_aa_ok N,trivial⟩ Tryz.func81 (by kernel_rfl) fun x y=>by kernel_rfl
def u_6:Uf:=⟨82,18,Tryz.f82,[.val (.agg T2_),.val (.int .i64),.val (.int .i64),.val (.int .i64)],[],
⟨[(8,.ptr 600008 0)],[(600008,.box 46 (.val T_))]⟩,[],
[],
[],fun y=>(valW (.agg T_) y,[],[])⟩
def V_6 (w_aa:A3_×Int×Int→Option (M_)) (N:Nat) (x:A3_×Int×Int×Int):Option (M_):=
 obind (w_aa (x.1,(9:Int),x.2.1)) fun b=>some (b.1,b.2.1,b.2.2.1,b.2.2.2.1,b.2.2.2.2.1,b.2.2.2.2.2.1,b.2.2.2.2.2.2.1,x.2.2.1,x.2.2.2,b.2.2.2.2.2.2.2.2.2)
theorem q_6:∀w_aa N x,u_6.F L0 P0 (orcOf [u_aa.con w_aa]) N x=V_6 w_aa N x:=by intros;kernel_rfl
def W_6 (N:Nat):=V_6 (W_aa N) N
theorem con_6_ok (N:Nat):(u_6.con (W_6 N)).ok P0:=Uf.ok mixed (q_6 (W_aa N) N) ⟨con_aa_ok N,trivial⟩ Tryz.func82 (by kernel_rfl) fun x y=>by kernel_rfl
def u_L:Uf:=⟨41,55,Tryz.f41,[.val (.agg T2_),.val (.agg T1_)],[],
⟨[(4,.val (.list (.agg T_)))],[]⟩,[],
[(6,.loop [13,21] ⟨[(2,.ptr 600002 0),(5,.acc 700005),(7,.ptr 600007 0),(23,.val (.int .i64))],[(600002,.box 39 (.val T2_)),(700005,.nrow 46 (.agg T_) true true),(600007,.box 55 (.val (.pair (.int .i64) (.pair (.int .i64) (.pair (.int .i64) (.pair .str (.int .i64)))))))]⟩ [(.exit 2,⟨[(2,.ptr 600002 0),(5,.acc 700005)],[(600002,.box 39 (.val T2_)),(700005,.nrow 46 (.agg T_) true true)]⟩)]),
(3,.loop [13] ⟨[(2,.ptr 600002 0),(5,.acc 700005),(15,.val (.int .i64))],[(600002,.box 39 (.val T2_)),(700005,.nrow 46 (.agg T_) true true)]⟩ [(.exit 0,⟨[(5,.val (.list (.agg T_)))],[]⟩)])],
[],fun y=>(valW (.list (.agg T_)) y,[],[])⟩
def V_L (w_aY:A0_×A0_→Option (List A4_)) (w_5:A3_×Int×Int×List UInt8→Option (M_)) (w_6:A3_×Int×Int×Int→Option (M_)) (N:Nat) (x:A3_×A0_):Option (List (M_)):=
 obind (w_aY (x.1.2.2.2.2.1,x.2)) fun b=>obind (loopN N (fun(v:Int×A3_×List A2_)=>cnd (decide (v.1 <
 (↑(List.length b):Int))) (cnd (decide ((0:Int)≤v.1)&&decide (v.1<(↑(List.length b):Int))) (obind (loopN N (fun(v_1:Int×A3_×List A2_×A4_)=>cnd (decide (v_1.1<(↑(List.length v.2.1.2.2.2.1.2.2.2.2.2.2.2.2.2.2.2.2):
 Int))) (cnd (decide ((0:Int)≤v_1.1)&&decide (v_1.1<(↑(List.length v.2.1.2.2.2.1.2.2.2.2.2.2.2.2.2.2.2.2):Int))) (cnd (decide (v_1.2.2.2.1=
 (1:Int))) (obind (w_5 (v_1.2.1,Prod.fst (List.getD v.2.1.2.2.2.1.2.2.2.2.2.2.2.2.2.2.2.2 (Int.toNat v_1.1) ((0:Int),(0:Int),
 (0:Int))),v_1.2.2.2.2.1,v_1.2.2.2.2.2.2.1)) fun b=>cnd (decide ((List.length v_1.2.2.1+List.length [b])*(104:Nat)≤(140737488355328:Nat)))
 (some (Sum.inl (wr .i64 (v_1.1+(1:Int)),v_1.2.1,v_1.2.2.1++[b],v_1.2.2.2))) none) (obind (w_6 (v_1.2.1,Prod.fst (List.getD
 v.2.1.2.2.2.1.2.2.2.2.2.2.2.2.2.2.2.2 (Int.toNat v_1.1) ((0:Int),(0:Int),(0:Int))),v_1.2.2.2.2.1,v_1.2.2.2.2.2.1)) fun b=>cnd (decide
 ((List.length v_1.2.2.1+List.length [b])*(104:Nat)≤(140737488355328:Nat))) (some (Sum.inl (wr .i64 (v_1.1+(1:Int)),v_1.2.1,v_1.2.2.1++
 [b],v_1.2.2.2))) none)) none) (some (Sum.inr (v_1.2.1,v_1.2.2.1)))) ((0:Int),v.2.1,v.2.2,Prod.fst (List.getD b (Int.toNat v.1) ((0:Int),
 (0:Int),(0:Int),[],(0:Int))),Prod.fst (Prod.snd (List.getD b (Int.toNat v.1) ((0:Int),(0:Int),(0:Int),[],(0:Int)))),Prod.fst (Prod.snd
 (Prod.snd (List.getD b (Int.toNat v.1) ((0:Int),(0:Int),(0:Int),[],(0:Int))))),Prod.fst (Prod.snd (Prod.snd (Prod.snd (List.getD b (Int.toNat
 v.1) ((0:Int),(0:Int),(0:Int),[],(0:Int)))))),Prod.snd (Prod.snd (Prod.snd (Prod.snd (List.getD b (Int.toNat v.1) ((0:Int),(0:Int),(0:Int),
 [],(0:Int)))))))) fun(b:A3_×List A2_)=>some (Sum.inl (wr .i64 (v.1+(1:Int)),b))) none) (some (Sum.inr v.2.2)))
 ((0:Int),x.1,[])) fun(b:List A2_)=>some b
theorem q_L:∀w_aY w_5 w_6 N x,u_L.F L0 P0 (orcOf [u_aY.con w_aY,u_5.con w_5,u_6.con w_6]) N x=V_L w_aY w_5 w_6 N x:=by intros;kernel_rfl
def W_L (N:Nat):=V_L (W_aY N) (W_5 N) (W_6 N) N
theorem con_L_ok (N:Nat):(u_L.con (W_L N)).ok P0:=Uf.ok mixed (q_L (W_aY N) (W_5 N) (W_6 N) N) ⟨con_aY_ok N,con_5_ok N,con_6_ok N,trivial⟩ Tryz.func41 (by kernel_rfl) fun x y=>by kernel_rfl
def u_bF:Uf:=⟨22,39,Tryz.f22,[.val (.agg T2_),.val .str],[],
⟨[(4,.ptr 600004 0),(5,.val (.list (.agg T_))),(6,.val .bool)],[(600004,.box 39 (.val T2_))]⟩,[],
[],
[],fun y=>(.tup [valW (.agg T2_) y.2.2,valW (.list (.agg T_)) y.1,valW .bool y.2.1],[],[])⟩
def V_bF (w_o:A3_→Option A3_) (w_bE:A0_×List UInt8→Option (Bool×A0_)) (w_L:A3_×A0_→Option (List (M_))) (N:Nat) (x:A3_×List UInt8):Option (List (M_)×Bool×A3_):=
 obind (w_o x.1) fun b=>cnd (!x.1.1) (some ([],false,b)) (cnd (decide (x.1.2.2.2.1.1≠(1:Int))) (some ([],false,b)) (obind (w_bE (x.1.2.2.2.2.1,x.2)) fun b_1=>cnd (!b_1.1) (some ([],false,b)) (obind (w_L ((b.1,b.2.1,b.2.2.1,b.2.2.2.1,b_1.2,
 b.2.2.2.2.2),x.1.2.2.2.2.1)) fun b_2=>some (b_2,true,b.1,b.2.1,b.2.2.1,b.2.2.2.1,b_1.2,b.2.2.2.2.2))))
theorem q_bF:∀w_o w_bE w_L N x,u_bF.F L0 P0 (orcOf [u_o.con w_o,u_bE.con w_bE,u_L.con w_L]) N x=V_bF w_o w_bE w_L N x:=by intros;kernel_rfl
def W_bF (N:Nat):=V_bF (W_o N) (W_bE N) (W_L N) N
theorem con_bF_ok (N:Nat):(u_bF.con (W_bF N)).ok P0:=Uf.ok mixed (q_bF (W_o N) (W_bE N) (W_L N) N) ⟨con_o_ok N,con_bE_ok N,con_L_ok N,trivial⟩ Tryz.func22 (by kernel_rfl) fun x y=>by kernel_rfl
def u_S:Uf:=⟨193,47,Tryz.f193,[.val (.list (.int .u8))],[],
⟨[(2,.val (.alt 243 (.agg T7_) (.alt1 247 (.agg .unit))))],[]⟩,[],
[(3,.loop [7] ⟨[(3,.val (.int .i64)),(4,.val (.int .i64)),(9,.val (.int .i64))],[]⟩ [(.exit 0,⟨[],[]⟩),(.ret,⟨[(2,.val (.alt 243 (.agg T7_) (.alt1 247 (.agg .unit))))],[]⟩)])],
[(1000007,.reg [(6,[7],⟨[(28,.val .bool)],[]⟩)])],fun y=>(valW (.alt 243 (.agg T7_) (.alt1 247 (.agg .unit))) y,[],[])⟩
def V_S (N:Nat) (x:List Int):Option ((Int×Int)⊕Unit):=
 obind (loopN N (fun(v:Int×Int×Int)=>cnd (decide (v.2.2<(↑(List.length x):Int))) (cnd (decide ((0:Int)≤v.2.2)&&decide (v.2.2 <
 (↑(List.length x):Int))) (obind (cnd (decide (v.2.2=(5:Int))) (some true) (some (decide ((1073741824:Int)<wr .i64 (v.1+wr .i64 (wr .i64
 (Int.tmod (List.getD x (Int.toNat v.2.2) (0:Int)) (128:Int))*v.2.1)))))) fun(b:Bool)=>cnd b (some (Sum.inr (Sum.inl ()))) (cnd (decide
 (List.getD x (Int.toNat v.2.2) (0:Int)=(0:Int))) (cnd (decide ((0:Int)<v.2.2)) (some (Sum.inr (Sum.inl ()))) (cnd (decide (List.getD x
 (Int.toNat v.2.2) (0:Int)<(128:Int))) (some (Sum.inr (Sum.inr (Sum.inl (wr .i64 (v.1+wr .i64 (wr .i64 (Int.tmod (List.getD x (Int.toNat v.2.2)
 (0:Int)) (128:Int))*v.2.1)),wr .i64 (v.2.2+(1:Int))))))) (some (Sum.inl (wr .i64 (v.1+wr .i64 (wr .i64 (Int.tmod (List.getD x (Int.toNat
 v.2.2) (0:Int)) (128:Int))*v.2.1)),wr .i64 (v.2.1*(128:Int)),wr .i64 (v.2.2+(1:Int))))))) (cnd (decide (List.getD x (Int.toNat v.2.2)
 (0:Int)<(128:Int))) (some (Sum.inr (Sum.inr (Sum.inl (wr .i64 (v.1+wr .i64 (wr .i64 (Int.tmod (List.getD x (Int.toNat v.2.2) (0:Int)) (128:Int))
 * v.2.1)),wr .i64 (v.2.2+(1:Int))))))) (some (Sum.inl (wr .i64 (v.1+wr .i64 (wr .i64 (Int.tmod (List.getD x (Int.toNat v.2.2) (0:Int))
 (128:Int))*v.2.1)),wr .i64 (v.2.1*(128:Int)),wr .i64 (v.2.2+(1:Int)))))))) none) (some (Sum.inr (Sum.inl ())))) ((0:Int),(1:Int),(0:Int)))
 fun(b:PUnit⊕Int×Int⊕PUnit)=>selim (fun(b:PUnit)=>some (Sum.inr ())) (fun(c:Int×Int⊕PUnit)=>some c) b
theorem q_S:∀N x,u_S.F L0 P0 (orcOf []) N x=V_S N x:=by intros;kernel_rfl
def W_S (N:Nat):=V_S N
theorem con_S_ok (N:Nat):(u_S.con (W_S N)).ok P0:=Uf.ok mixed (q_S N) trivial Tryz.func193 (by kernel_rfl) fun x y=>by kernel_rfl
def u_bf:Uf:=⟨179,17,Tryz.f179,[.val (.list (.int .u8))],[],
⟨[(2,.val (.int .i64)),(3,.val (.int .i64)),(4,.val .bool)],[]⟩,[],
[],
[],fun y=>(.tup [valW (.int .i64) y.1,valW (.int .i64) y.2.1,valW .bool y.2.2],[],[])⟩
def V_bf (w_S:List Int→Option ((Int×Int)⊕Unit)) (N:Nat) (x:List Int):Option (Int×Int×Bool):=
 obind (w_S x) fun b=>selim (fun(b:Int×Int)=>some (b.1,b.2,true)) (fun(c:PUnit)=>some ((0:Int),(0:Int),false)) b
theorem q_bf:∀w_S N x,u_bf.F L0 P0 (orcOf [u_S.con w_S]) N x=V_bf w_S N x:=by intros;kernel_rfl
def W_bf (N:Nat):=V_bf (W_S N) N
theorem con_bf_ok (N:Nat):(u_bf.con (W_bf N)).ok P0:=Uf.ok mixed (q_bf (W_S N) N) ⟨con_S_ok N,trivial⟩ Tryz.func179 (by kernel_rfl) fun x y=>by kernel_rfl
def u_D:Uf:=⟨164,45,Tryz.f164,[.ptr 0 0],[.box 213 (.pair (.list (.int .u8)) (.pair (.int .i64) (.alt 182 (.agg (.int .i64)) .inil)))],
⟨[(0,.ptr 1000000 0),(2,.val (.int .i64))],[(1000000,.box 213 (.val (.pair (.list (.int .u8)) (.pair (.int .i64) (.alt 182 (.agg (.int .i64)) .inil)))))]⟩,[true],
[],
[(6,.cut [] [(.normal,⟨[(0,.ptr 1000000 0)],[(1000000,.box 213 (.val (.pair (.list (.int .u8)) (.pair (.int .i64) (.alt 182 (.agg (.int .i64)) .inil)))))]⟩)])],fun y=>(valW (.int .i64) y.1,[.box 213 (cellsW (.pair (.list (.int .u8)) (.pair (.int .i64) (.alt 182 (.agg (.int .i64)) .inil))) y.2)],[])⟩
def V_D (w_bf:List Int→Option (Int×Int×Bool)) (N:Nat) (x:List Int×(Int×(Int⊕Unit))):Option (Int×(List Int×(Int×(Int⊕Unit)))):=
 selim (fun(b:Int)=>some ((0:Int),x)) (fun(c:PUnit)=>cnd (decide ((0:Int)≤x.2.1)&&decide (x.2.1≤(↑(List.length x.1):Int))) (obind
 (w_bf (List.drop (Int.toNat x.2.1) (List.take (List.length x.1) x.1))) fun b=>obind (cnd (!b.2.2) (some (x.1,x.2.1,Sum.inl x.2.1))
 (some x)) fun(b_1:List Int×Int×(Int⊕PUnit))=>some (b.1,b_1.1,wr .i64 (b_1.2.1+b.2.1),b_1.2.2)) none) x.2.2
theorem q_D:∀w_bf N x,u_D.F L0 P0 (orcOf [u_bf.con w_bf]) N x=V_D w_bf N x:=by intros;kernel_rfl
def W_D (N:Nat):=V_D (W_bf N) N
theorem con_D_ok (N:Nat):(u_D.con (W_D N)).ok P0:=Uf.ok mixed (q_D (W_bf N) N) ⟨con_bf_ok N,trivial⟩ Tryz.func164 (by kernel_rfl) fun x y=>by kernel_rfl
def u_aR:Uf:=⟨180,39,Tryz.f180,[.val (.list (.int .u8))],[],
⟨[(2,.val .str),(3,.val (.int .i64)),(4,.val .bool)],[]⟩,[],
[],
[],fun y=>(.tup [valW .str y.1,valW (.int .i64) y.2.1,valW .bool y.2.2],[],[])⟩
def V_aR (w_S:List Int→Option ((Int×Int)⊕Unit)) (N:Nat) (x:List Int):Option (List UInt8×Int×Bool):=
 obind (w_S x) fun b=>selim (fun(b:Int×Int)=>cnd (decide (wr .i64 ((↑(List.length x):Int)-b.2)<b.1)) (some ([],(0:Int),
 false)) (cnd (decide ((0:Int)≤b.2)&&decide (b.2≤wr .i64 (b.2+b.1))&&decide (wr .i64 (b.2+b.1)≤(↑(List.length x):Int))) (cnd
 (List.all (List.drop (Int.toNat b.2) (List.take (Int.toNat (wr .i64 (b.2+b.1))) x)) fun(n:Int)=>decide ((0:Int)≤n)&&decide (n <
 (256:Int))) (some (bytesI (List.drop (Int.toNat b.2) (List.take (Int.toNat (wr .i64 (b.2+b.1))) x)),wr .i64 (b.2+b.1),true)) none) none)) (fun
 (c:PUnit)=>some ([],(0:Int),false)) b
theorem q_aR:∀w_S N x,u_aR.F L0 P0 (orcOf [u_S.con w_S]) N x=V_aR w_S N x:=by intros;kernel_rfl
def W_aR (N:Nat):=V_aR (W_S N) N
theorem con_aR_ok (N:Nat):(u_aR.con (W_aR N)).ok P0:=Uf.ok mixed (q_aR (W_S N) N) ⟨con_S_ok N,trivial⟩ Tryz.func180 (by kernel_rfl) fun x y=>by kernel_rfl
def u_aB:Uf:=⟨165,45,Tryz.f165,[.ptr 0 0],[.box 213 (.pair (.list (.int .u8)) (.pair (.int .i64) (.alt 182 (.agg (.int .i64)) .inil)))],
⟨[(0,.ptr 1000000 0),(2,.val .str)],[(1000000,.box 213 (.val (.pair (.list (.int .u8)) (.pair (.int .i64) (.alt 182 (.agg (.int .i64)) .inil)))))]⟩,[true],
[],
[(6,.cut [] [(.normal,⟨[(0,.ptr 1000000 0)],[(1000000,.box 213 (.val (.pair (.list (.int .u8)) (.pair (.int .i64) (.alt 182 (.agg (.int .i64)) .inil)))))]⟩)])],fun y=>(valW .str y.1,[.box 213 (cellsW (.pair (.list (.int .u8)) (.pair (.int .i64) (.alt 182 (.agg (.int .i64)) .inil))) y.2)],[])⟩
def V_aB (w_aR:List Int→Option (List UInt8×Int×Bool)) (N:Nat) (x:List Int×(Int×(Int⊕Unit))):Option (List UInt8×(List Int×(Int×(Int⊕Unit)))):=
 selim (fun(b:Int)=>some ([],x)) (fun(c:PUnit)=>cnd (decide ((0:Int)≤x.2.1)&&decide (x.2.1≤(↑(List.length x.1):Int))) (obind
 (w_aR (List.drop (Int.toNat x.2.1) (List.take (List.length x.1) x.1))) fun b=>obind (cnd (!b.2.2) (some (x.1,x.2.1,Sum.inl x.2.1))
 (some x)) fun(b_1:List Int×Int×(Int⊕PUnit))=>some (b.1,b_1.1,wr .i64 (b_1.2.1+b.2.1),b_1.2.2)) none) x.2.2
theorem q_aB:∀w_aR N x,u_aB.F L0 P0 (orcOf [u_aR.con w_aR]) N x=V_aB w_aR N x:=by intros;kernel_rfl
def W_aB (N:Nat):=V_aB (W_aR N) N
theorem con_aB_ok (N:Nat):(u_aB.con (W_aB N)).ok P0:=Uf.ok mixed (q_aB (W_aR N) N) ⟨con_aR_ok N,trivial⟩ Tryz.func165 (by kernel_rfl) fun x y=>by kernel_rfl
def u_bj:Uf:=⟨131,46,Tryz.f131,[.val (.list (.int .u8))],[],
⟨[(2,.ptr 600002 0),(3,.val (.alt 182 (.agg (.int .i64)) .inil))],[(600002,.box 46 (.val T_))]⟩,[],
[(6,.loop [] ⟨[(2,.ptr 600002 0),(4,.ptr 600004 0),(5,.ptr 600005 0),(6,.val (.int .i64))],[(600002,.box 46 (.pair (.val (.int .i64)) (.pair (.val (.int .i64)) (.pair (.val (.int .i64)) (.pair (.val (.int .i64)) (.pair (.val (.int .i64)) (.pair (.val (.int .i64)) (.pair (.acc 607002) (.pair (.val (.int .i64)) (.pair (.val (.int .i64)) (.val .str))))))))))),(607002,.nrow 3 (.int .i64) true true),(600004,.box 213 (.val (.pair (.list (.int .u8)) (.pair (.int .i64) (.alt 182 (.agg (.int .i64)) .inil))))),(600005,.box 46 (.pair (.val (.int .i64)) (.pair (.val (.int .i64)) (.pair (.val (.int .i64)) (.pair (.val (.int .i64)) (.pair (.val (.int .i64)) (.pair (.val (.int .i64)) (.pair (.acc 607005) (.pair (.val (.int .i64)) (.pair (.val (.int .i64)) (.val .str))))))))))),(607005,.nrow 3 (.int .i64) true true)]⟩ [(.exit 0,⟨[(2,.ptr 600002 0),(4,.ptr 600004 0),(5,.ptr 600005 0)],[(600002,.box 46 (.pair (.val (.int .i64)) (.pair (.val (.int .i64)) (.pair (.val (.int .i64)) (.pair (.val (.int .i64)) (.pair (.val (.int .i64)) (.pair (.val (.int .i64)) (.pair (.acc 607002) (.pair (.val (.int .i64)) (.pair (.val (.int .i64)) (.val .str))))))))))),(607002,.nrow 3 (.int .i64) true true),(600004,.box 213 (.val (.pair (.list (.int .u8)) (.pair (.int .i64) (.alt 182 (.agg (.int .i64)) .inil))))),(600005,.box 46 (.pair (.val (.int .i64)) (.pair (.val (.int .i64)) (.pair (.val (.int .i64)) (.pair (.val (.int .i64)) (.pair (.val (.int .i64)) (.pair (.val (.int .i64)) (.pair (.acc 607005) (.pair (.val (.int .i64)) (.pair (.val (.int .i64)) (.val .str))))))))))),(607005,.nrow 3 (.int .i64) true true)]⟩)])],
[],fun y=>(.tup [valW (.agg T_) y.2,valW (.alt 182 (.agg (.int .i64)) .inil) y.1],[],[])⟩
def V_bj (w_D:List Int×(Int×(Int⊕Unit))→Option (Int×(List Int×(Int×(Int⊕Unit))))) (w_aB:List Int×(Int×(Int⊕Unit))→Option (List UInt8×(List Int×(Int×(Int⊕Unit))))) (N:Nat) (x:List Int):Option ((Int⊕Unit)×M_):=
 obind (w_D (x,(0:Int),Sum.inr ())) fun b=>obind (w_D b.2) fun b_1=>obind (w_D b_1.2) fun
 b_2=>obind (w_D b_2.2) fun b_3=>obind (w_D b_3.2) fun b_4=>obind (w_D b_4.2) fun b_5=>
 obind (w_D b_5.2) fun b_6=>obind (loopN N (fun(v:Int×Int×Int×Int×Int×Int×Int×Int×Int×List UInt8×List Int×(List Int×Int×(Int⊕PUnit))×Int×Int×Int×Int×Int×Int×Int×Int×List UInt8×List Int)=>cnd (decide ((0:Int)<v.1)) (selim
 (fun(b:Int)=>some (Sum.inr v.2)) (fun(c:PUnit)=>obind (w_D v.2.2.2.2.2.2.2.2.2.2.2.1) fun b=>cnd (decide ((List.length
 v.2.2.2.2.2.2.2.2.2.2.2.2.2.2.2.2.2.2.2.2.2+List.length [b.1])*(8:Nat)≤(140737488355328:Nat))) (some (Sum.inl (wr .i64 (v.1-(1:Int)),v.2.1,
 v.2.2.1,v.2.2.2.1,v.2.2.2.2.1,v.2.2.2.2.2.1,v.2.2.2.2.2.2.1,v.2.2.2.2.2.2.2.1,v.2.2.2.2.2.2.2.2.1,v.2.2.2.2.2.2.2.2.2.1,
 v.2.2.2.2.2.2.2.2.2.2.1,b.2,v.2.2.2.2.2.2.2.2.2.2.2.2.1,v.2.2.2.2.2.2.2.2.2.2.2.2.2.1,v.2.2.2.2.2.2.2.2.2.2.2.2.2.2.1,
 v.2.2.2.2.2.2.2.2.2.2.2.2.2.2.2.1,v.2.2.2.2.2.2.2.2.2.2.2.2.2.2.2.2.1,v.2.2.2.2.2.2.2.2.2.2.2.2.2.2.2.2.2.1,
 v.2.2.2.2.2.2.2.2.2.2.2.2.2.2.2.2.2.2.1,v.2.2.2.2.2.2.2.2.2.2.2.2.2.2.2.2.2.2.2.1,v.2.2.2.2.2.2.2.2.2.2.2.2.2.2.2.2.2.2.2.2.1,
 v.2.2.2.2.2.2.2.2.2.2.2.2.2.2.2.2.2.2.2.2.2++[b.1]))) none) v.2.2.2.2.2.2.2.2.2.2.2.1.2.2) (some (Sum.inr v.2))) (b_6.1,(0:Int),(0:Int),
 (0:Int),(0:Int),(0:Int),(0:Int),(0:Int),(0:Int),[],[],b_6.2,b.1,b_1.1,b_2.1,b_3.1,b_4.1,b_5.1,(0:Int),(0:Int),[],[])) fun(b:Int×Int×Int×Int×Int×Int×Int×Int×List UInt8×List Int×(List Int×Int×(Int⊕PUnit))×Int×Int×Int×Int×Int×Int×Int×Int×List UInt8×List Int)=>obind (w_D b.2.2.2.2.2.2.2.2.2.2.1) fun b_7=>obind (w_D b_7.2) fun b_8=>obind
 (w_aB b_8.2) fun b_9=>some (b_9.2.2.2,b.2.2.2.2.2.2.2.2.2.2.2.1,b.2.2.2.2.2.2.2.2.2.2.2.2.1,b.2.2.2.2.2.2.2.2.2.2.2.2.2.1,
 b.2.2.2.2.2.2.2.2.2.2.2.2.2.2.1,b.2.2.2.2.2.2.2.2.2.2.2.2.2.2.2.1,b.2.2.2.2.2.2.2.2.2.2.2.2.2.2.2.2.1,b.2.2.2.2.2.2.2.2.2.2.2.2.2.2.2.2.2.2.2.2,
 b_7.1,b_8.1,b_9.1)
theorem q_bj:∀w_D w_aB N x,u_bj.F L0 P0 (orcOf [u_D.con w_D,u_aB.con w_aB]) N x=V_bj w_D w_aB N x:=by intros;kernel_rfl
def W_bj (N:Nat):=V_bj (W_D N) (W_aB N) N
theorem con_bj_ok (N:Nat):(u_bj.con (W_bj N)).ok P0:=Uf.ok mixed (q_bj (W_D N) (W_aB N) N) ⟨con_D_ok N,con_aB_ok N,trivial⟩ Tryz.func131 (by kernel_rfl) fun x y=>by kernel_rfl
def u_t:Uf:=⟨181,15,Tryz.f181,[.val (.int .i64),.val (.int .i64),.val (.int .i64)],[],
⟨[(6,.val .bool)],[]⟩,[],
[],
[],fun y=>(valW .bool y,[],[])⟩
def V_t (N:Nat) (x:Int×Int×Int):Option (Bool):=
 cnd (decide (x.2.1≤x.1)) (some (decide (x.1≤x.2.2))) (some false)
theorem q_t:∀N x,u_t.F L0 P0 (orcOf []) N x=V_t N x:=by intros;kernel_rfl
def W_t (N:Nat):=V_t N
theorem con_t_ok (N:Nat):(u_t.con (W_t N)).ok P0:=Uf.ok mixed (q_t N) trivial Tryz.func181 (by kernel_rfl) fun x y=>by kernel_rfl
def u_bp:Uf:=⟨183,61,Tryz.f183,[.val (.agg T_)],[],
⟨[(2,.ptr 600002 0)],[(600002,.box 46 (.val T_))]⟩,[],
[],
[(11,.cut [] [(.normal,⟨[(1,.ptr 600001 0),(2,.ptr 600002 0),(3,.ptr 600003 0),(51,.val .bool)],[(600001,.box 46 (.val T_)),(600002,.box 46 (.val T_)),(600003,.box 46 (.val T_))]⟩)])],fun y=>(valW (.agg T_) y,[],[])⟩
def V_bp (N:Nat) (x:M_):Option (M_):=
 cnd (decide (x.1=(2:Int))) (some (x.1,x.2.1,x.2.2.1,x.2.2.2.1,x.2.2.2.2.1,x.2.2.2.2.2.1,x.2.2.2.2.2.2.1,x.2.2.2.2.2.2.2.1,(0:Int),[])) (cnd
 (decide (x.1=(5:Int))) (some (x.1,x.2.1,x.2.2.1,x.2.2.2.1,x.2.2.2.2.1,x.2.2.2.2.2.1,x.2.2.2.2.2.2.1,(0:Int),x.2.2.2.2.2.2.2.2.1,[])) (cnd
 (decide (x.1=(7:Int))) (some (x.1,x.2.1,x.2.2.1,x.2.2.2.1,(0:Int),(0:Int),[],x.2.2.2.2.2.2.2.1,(0:Int),x.2.2.2.2.2.2.2.2.2)) (obind (cnd
 (decide (x.1=(8:Int))) (some (decide (x.1=(8:Int)),x,((0:Int),(0:Int),(0:Int),(0:Int),(0:Int),(0:Int),[],(0:Int),(0:Int),[]),x.1,
 x.2.1,x.2.2.1,x.2.2.2.1,(0:Int),(0:Int),[],(0:Int),(0:Int),[])) (some (decide (x.1=(9:Int)),x,((0:Int),(0:Int),(0:Int),(0:Int),
 (0:Int),(0:Int),[],(0:Int),(0:Int),[]),x.1,x.2.1,x.2.2.1,x.2.2.2.1,(0:Int),(0:Int),[],(0:Int),(0:Int),[]))) fun(b:Bool×A2_×A2_×A2_)=>cnd b.1 (some (b.2.2.2.1,b.2.2.2.2.1,b.2.2.2.2.2.1,b.2.2.2.2.2.2.1,
 b.2.2.2.2.2.2.2.1,b.2.2.2.2.2.2.2.2.1,b.2.2.2.2.2.2.2.2.2.1,b.2.1.2.2.2.2.2.2.2.1,b.2.1.2.2.2.2.2.2.2.2.1,b.2.2.2.2.2.2.2.2.2.2.2.2)) (some
 b.2.2.2))))
theorem q_bp:∀N x,u_bp.F L0 P0 (orcOf []) N x=V_bp N x:=by intros;kernel_rfl
def W_bp (N:Nat):=V_bp N
theorem con_bp_ok (N:Nat):(u_bp.con (W_bp N)).ok P0:=Uf.ok mixed (q_bp N) trivial Tryz.func183 (by kernel_rfl) fun x y=>by kernel_rfl
def u_aO:Uf:=⟨194,26,Tryz.f194,[.val (.list (.int .i64)),.val (.list (.int .i64))],[],
⟨[(4,.val .bool)],[]⟩,[],
[(4,.loop [] ⟨[(13,.val (.int .i64))],[]⟩ [(.exit 0,⟨[],[]⟩),(.ret,⟨[(4,.val .bool)],[]⟩)])],
[],fun y=>(valW .bool y,[],[])⟩
def V_aO (N:Nat) (x:List Int×List Int):Option (Bool):=
 cnd (decide ((↑(List.length x.1):Int)≠(↑(List.length x.2):Int))) (some false) (obind (loopN N (fun(v:Int)=>cnd (decide (v<(↑(List.length
 x.1):Int))) (cnd (decide ((0:Int)≤v)&&decide (v<(↑(List.length x.1):Int))) (cnd (decide ((0:Int)≤v)&&decide (v<(↑(List.length x.2):
 Int))) (cnd (decide (List.getD x.1 (Int.toNat v) (0:Int)≠List.getD x.2 (Int.toNat v) (0:Int))) (some (Sum.inr (Sum.inr false))) (some (Sum.inl (wr
 .i64 (v+(1:Int)))))) none) none) (some (Sum.inr (Sum.inl ())))) (Int.ofNat (0:Nat))) fun(b:PUnit⊕Bool)=>selim (fun(b:PUnit)=>some
 true) (fun(c:Bool)=>some c) b)
theorem q_aO:∀N x,u_aO.F L0 P0 (orcOf []) N x=V_aO N x:=by intros;kernel_rfl
def W_aO (N:Nat):=V_aO N
theorem con_aO_ok (N:Nat):(u_aO.con (W_aO N)).ok P0:=Uf.ok mixed (q_aO N) trivial Tryz.func194 (by kernel_rfl) fun x y=>by kernel_rfl
def u_bn:Uf:=⟨182,73,Tryz.f182,[.val (.agg T_),.val (.agg T_)],[],
⟨[(4,.val .bool)],[]⟩,[],
[],
[(1000001,.reg [(12,[],⟨[(2,.ptr 600002 0),(3,.ptr 600003 0),(16,.val .bool)],[(600002,.box 46 (.val T_)),(600003,.box 46 (.val T_))]⟩),(7,[],⟨[(2,.ptr 600002 0),(3,.ptr 600003 0),(23,.val .bool)],[(600002,.box 46 (.val T_)),(600003,.box 46 (.val T_))]⟩),(7,[],⟨[(2,.ptr 600002 0),(3,.ptr 600003 0),(30,.val .bool)],[(600002,.box 46 (.val T_)),(600003,.box 46 (.val T_))]⟩),(7,[],⟨[(2,.ptr 600002 0),(3,.ptr 600003 0),(37,.val .bool)],[(600002,.box 46 (.val T_)),(600003,.box 46 (.val T_))]⟩),(7,[],⟨[(2,.ptr 600002 0),(3,.ptr 600003 0),(44,.val .bool)],[(600002,.box 46 (.val T_)),(600003,.box 46 (.val T_))]⟩),(7,[],⟨[(2,.ptr 600002 0),(3,.ptr 600003 0),(51,.val .bool)],[(600002,.box 46 (.val T_)),(600003,.box 46 (.val T_))]⟩),(7,[],⟨[(2,.ptr 600002 0),(3,.ptr 600003 0),(58,.val .bool)],[(600002,.box 46 (.val T_)),(600003,.box 46 (.val T_))]⟩),(7,[],⟨[(2,.ptr 600002 0),(3,.ptr 600003 0),(65,.val .bool)],[(600002,.box 46 (.val T_)),(600003,.box 46 (.val T_))]⟩)])],fun y=>(valW .bool y,[],[])⟩
def V_bn (w_aO:List Int×List Int→Option (Bool)) (N:Nat) (x:(M_)×M_):Option (Bool):=
 obind (cnd (decide (x.1.1=x.2.1)) (some (decide (x.1.2.1=x.2.2.1),x)) (some (false,x))) fun(b:Bool×A2_×A2_)=>obind (cnd b.1 (some (decide
 (b.2.1.2.2.1=b.2.2.2.2.1),b.2)) (some (false,b.2))) fun(b:Bool×A2_×A2_)=>obind (cnd b.1 (some (decide (b.2.1.2.2.2.1=b.2.2.2.2.2.1),b.2)) (some
 (false,b.2))) fun(b:Bool×A2_×A2_)=>obind (cnd b.1 (some (decide (b.2.1.2.2.2.2.1=b.2.2.2.2.2.2.1),b.2)) (some (false,b.2))) fun(b:Bool×A2_×A2_)=>obind
 (cnd b.1 (some (decide (b.2.1.2.2.2.2.2.1=b.2.2.2.2.2.2.2.1),b.2)) (some (false,b.2))) fun(b:Bool×A2_×A2_)=>obind (cnd b.1 (obind (w_aO (b.2.1.2.2.2.2.2.2.1,b.2.2.2.2.2.2.2.2.1)) fun b_1=>some (b_1,b.2)) (some (false,b.2))) fun(b:Bool×A2_×A2_)=>obind (cnd b.1 (some (decide
 (b.2.1.2.2.2.2.2.2.2.1=b.2.2.2.2.2.2.2.2.2.1),b.2)) (some (false,b.2))) fun(b:Bool×A2_×A2_)=>obind (cnd b.1 (some (decide (b.2.1.2.2.2.2.2.2.2.2.1
 = b.2.2.2.2.2.2.2.2.2.2.1),b.2)) (some (false,b.2))) fun(b:Bool×A2_×A2_)=>cnd b.1 (some (b.2.1.2.2.2.2.2.2.2.2.2==b.2.2.2.2.2.2.2.2.2.2.2)) (some
 false)
theorem q_bn:∀w_aO N x,u_bn.F L0 P0 (orcOf [u_aO.con w_aO]) N x=V_bn w_aO N x:=by intros;kernel_rfl
def W_bn (N:Nat):=V_bn (W_aO N) N
theorem con_bn_ok (N:Nat):(u_bn.con (W_bn N)).ok P0:=Uf.ok mixed (q_bn (W_aO N) N) ⟨con_aO_ok N,trivial⟩ Tryz.func182 (by kernel_rfl) fun x y=>by kernel_rfl
def u_aN:Uf:=⟨188,19,Tryz.f188,[.val (.list (.int .i64)),.val (.int .i64)],[],
⟨[(4,.val (.int .i64))],[]⟩,[],
[(2,.loop [] ⟨[(8,.val (.int .i64))],[]⟩ [(.exit 0,⟨[],[]⟩),(.ret,⟨[(4,.val (.int .i64))],[]⟩)])],
[],fun y=>(valW (.int .i64) y,[],[])⟩
def V_aN (N:Nat) (x:List Int×Int):Option (Int):=
 obind (loopN N (fun(v:Int)=>cnd (decide (v<(↑(List.length x.1):Int))) (cnd (decide ((0:Int)≤v)&&decide (v<(↑(List.length x.1):Int)))
 (cnd (decide (x.2=List.getD x.1 (Int.toNat v) (0:Int))) (some (Sum.inr (Sum.inr v))) (some (Sum.inl (wr .i64 (v+(1:Int)))))) none) (some
 (Sum.inr (Sum.inl ())))) (Int.ofNat (0:Nat))) fun(b:PUnit⊕Int)=>selim (fun(b:PUnit)=>some (-1:Int)) (fun(c:Int)=>some c) b
theorem q_aN:∀N x,u_aN.F L0 P0 (orcOf []) N x=V_aN N x:=by intros;kernel_rfl
def W_aN (N:Nat):=V_aN N
theorem con_aN_ok (N:Nat):(u_aN.con (W_aN N)).ok P0:=Uf.ok mixed (q_aN N) trivial Tryz.func188 (by kernel_rfl) fun x y=>by kernel_rfl
def u_bt:Uf:=⟨170,9,Tryz.f170,[.val (.list (.int .i64)),.val (.int .i64)],[],
⟨[(4,.val .bool)],[]⟩,[],
[],
[],fun y=>(valW .bool y,[],[])⟩
def V_bt (w_aN:List Int×Int→Option (Int)) (N:Nat) (x:List Int×Int):Option (Bool):=
 obind (w_aN x) fun b=>some (decide ((0:Int)≤b))
theorem q_bt:∀w_aN N x,u_bt.F L0 P0 (orcOf [u_aN.con w_aN]) N x=V_bt w_aN N x:=by intros;kernel_rfl
def W_bt (N:Nat):=V_bt (W_aN N) N
theorem con_bt_ok (N:Nat):(u_bt.con (W_bt N)).ok P0:=Uf.ok mixed (q_bt (W_aN N) N) ⟨con_aN_ok N,trivial⟩ Tryz.func170 (by kernel_rfl) fun x y=>by kernel_rfl
def u_0:Uf:=⟨134,8,Tryz.f134,[.val (.list (.int .i64)),.val (.int .i64)],[],
⟨[(4,.val .bool)],[]⟩,[],
[],
[],fun y=>(valW .bool y,[],[])⟩
def V_0 (w_bt:List Int×Int→Option (Bool)) (N:Nat) (x:List Int×Int):Option (Bool):=
 obind (w_bt x) fun b=>some b
theorem q_0:∀w_bt N x,u_0.F L0 P0 (orcOf [u_bt.con w_bt]) N x=V_0 w_bt N x:=by intros;kernel_rfl
def W_0 (N:Nat):=V_0 (W_bt N) N
theorem con_0_ok (N:Nat):(u_0.con (W_0 N)).ok P0:=Uf.ok mixed (q_0 (W_bt N) N) ⟨con_bt_ok N,trivial⟩ Tryz.func134 (by kernel_rfl) fun x y=>by kernel_rfl
def u_T:Uf:=⟨172,46,Tryz.f172,[.val (.list (.int .i64))],[],
⟨[(2,.val (.alt 220 (.list (.int .i64)) (.alt1 238 (.agg .unit))))],[]⟩,[],
[(4,.loop [21] ⟨[(23,.val (.int .i64))],[]⟩ [(.exit 0,⟨[],[]⟩),(.ret,⟨[(2,.val (.alt 220 (.list (.int .i64)) (.alt1 238 (.agg .unit))))],[]⟩)])],
[(1000001,.reg [(8,[],⟨[(12,.val .bool)],[]⟩)]),
(1000006,.reg [(6,[21],⟨[(33,.val .bool)],[]⟩)])],fun y=>(valW (.alt 220 (.list (.int .i64)) (.alt1 238 (.agg .unit))) y,[],[])⟩
def V_T (w_0:List Int×Int→Option (Bool)) (N:Nat) (x:List Int):Option ((List Int)⊕Unit):=
 obind (cnd (decide ((↑(List.length x):Int)<(1:Int))) (some true) (some (decide ((10:Int)<(↑(List.length x):Int))))) fun(b:Bool)=>cnd b
 (some (Sum.inr ())) (cnd (decide ((0:Int)≤(0:Int))&&decide ((0:Int)<(↑(List.length x):Int))) (cnd (decide (List.getD x (0:Nat) (0:Int) ≠
 (1:Int))) (some (Sum.inr ())) (obind (loopN N (fun(v:Int)=>cnd (decide (v<(↑(List.length x):Int))) (cnd (decide ((0:Int)≤v)&&decide (v
 < (↑(List.length x):Int))) (obind (cnd (decide (List.getD x (Int.toNat v) (0:Int)<(1:Int))) (some true) (some (decide ((8:Int)<List.getD x
 (Int.toNat v) (0:Int))))) fun(b:Bool)=>cnd b (some (Sum.inr (Sum.inr (Sum.inr ())))) (cnd (decide ((0:Int)≤v)&&decide (v≤(↑(List.length
 x):Int))) (obind (w_0 (List.drop (0:Nat) (List.take (Int.toNat v) x),List.getD x (Int.toNat v) (0:Int))) fun b=>cnd b (some (Sum.inr
 (Sum.inr (Sum.inr ())))) (some (Sum.inl (wr .i64 (v+(1:Int)))))) none)) none) (some (Sum.inr (Sum.inl ())))) (Int.ofNat (0:Nat))) fun(b:PUnit ⊕
 List Int⊕PUnit)=>selim (fun(b:PUnit)=>some (Sum.inl x)) (fun(c:List Int⊕PUnit)=>some c) b)) none)
theorem q_T:∀w_0 N x,u_T.F L0 P0 (orcOf [u_0.con w_0]) N x=V_T w_0 N x:=by intros;kernel_rfl
def W_T (N:Nat):=V_T (W_0 N) N
theorem con_T_ok (N:Nat):(u_T.con (W_T N)).ok P0:=Uf.ok mixed (q_T (W_0 N) N) ⟨con_0_ok N,trivial⟩ Tryz.func172 (by kernel_rfl) fun x y=>by kernel_rfl
def u_bi:Uf:=⟨195,12,Tryz.f195,[.val (.list (.int .i64))],[],
⟨[(2,.val .bool)],[]⟩,[],
[],
[],fun y=>(valW .bool y,[],[])⟩
def V_bi (w_T:List Int→Option ((List Int)⊕Unit)) (N:Nat) (x:List Int):Option (Bool):=
 obind (w_T x) fun b=>selim (fun(b:List Int)=>some true) (fun(c:PUnit)=>some false) b
theorem q_bi:∀w_T N x,u_bi.F L0 P0 (orcOf [u_T.con w_T]) N x=V_bi w_T N x:=by intros;kernel_rfl
def W_bi (N:Nat):=V_bi (W_T N) N
theorem con_bi_ok (N:Nat):(u_bi.con (W_bi N)).ok P0:=Uf.ok mixed (q_bi (W_T N) N) ⟨con_T_ok N,trivial⟩ Tryz.func195 (by kernel_rfl) fun x y=>by kernel_rfl
def u_ar:Uf:=⟨184,55,Tryz.f184,[.val (.agg T_)],[],
⟨[(2,.val .bool)],[]⟩,[],
[],
[(1000004,.reg [(8,[],⟨[(1,.ptr 600001 0),(15,.val .bool)],[(600001,.box 46 (.val T_))]⟩),(5,[],⟨[(1,.ptr 600001 0),(20,.val .bool)],[(600001,.box 46 (.val T_))]⟩),(5,[],⟨[(1,.ptr 600001 0),(25,.val .bool)],[(600001,.box 46 (.val T_))]⟩)]),
(9,.cut [] [(.normal,⟨[(1,.ptr 600001 0),(42,.val .bool)],[(600001,.box 46 (.val T_))]⟩)]),
(4,.cut [] [(.normal,⟨[(1,.ptr 600001 0),(5,.val .bool)],[(600001,.box 46 (.val T_))]⟩)])],fun y=>(valW .bool y,[],[])⟩
def V_ar (w_t:Int×Int×Int→Option (Bool)) (w_bi:List Int→Option (Bool)) (N:Nat) (x:M_):Option (Bool):=
 obind (cnd (decide (x.1=(2:Int))) (some (decide (x.1=(2:Int)),x)) (some (decide (x.1=(5:Int)),x))) fun(b:Bool×A2_)=>cnd b.1 (obind (obind (w_t (b.2.2.2.2.2.1,(0:Int),(1073741824:Int))) fun b_1=>cnd b_1
 (obind (w_t (b.2.2.2.2.2.2.1,(0:Int),(1073741824:Int))) fun b_2=>some (b_2,b.2)) (some (false,b.2))) fun(b:Bool×A2_)=>obind (cnd b.1 (obind (w_bi b.2.2.2.2.2.2.2.1) fun b_1=>some (b_1,b.2)) (some
 (false,b.2))) fun(b:Bool×A2_)=>obind (cnd b.1 (obind (w_t
 (b.2.2.2.2.2.2.2.2.1,(0:Int),(1000000:Int))) fun b_1=>some (b_1,b.2)) (some (false,b.2))) fun(b:Bool×A2_)=>cnd b.1 (obind (w_t (b.2.2.2.2.2.2.2.2.2.1,(0:Int),(1000000:Int))) fun b=>some b) (some false))
 (cnd (decide (x.1=(7:Int))) (obind (w_t (b.2.2.2.2.2.2.2.2.1,(1:Int),(1000000:Int))) fun b_1=>cnd b_1 (some (decide ((↑(List.length
 b.2.2.2.2.2.2.2.2.2.2):Int)≤(12:Int)))) (some false)) (obind (cnd (decide (x.1=(8:Int))) (some (decide (x.1=(8:Int)),b.2)) (some (decide
 (x.1=(9:Int)),b.2))) fun(b:Bool×A2_)=>cnd b.1 (obind (w_t
 (b.2.2.2.2.2.2.2.2.1,(1:Int),b.2.2.2.2.2.2.2.2.2.1)) fun b_1=>cnd b_1 (some (decide (b.2.2.2.2.2.2.2.2.2.1≤(1000000:Int)))) (some false))
 (some true)))
theorem q_ar:∀w_t w_bi N x,u_ar.F L0 P0 (orcOf [u_t.con w_t,u_bi.con w_bi]) N x=V_ar w_t w_bi N x:=by intros;kernel_rfl
def W_ar (N:Nat):=V_ar (W_t N) (W_bi N) N
theorem con_ar_ok (N:Nat):(u_ar.con (W_ar N)).ok P0:=Uf.ok mixed (q_ar (W_t N) (W_bi N) N) ⟨con_t_ok N,con_bi_ok N,trivial⟩ Tryz.func184 (by kernel_rfl) fun x y=>by kernel_rfl
def u_bo:Uf:=⟨166,40,Tryz.f166,[.val (.agg T_)],[],
⟨[(2,.val .bool)],[]⟩,[],
[],
[(1000001,.reg [(8,[],⟨[(1,.ptr 600001 0),(11,.val .bool)],[(600001,.box 46 (.val T_))]⟩),(5,[],⟨[(1,.ptr 600001 0),(16,.val .bool)],[(600001,.box 46 (.val T_))]⟩),(7,[],⟨[(1,.ptr 600001 0),(23,.val .bool)],[(600001,.box 46 (.val T_))]⟩)])],fun y=>(valW .bool y,[],[])⟩
def V_bo (w_t:Int×Int×Int→Option (Bool)) (w_bp:M_→Option (M_)) (w_bn:(M_)×M_→Option (Bool)) (w_ar:M_→Option (Bool)) (N:Nat) (x:M_):Option (Bool):=
 obind (obind (w_t (x.1,(1:Int),(9:Int))) fun b=>cnd b (obind (w_t (x.2.1,(1:Int),(8:Int))) fun b=>some (b,x)) (some (false,
 x))) fun(b:Bool×A2_)=>obind (cnd b.1 (obind (w_t (b.2.2.2.1,
 (1:Int),(8:Int))) fun b_1=>some (b_1,b.2)) (some (false,b.2))) fun(b:Bool×A2_)=>obind (cnd b.1 (some (decide (b.2.2.1≠b.2.2.2.1),b.2)) (some (false,b.2))) fun(b:Bool×A2_)=>cnd b.1 (obind (w_t (b.2.2.2.2.1,(1:Int),(1073741824:Int))) fun b_1=>cnd b_1 (obind (w_bp b.2)
 fun b_2=>obind (w_bn (b.2,b_2)) fun b_3=>cnd b_3 (obind (w_ar b.2) fun b=>some b) (some false)) (some false)) (some false)
theorem q_bo:∀w_t w_bp w_bn w_ar N x,u_bo.F L0 P0 (orcOf [u_t.con w_t,u_bp.con w_bp,u_bn.con w_bn,u_ar.con w_ar]) N x=V_bo w_t w_bp w_bn w_ar N x:=by intros;kernel_rfl
def W_bo (N:Nat):=V_bo (W_t N) (W_bp N) (W_bn N) (W_ar N) N
theorem con_bo_ok (N:Nat):(u_bo.con (W_bo N)).ok P0:=Uf.ok mixed (q_bo (W_t N) (W_bp N) (W_bn N) (W_ar N) N) ⟨con_t_ok N,con_bp_ok N,con_bn_ok N,con_ar_ok N,trivial⟩ Tryz.func166 (by kernel_rfl) fun x y=>by kernel_rfl
def as_g:List AS:=[.val (.list (.int .u8))]
def bs_g:List BS:=[]
def pout_g:Pat:=⟨[(2,.acc 700005)],[(700005,.nrow 5 (.int .u8) false true)]⟩
def G_g  (N:Nat):OrcT:=orcOf []
def F_g  (N:Nat) (x:List Int):Option (List Int):=
  (evT (G_g  N) L0 P0 []
    [] N 400 (bodyOf Tryz.f186) ⟨8,slots 0 [.nl ⟨(.int .u8),x⟩],tabU (lbOf as_g bs_g x) [],[]⟩).elim (kRet 8 pout_g (kpL []) (lbOf as_g bs_g x))
def out_g (y:List Int):V×List OK×List OK:=(.acc 2000000 0,[],[.nrow 5 false true ⟨(.int .u8),y⟩])
def V_g  (N:Nat) (x:List Int):Option (List Int):=
 cnd (decide (List.length x*(1:Nat)≤(140737488355328:Nat))) (some x) none
theorem FV_g_eq  (N:Nat) (x:List Int):F_g  N x=V_g  N x:=by kernel_rfl
def W_g (N:Nat) (x:List Int):Option (List Int):=V_g  N x
theorem F_g_eq (N:Nat) (x:List Int):F_g  N x=W_g N x:=(FV_g_eq  N x).trans (by kernel_rfl)
def conw_g (w:List Int→Option (List Int)):Con:=⟨186,as_g,bs_g,List Int,w,out_g⟩
def con_g (N:Nat):Con:=conw_g (W_g N)
theorem R_g_eq (x:List Int) (y:List Int):retOf2 P0 Tryz.f186 (kpL []) (lbOf as_g bs_g x) (patS ⟨8,[],[],[]⟩ pout_g y)=some (out_g y):=by kernel_rfl
def FA_bytes_Clone:Option (List Int):=(evT (G_g 1) L0 P0 [] [] 1 400 (bodyOf Tryz.f186) ⟨8,slots 0 [.snil],tabU [] [],[]⟩).elim (kRet 8 pout_g (kpL []) [])
theorem FA_bytes_Clone_eq:FA_bytes_Clone=some []:=by kernel_rfl
theorem WN_bytes_Clone (N:Nat) (r:List Int) (h:W_g N []=some r):r=[]:=by
  have e:W_g N []=some []:=by kernel_rfl
  rw[e] at h;injection h with h;exact h.symm
theorem con_g_ok (N:Nat):Con.ok P0 (con_g N):=⟨⟨Tryz.f186,Tryz.func186,by kernel_rfl,by kernel_rfl⟩,fun(x:List Int) (r:List Int) (hr:W_g N x=some r)=>
  clone_split (e:=(.int .u8)) (ty:=5) (l:=x) (r:=r)
    (spec2_evT (Γ:=G_g 1) (Λ:=L0) (lb:=[]) (pout:=pout_g) (kp:=kpL []) mixed (orcOf_ok [] (by simp)) Tryz.func186 (c:=bodyOf Tryz.f186) (by kernel_rfl) (by kernel_rfl) (of_decide_eq_true (by kernel_rfl)) FA_bytes_Clone_eq (R_g_eq x []))
    (spec2_evT (Γ:=G_g N) (Λ:=L0) (lb:=[]) (pout:=pout_g) (kp:=kpL []) mixed (orcOf_ok [] (by simp)) Tryz.func186 (c:=bodyOf Tryz.f186) (by kernel_rfl) (by kernel_rfl) (of_decide_eq_true (by kernel_rfl)) ((F_g_eq N x).trans hr) (R_g_eq x r))
    (fun h=>by subst h;exact WN_bytes_Clone N r hr)⟩
def u_X:Uf:=⟨185,31,Tryz.f185,[.val (.list (.int .u8)),.val (.int .i64)],[],
⟨[(4,.acc 700007)],[(700007,.nrow 5 (.int .u8) false true)]⟩,[],
[(4,.loop [] ⟨[(1,.val (.int .i64)),(5,.acc 700007)],[(700007,.nrow 5 (.int .u8) false true)]⟩ [(.exit 0,⟨[(1,.val (.int .i64)),(5,.acc 700007)],[(700007,.nrow 5 (.int .u8) false true)]⟩)])],
[],fun y=>(.acc 2000000 0,[],[.nrow 5 false true ⟨(.int .u8),y⟩])⟩
def V_X (w_g:List Int→Option (List Int)) (N:Nat) (x:List Int×Int):Option (List Int):=
 obind (w_g x.1) fun b=>cnd (decide (x.2<(0:Int))) (some b) (cnd (decide ((1073741824:Int)<x.2)) (some b) (obind (loopN N (fun(v:
 Int×List Int)=>cnd (decide ((128:Int)≤v.1)) (cnd (decide ((List.length v.2+List.length [wr .u8 (wr .i64 (Int.tmod v.1 (128:Int) +
 (128:Int)))])*(1:Nat)≤(140737488355328:Nat))) (some (Sum.inl (wr .i64 (Int.tdiv v.1 (128:Int)),v.2++[wr .u8 (wr .i64 (Int.tmod v.1 (128:Int)
 + (128:Int)))]))) none) (some (Sum.inr v))) (x.2,b)) fun(b:Int×List Int)=>cnd (decide ((List.length b.2+List.length [wr .u8 b.1]) *
 (1:Nat)≤(140737488355328:Nat))) (some (b.2++[wr .u8 b.1])) none))
theorem q_X:∀w_g N x,u_X.F L0 P0 (orcOf [conw_g w_g]) N x=V_X w_g N x:=by intros;kernel_rfl
def W_X (N:Nat):=V_X (W_g N) N
theorem con_X_ok (N:Nat):(u_X.con (W_X N)).ok P0:=Uf.ok mixed (q_X (W_g N) N) ⟨con_g_ok N,trivial⟩ Tryz.func185 (by kernel_rfl) fun x y=>by kernel_rfl
def u_av:Uf:=⟨167,18,Tryz.f167,[.val (.list (.int .u8)),.val (.list (.int .i64))],[],
⟨[(4,.val (.list (.int .u8)))],[]⟩,[],
[(2,.loop [7] ⟨[(0,.val (.list (.int .u8))),(9,.val (.int .i64))],[]⟩ [(.exit 0,⟨[(0,.val (.list (.int .u8)))],[]⟩)])],
[],fun y=>(valW (.list (.int .u8)) y,[],[])⟩
def V_av (w_X:List Int×Int→Option (List Int)) (N:Nat) (x:List Int×List Int):Option (List Int):=
 obind (loopN N (fun(v:List Int×Int)=>cnd (decide (v.2<(↑(List.length x.2):Int))) (cnd (decide ((0:Int)≤v.2)&&decide (v.2 <
 (↑(List.length x.2):Int))) (obind (w_X (v.1,List.getD x.2 (Int.toNat v.2) (0:Int))) fun b=>some (Sum.inl (b,wr .i64 (v.2 +
 (1:Int))))) none) (some (Sum.inr v.1))) (x.1,(0:Int))) fun(b:List Int)=>some b
theorem q_av:∀w_X N x,u_av.F L0 P0 (orcOf [u_X.con w_X]) N x=V_av w_X N x:=by intros;kernel_rfl
def W_av (N:Nat):=V_av (W_X N) N
theorem con_av_ok (N:Nat):(u_av.con (W_av N)).ok P0:=Uf.ok mixed (q_av (W_X N) N) ⟨con_X_ok N,trivial⟩ Tryz.func167 (by kernel_rfl) fun x y=>by kernel_rfl
def u_aU:Uf:=⟨168,16,Tryz.f168,[.val (.list (.int .u8)),.val .str],[],
⟨[(4,.acc 700013)],[(700013,.nrow 5 (.int .u8) false true)]⟩,[],
[],
[],fun y=>(.acc 2000000 0,[],[.nrow 5 false true ⟨(.int .u8),y⟩])⟩
def V_aU (w_g:List Int→Option (List Int)) (w_X:List Int×Int→Option (List Int)) (N:Nat) (x:List Int×List UInt8):Option (List Int):=
 cnd (decide ((1073741824:Int)<(↑(List.length x.2):Int))) (obind (w_g x.1) fun b=>some b) (obind (w_X (x.1,(↑(List.length
 x.2):Int))) fun b=>cnd (decide ((List.length b+List.length (List.map (fun(b:UInt8)=>(↑(UInt8.toNat b):Int)) x.2))*(1:Nat) ≤
 (140737488355328:Nat))) (some (b++List.map (fun(b:UInt8)=>(↑(UInt8.toNat b):Int)) x.2)) none)
theorem q_aU:∀w_g w_X N x,u_aU.F L0 P0 (orcOf [conw_g w_g,u_X.con w_X]) N x=V_aU w_g w_X N x:=by intros;kernel_rfl
def W_aU (N:Nat):=V_aU (W_g N) (W_X N) N
theorem con_aU_ok (N:Nat):(u_aU.con (W_aU N)).ok P0:=Uf.ok mixed (q_aU (W_g N) (W_X N) N) ⟨con_g_ok N,con_X_ok N,trivial⟩ Tryz.func168 (by kernel_rfl) fun x y=>by kernel_rfl
def u_bk:Uf:=⟨196,22,Tryz.f196,[.val (.int .u32),.val (.int .i32)],[],
⟨[(4,.val (.int .u32))],[]⟩,[],
[(3,.loop [] ⟨[(0,.val (.int .u32)),(10,.val (.int .i64))],[]⟩ [(.exit 0,⟨[(0,.val (.int .u32))],[]⟩)])],
[],fun y=>(valW (.int .u32) y,[],[])⟩
def V_bk (N:Nat) (x:Int×Int):Option (Int):=
 obind (loopN N (fun(v:Int×Int)=>cnd (decide (v.2<(8:Int))) (cnd (decide (wr .u32 (↑(BitVec.toNat (BitVec.ofInt (32:Nat) v.1 &&& BitVec.ofInt
 (32:Nat) (1:Int))):Int)=(1:Int))) (some (Sum.inl (wr .u32 (↑(BitVec.toNat (BitVec.ofInt (32:Nat) (Int.fdiv v.1 ((2:Int) ^ (1:Nat))) ^^^
 BitVec.ofInt (32:Nat) (3988292384:Int))):Int),wr .i64 (v.2+(1:Int))))) (some (Sum.inl (Int.fdiv v.1 ((2:Int) ^ (1:Nat)),wr .i64 (v.2 +
 (1:Int)))))) (some (Sum.inr v.1))) (wr .u32 (↑(BitVec.toNat (BitVec.ofInt (32:Nat) x.1 ^^^ BitVec.ofInt (32:Nat) (wr .u32 x.2))):Int),(0:Int)))
 fun(b:Int)=>some b
theorem q_bk:∀N x,u_bk.F L0 P0 (orcOf []) N x=V_bk N x:=by intros;kernel_rfl
def W_bk (N:Nat):=V_bk N
theorem con_bk_ok (N:Nat):(u_bk.con (W_bk N)).ok P0:=Uf.ok mixed (q_bk N) trivial Tryz.func196 (by kernel_rfl) fun x y=>by kernel_rfl
def u_bq:Uf:=⟨187,19,Tryz.f187,[.val (.list (.int .u8))],[],
⟨[(2,.val (.int .u32))],[]⟩,[],
[(3,.loop [6] ⟨[(3,.val (.int .u32)),(8,.val (.int .i64))],[]⟩ [(.exit 0,⟨[(3,.val (.int .u32))],[]⟩)])],
[],fun y=>(valW (.int .u32) y,[],[])⟩
def V_bq (w_bk:Int×Int→Option (Int)) (N:Nat) (x:List Int):Option (Int):=
 obind (loopN N (fun(v:Int×Int)=>cnd (decide (v.2<(↑(List.length x):Int))) (cnd (decide ((0:Int)≤v.2)&&decide (v.2<(↑(List.length x):
 Int))) (obind (w_bk (v.1,wr .i32 (List.getD x (Int.toNat v.2) (0:Int)))) fun b=>some (Sum.inl (b,wr .i64 (v.2+(1:Int))))) none) (some
 (Sum.inr v.1))) ((4294967295:Int),(0:Int))) fun(b:Int)=>some (wr .u32 (↑(BitVec.toNat (BitVec.ofInt (32:Nat) (IntKind.max .u32) ^^^
 BitVec.ofInt (32:Nat) b)):Int))
theorem q_bq:∀w_bk N x,u_bq.F L0 P0 (orcOf [u_bk.con w_bk]) N x=V_bq w_bk N x:=by intros;kernel_rfl
def W_bq (N:Nat):=V_bq (W_bk N) N
theorem con_bq_ok (N:Nat):(u_bq.con (W_bq N)).ok P0:=Uf.ok mixed (q_bq (W_bk N) N) ⟨con_bk_ok N,trivial⟩ Tryz.func187 (by kernel_rfl) fun x y=>by kernel_rfl
def u_bs:Uf:=⟨169,18,Tryz.f169,[.val (.list (.int .u8))],[],
⟨[(2,.val (.list (.int .u8)))],[]⟩,[],
[],
[],fun y=>(valW (.list (.int .u8)) y,[],[])⟩
def V_bs (w_bq:List Int→Option (Int)) (N:Nat) (x:List Int):Option (List Int):=
 obind (w_bq x) fun b=>some [wr .u8 (Int.fdiv b ((2:Int) ^ (24:Nat))),wr .u8 (Int.fdiv b ((2:Int) ^ (16:Nat))),wr .u8 (Int.fdiv b ((2:Int) ^ (8:Nat))),wr .u8 b]
theorem q_bs:∀w_bq N x,u_bs.F L0 P0 (orcOf [u_bq.con w_bq]) N x=V_bs w_bq N x:=by intros;kernel_rfl
def W_bs (N:Nat):=V_bs (W_bq N) N
theorem con_bs_ok (N:Nat):(u_bs.con (W_bs N)).ok P0:=Uf.ok mixed (q_bs (W_bq N) N) ⟨con_bq_ok N,trivial⟩ Tryz.func169 (by kernel_rfl) fun x y=>by kernel_rfl
def u_br:Uf:=⟨133,43,Tryz.f133,[.val (.agg T_)],[],
⟨[(2,.val (.list (.int .u8)))],[]⟩,[],
[],
[],fun y=>(valW (.list (.int .u8)) y,[],[])⟩
def V_br (w_bo:M_→Option (Bool)) (w_av:List Int×List Int→Option (List Int)) (w_aU:List Int×List UInt8→Option (List Int)) (w_bs:List Int→Option (List Int)) (N:Nat) (x:M_):Option (List Int):=
 obind (w_bo x) fun b=>cnd (!b) (some []) (obind (w_av ([],[x.1,x.2.1,x.2.2.1,x.2.2.2.1,x.2.2.2.2.1,x.2.2.2.2.2.1,
 (↑(List.length x.2.2.2.2.2.2.1):Int)])) fun b=>obind (w_av (b,x.2.2.2.2.2.2.1)) fun b=>obind (w_av (b,
 [x.2.2.2.2.2.2.2.1,x.2.2.2.2.2.2.2.2.1])) fun b=>obind (w_aU (b,x.2.2.2.2.2.2.2.2.2)) fun b=>obind (w_bs b) fun b_1=>cnd
 (decide ((List.length b+List.length b_1)*(1:Nat)≤(140737488355328:Nat))) (some (b++b_1)) none)
theorem q_br:∀w_bo w_av w_aU w_bs N x,u_br.F L0 P0 (orcOf [u_bo.con w_bo,u_av.con w_av,u_aU.con w_aU,u_bs.con w_bs]) N x=V_br w_bo w_av w_aU w_bs N x:=by intros;kernel_rfl
def W_br (N:Nat):=V_br (W_bo N) (W_av N) (W_aU N) (W_bs N) N
theorem con_br_ok (N:Nat):(u_br.con (W_br N)).ok P0:=Uf.ok mixed (q_br (W_bo N) (W_av N) (W_aU N) (W_bs N) N) ⟨con_bo_ok N,con_av_ok N,con_aU_ok N,con_bs_ok N,trivial⟩ Tryz.func133 (by kernel_rfl) fun x y=>by kernel_rfl
def u_aV:Uf:=⟨132,10,Tryz.f132,[.val (.list (.int .u8)),.val (.list (.int .u8))],[],
⟨[(4,.val .bool)],[]⟩,[],
[],
[],fun y=>(valW .bool y,[],[])⟩
def V_aV (N:Nat) (x:List Int×List Int):Option (Bool):=
 cnd (List.all x.1 fun(n:Int)=>decide ((0:Int)≤n)&&decide (n<(256:Int))) (cnd (List.all x.2 fun(n:Int)=>decide ((0:Int)≤n)&&decide
 (n<(256:Int))) (some (List.map (fun(n:Int)=>UInt8.ofNat (Int.toNat n)) x.1==List.map (fun(n:Int)=>UInt8.ofNat (Int.toNat n)) x.2))
 none) none
theorem q_aV:∀N x,u_aV.F L0 P0 (orcOf []) N x=V_aV N x:=by intros;kernel_rfl
def W_aV (N:Nat):=V_aV N
theorem con_aV_ok (N:Nat):(u_aV.con (W_aV N)).ok P0:=Uf.ok mixed (q_aV N) trivial Tryz.func132 (by kernel_rfl) fun x y=>by kernel_rfl
def u_aq:Uf:=⟨69,28,Tryz.f69,[.val (.list (.int .u8))],[],
⟨[(2,.ptr 600002 0),(3,.val .bool)],[(600002,.box 46 (.val T_))]⟩,[],
[],
[],fun y=>(.tup [valW (.agg T_) y.2,valW .bool y.1],[],[])⟩
def V_aq (w_bj:List Int→Option ((Int⊕Unit)×M_)) (w_br:M_→Option (List Int)) (w_aV:List Int×List Int→Option (Bool)) (N:Nat) (x:List Int):Option (Bool×M_):=
 obind (w_bj x) fun b=>selim (fun(b:Int)=>some (false,(0:Int),(0:Int),(0:Int),(0:Int),(0:Int),(0:Int),[],(0:Int),(0:Int),[]))
 (fun(c:PUnit)=>obind (w_br b.2) fun b_1=>obind (w_aV (b_1,x)) fun b_2=>cnd (!b_2) (some (false,(0:Int),(0:Int),
 (0:Int),(0:Int),(0:Int),(0:Int),[],(0:Int),(0:Int),[])) (some (true,b.2))) b.1
theorem q_aq:∀w_bj w_br w_aV N x,u_aq.F L0 P0 (orcOf [u_bj.con w_bj,u_br.con w_br,u_aV.con w_aV]) N x=V_aq w_bj w_br w_aV N x:=by intros;kernel_rfl
def W_aq (N:Nat):=V_aq (W_bj N) (W_br N) (W_aV N) N
theorem con_aq_ok (N:Nat):(u_aq.con (W_aq N)).ok P0:=Uf.ok mixed (q_aq (W_bj N) (W_br N) (W_aV N) N) ⟨con_bj_ok N,con_br_ok N,con_aV_ok N,trivial⟩ Tryz.func69 (by kernel_rfl) fun x y=>by kernel_rfl
def u_a8:Uf:=⟨37,26,Tryz.f37,[.val (.agg T2_),.val (.list (.int .u8))],[],
⟨[(4,.val (.alt 81 (.agg T_) (.alt1 121 (.agg .unit))))],[]⟩,[],
[],
[],fun y=>(valW (.alt 81 (.agg T_) (.alt1 121 (.agg .unit))) y,[],[])⟩
def V_a8 (w_aq:List Int→Option (Bool×M_)) (N:Nat) (x:A3_×List Int):Option ((M_)⊕Unit):=
 obind (w_aq x.2) fun b=>cnd (!b.1) (some (Sum.inr ())) (cnd (decide (b.2.2.2.1≠x.1.2.2.2.1.1)) (some (Sum.inr ())) (some (Sum.inl b.2)))
theorem q_a8:∀w_aq N x,u_a8.F L0 P0 (orcOf [u_aq.con w_aq]) N x=V_a8 w_aq N x:=by intros;kernel_rfl
def W_a8 (N:Nat):=V_a8 (W_aq N) N
theorem con_a8_ok (N:Nat):(u_a8.con (W_a8 N)).ok P0:=Uf.ok mixed (q_a8 (W_aq N) N) ⟨con_aq_ok N,trivial⟩ Tryz.func37 (by kernel_rfl) fun x y=>by kernel_rfl
def u_p:Uf:=⟨70,33,Tryz.f70,[.val (.agg T0_),.val (.agg T_)],[],
⟨[(4,.val (.alt 122 (.agg .unit) (.alt 185 (.agg .unit) (.alt1 186 (.agg .unit)))))],[]⟩,[],
[],
[],fun y=>(valW (.alt 122 (.agg .unit) (.alt 185 (.agg .unit) (.alt1 186 (.agg .unit)))) y,[],[])⟩
def V_p (N:Nat) (x:A1_×M_):Option (Unit⊕(Unit⊕Unit)):=
 cnd (decide (x.1.2.2.2.1≠(0:Int))) (cnd (decide (x.2.2.1=x.1.2.2.2.1)) (some (Sum.inl ())) (cnd (decide (x.1.2.2.2.2.2.2.2.2.2.1≠(0:Int))) (cnd
 (decide (x.2.2.1=x.1.2.2.2.2.2.2.2.2.2.1)) (some (Sum.inr (Sum.inl ()))) (some (Sum.inr (Sum.inr ())))) (some (Sum.inr (Sum.inr ()))))) (cnd
 (decide (x.1.2.2.2.2.2.2.2.2.2.1≠(0:Int))) (cnd (decide (x.2.2.1=x.1.2.2.2.2.2.2.2.2.2.1)) (some (Sum.inr (Sum.inl ()))) (some (Sum.inr (Sum.inr
 ())))) (some (Sum.inr (Sum.inr ()))))
theorem q_p:∀N x,u_p.F L0 P0 (orcOf []) N x=V_p N x:=by intros;kernel_rfl
def W_p (N:Nat):=V_p N
theorem con_p_ok (N:Nat):(u_p.con (W_p N)).ok P0:=Uf.ok mixed (q_p N) trivial Tryz.func70 (by kernel_rfl) fun x y=>by kernel_rfl
def u_R:Uf:=⟨144,34,Tryz.f144,[.val (.list (.agg T3_)),.val (.int .i64)],[],
⟨[(4,.val (.alt 193 (.agg (.pair (.int .i64) (.agg T3_))) (.alt1 217 (.agg (.int .i64)))))],[]⟩,[],
[(2,.loop [7] ⟨[(9,.val (.int .i64))],[]⟩ [(.exit 0,⟨[],[]⟩),(.ret,⟨[(4,.val (.alt 193 (.agg (.pair (.int .i64) (.agg T3_))) (.alt1 217 (.agg (.int .i64)))))],[]⟩)])],
[],fun y=>(valW (.alt 193 (.agg (.pair (.int .i64) (.agg T3_))) (.alt1 217 (.agg (.int .i64)))) y,[],[])⟩
def V_R (N:Nat) (x:List (Int×Int×Int)×Int):Option ((Int×Int×Int×Int)⊕Int):=
 obind (loopN N (fun(v:Int)=>cnd (decide (v<(↑(List.length x.1):Int))) (cnd (decide ((0:Int)≤v)&&decide (v<(↑(List.length x.1):Int)))
 (cnd (decide (Prod.fst (List.getD x.1 (Int.toNat v) ((0:Int),(0:Int),(0:Int)))=x.2)) (some (Sum.inr (Sum.inr (Sum.inl (v,Prod.fst (List.getD
 x.1 (Int.toNat v) ((0:Int),(0:Int),(0:Int))),Prod.fst (Prod.snd (List.getD x.1 (Int.toNat v) ((0:Int),(0:Int),(0:Int)))),Prod.snd (Prod.snd
 (List.getD x.1 (Int.toNat v) ((0:Int),(0:Int),(0:Int))))))))) (cnd (decide (x.2<Prod.fst (List.getD x.1 (Int.toNat v) ((0:Int),(0:Int),
 (0:Int))))) (some (Sum.inr (Sum.inr (Sum.inr v)))) (some (Sum.inl (wr .i64 (v+(1:Int))))))) none) (some (Sum.inr (Sum.inl ())))) (Int.ofNat
 (0:Nat))) fun(b:PUnit⊕Int×Int×Int×Int⊕Int)=>selim (fun(b:PUnit)=>some (Sum.inr (↑(List.length x.1):Int))) (fun(c:Int×Int×Int×Int⊕Int)=>some c) b
theorem q_R:∀N x,u_R.F L0 P0 (orcOf []) N x=V_R N x:=by intros;kernel_rfl
def W_R (N:Nat):=V_R N
theorem con_R_ok (N:Nat):(u_R.con (W_R N)).ok P0:=Uf.ok mixed (q_R N) trivial Tryz.func144 (by kernel_rfl) fun x y=>by kernel_rfl
def u_n:Uf:=⟨79,18,Tryz.f79,[.val (.list (.agg T3_)),.val (.int .i64)],[],
⟨[(4,.ptr 600004 0),(5,.val .bool)],[(600004,.box 53 (.val T3_))]⟩,[],
[],
[],fun y=>(.tup [valW (.agg T3_) y.2,valW .bool y.1],[],[])⟩
def V_n (w_R:List (Int×Int×Int)×Int→Option ((Int×Int×Int×Int)⊕Int)) (N:Nat) (x:List (Int×Int×Int)×Int):Option (Bool×Int×Int×Int):=
 obind (w_R x) fun b=>selim (fun(b:Int×Int×Int×Int)=>some (true,b.2)) (fun(c:Int)=>some (false,(0:Int),(0:Int),(0:Int))) b
theorem q_n:∀w_R N x,u_n.F L0 P0 (orcOf [u_R.con w_R]) N x=V_n w_R N x:=by intros;kernel_rfl
def W_n (N:Nat):=V_n (W_R N) N
theorem con_n_ok (N:Nat):(u_n.con (W_n N)).ok P0:=Uf.ok mixed (q_n (W_R N) N) ⟨con_R_ok N,trivial⟩ Tryz.func79 (by kernel_rfl) fun x y=>by kernel_rfl
def u_A:Uf:=⟨71,22,Tryz.f71,[.val (.list (.agg T3_)),.val (.int .i64),.val (.int .i64)],[],
⟨[(6,.val .bool)],[]⟩,[],
[],
[],fun y=>(valW .bool y,[],[])⟩
def V_A (w_n:List (Int×Int×Int)×Int→Option (Bool×Int×Int×Int)) (N:Nat) (x:List (Int×Int×Int)×Int×Int):Option (Bool):=
 obind (w_n (x.1,x.2.1)) fun b=>cnd b.1 (some (decide (x.2.2<b.2.2.1))) (some false)
theorem q_A:∀w_n N x,u_A.F L0 P0 (orcOf [u_n.con w_n]) N x=V_A w_n N x:=by intros;kernel_rfl
def W_A (N:Nat):=V_A (W_n N) N
theorem con_A_ok (N:Nat):(u_A.con (W_A N)).ok P0:=Uf.ok mixed (q_A (W_n N) N) ⟨con_n_ok N,trivial⟩ Tryz.func71 (by kernel_rfl) fun x y=>by kernel_rfl
def u_s:Uf:=⟨72,12,Tryz.f72,[.val (.agg T0_),.val (.int .i64)],[],
⟨[(4,.ptr 600004 0)],[(600004,.box 31 (.val T0_))]⟩,[],
[],
[],fun y=>(valW (.agg T0_) y,[],[])⟩
def V_s (N:Nat) (x:A1_×Int):Option A1_:=
 some (x.1.1,x.1.2.1,x.1.2.2.1,(0:Int),(0:Int),x.1.2.2.2.2.2.1,[],x.1.2.2.2.2.2.2.2.1,x.1.2.2.2.2.2.2.2.2.1,(0:Int),x.1.2.2.2.2.2.2.2.2.2.2.1,x.2,x.1.2.2.2.2.2.2.2.2.2.2.2.2)
theorem q_s:∀N x,u_s.F L0 P0 (orcOf []) N x=V_s N x:=by intros;kernel_rfl
def W_s (N:Nat):=V_s N
theorem con_s_ok (N:Nat):(u_s.con (W_s N)).ok P0:=Uf.ok mixed (q_s N) trivial Tryz.func72 (by kernel_rfl) fun x y=>by kernel_rfl
def u_K:Uf:=⟨148,8,Tryz.f148,[.val (.agg T0_)],[],
⟨[(2,.val (.int .i64))],[]⟩,[],
[],
[],fun y=>(valW (.int .i64) y,[],[])⟩
def V_K (N:Nat) (x:A1_):Option (Int):=
 some (wr .i64 (x.2.2.1-x.2.2.2.2.2.2.2.2.1))
theorem q_K:∀N x,u_K.F L0 P0 (orcOf []) N x=V_K N x:=by intros;kernel_rfl
def W_K (N:Nat):=V_K N
theorem con_K_ok (N:Nat):(u_K.con (W_K N)).ok P0:=Uf.ok mixed (q_K N) trivial Tryz.func148 (by kernel_rfl) fun x y=>by kernel_rfl
def u_bd:Uf:=⟨95,16,Tryz.f95,[.val (.agg T0_)],[],
⟨[(2,.val .bool)],[]⟩,[],
[],
[],fun y=>(valW .bool y,[],[])⟩
def V_bd (w_K:A1_→Option (Int)) (N:Nat) (x:A1_):Option (Bool):=
 cnd (decide (x.1=(1:Int))) (some true) (cnd (decide (x.2.2.2.1≠(0:Int))) (obind (w_K x) fun b=>some (decide (b≤(20:Int)))) (some false))
theorem q_bd:∀w_K N x,u_bd.F L0 P0 (orcOf [u_K.con w_K]) N x=V_bd w_K N x:=by intros;kernel_rfl
def W_bd (N:Nat):=V_bd (W_K N) N
theorem con_bd_ok (N:Nat):(u_bd.con (W_bd N)).ok P0:=Uf.ok mixed (q_bd (W_K N) N) ⟨con_K_ok N,trivial⟩ Tryz.func95 (by kernel_rfl) fun x y=>by kernel_rfl
def u_bh:Uf:=⟨135,6,Tryz.f135,[.val (.agg T0_)],[],
⟨[(2,.val (.int .i64))],[]⟩,[],
[],
[],fun y=>(valW (.int .i64) y,[],[])⟩
def V_bh (N:Nat) (x:A1_):Option (Int):=
 cnd (decide (x.1=(1:Int))) (some (8:Int)) (some (3:Int))
theorem q_bh:∀N x,u_bh.F L0 P0 (orcOf []) N x=V_bh N x:=by intros;kernel_rfl
def W_bh (N:Nat):=V_bh N
theorem con_bh_ok (N:Nat):(u_bh.con (W_bh N)).ok P0:=Uf.ok mixed (q_bh N) trivial Tryz.func135 (by kernel_rfl) fun x y=>by kernel_rfl
def u_i:Uf:=⟨136,14,Tryz.f136,[.val (.agg T0_),.val (.int .i64),.val (.int .i64)],[],
⟨[(6,.ptr 600006 0)],[(600006,.box 46 (.val T_))]⟩,[],
[],
[],fun y=>(valW (.agg T_) y,[],[])⟩
def V_i (N:Nat) (x:A1_×Int×Int):Option (M_):=
 some (x.2.1,x.1.1,x.2.2,x.1.2.1,(0:Int),(0:Int),[],(0:Int),(0:Int),[])
theorem q_i:∀N x,u_i.F L0 P0 (orcOf []) N x=V_i N x:=by intros;kernel_rfl
def W_i (N:Nat):=V_i N
theorem con_i_ok (N:Nat):(u_i.con (W_i N)).ok P0:=Uf.ok mixed (q_i N) trivial Tryz.func136 (by kernel_rfl) fun x y=>by kernel_rfl
def as_aA:List AS:=[.acc 0,.val (.int .i64),.val (.list (.agg T3_))]
def bs_aA:List BS:=[.nrow 53 (.agg T3_) true]
def out_aA (y:List (Int×Int×Int)):V×List OK×List OK:=(.acc 2000000 0,[.dead],[.nrow 53 false true ⟨(.agg T3_),y⟩])
def W_aA (N:Nat) (x:Int×List (Int×Int×Int)×List (Int×Int×Int)):Option (List (Int×Int×Int)):=
  cnd (decide ((0:Int)≤x.1)&&decide (x.1≤((↑(List.length x.2.2):Int):Int))&&decide (List.length x.2.1=(1:Nat))&&decide ((List.length x.2.2+(1:Nat))*(24:Nat)≤(140737488355328:Nat))) (some (List.take (Int.toNat x.1) x.2.2++(x.2.1++List.drop (Int.toNat x.1) x.2.2))) none
def conw_aA (w:Int×List (Int×Int×Int)×List (Int×Int×Int)→Option (List (Int×Int×Int))):Con:=⟨171,as_aA,bs_aA,List (Int×Int×Int),w,out_aA⟩
def con_aA (N:Nat):Con:=conw_aA (W_aA N)
theorem con_aA_ok (N:Nat):Con.ok P0 (con_aA N):=⟨⟨Tryz.f171,Tryz.func171,by kernel_rfl,by kernel_rfl⟩,fun(x:Int×List (Int×Int×Int)×List (Int×Int×Int)) (r:List (Int×Int×Int)) (hr:W_aA N x=some r)=>by
  obtain⟨i,s,l⟩:=x
  exact ins_con (e:=(.agg T3_)) (t:=29) (ty:=53) (bytes:=24) (nl:=true) (l:=l) (r:=s) (q:=r) (i:=i) insN171 insP171 rfl (by decide) (by decide) (by decide) hr⟩
def u_x:Uf:=⟨137,49,Tryz.f137,[.val (.list (.agg T3_)),.val (.agg T3_)],[],
⟨[(4,.val (.list (.agg T3_))),(5,.val .bool)],[]⟩,[],
[],
[(8,.cut [7] [(.normal,⟨[(3,.ptr 600003 0),(6,.acc 700047)],[(600003,.box 53 (.val T3_)),(700047,.nrow 53 (.agg T3_) false true)]⟩)])],fun y=>(.tup [valW (.list (.agg T3_)) y.1,valW .bool y.2],[],[])⟩
def V_x (w_f:List (Int×Int×Int)→Option (List (Int×Int×Int))) (w_A:List (Int×Int×Int)×Int×Int→Option (Bool)) (w_R:List (Int×Int×Int)×Int→Option ((Int×Int×Int×Int)⊕Int)) (w_aA:Int×List (Int×Int×Int)×List (Int×Int×Int)→Option (List (Int×Int×Int))) (N:Nat) (x:List (Int×Int×Int)×Int×Int×Int):Option (List (Int×Int×Int)×Bool):=
 obind (w_f x.1) fun b=>obind (w_A (x.1,x.2.1,x.2.2.1)) fun b_1=>cnd b_1 (some (b,false)) (obind (w_R
 (x.1,x.2.1)) fun b_2=>obind (selim (fun(b_3:Int×Int×Int×Int)=>cnd (decide ((0:Int)≤b_3.1)&&decide (b_3.1<(↑(List.length b):
 Int))) (some (x.2,putL b [x.2] (Int.toNat b_3.1))) none) (fun(c:Int)=>some (x.2,b)) b_2) fun(b:(Int×Int×Int)×List (Int×Int×Int))
 => selim (fun(b_3:Int×Int×Int×Int)=>some (b.2,true)) (fun(c:Int)=>obind (w_aA (c,[b.1],b.2)) fun b=>some
 (b,true)) b_2)
theorem q_x:∀w_f w_A w_R w_aA N x,u_x.F L0 P0 (orcOf [conw_f w_f,u_A.con w_A,u_R.con w_R,conw_aA w_aA]) N x=V_x w_f w_A w_R w_aA N x:=by intros;kernel_rfl
def W_x (N:Nat):=V_x (W_f N) (W_A N) (W_R N) (W_aA N) N
theorem con_x_ok (N:Nat):(u_x.con (W_x N)).ok P0:=Uf.ok mixed (q_x (W_f N) (W_A N) (W_R N) (W_aA N) N) ⟨con_f_ok N,con_A_ok N,con_R_ok N,con_aA_ok N,trivial⟩ Tryz.func137 (by kernel_rfl) fun x y=>by kernel_rfl
def u_aw:Uf:=⟨138,23,Tryz.f138,[.val (.agg T0_),.val (.int .i64),.val (.int .i64)],[],
⟨[(6,.ptr 600006 0)],[(600006,.box 46 (.val T_))]⟩,[],
[],
[],fun y=>(valW (.agg T_) y,[],[])⟩
def V_aw (w_i:A1_×Int×Int→Option (M_)) (w_K:A1_→Option (Int)) (w_e:List Int→Option (List Int)) (N:Nat) (x:A1_×Int×Int):Option (M_):=
 obind (w_i x) fun b=>obind (w_K x.1) fun b_1=>obind (w_e x.1.2.2.2.2.2.2.1) fun b_2=>some (b.1,b.2.1,b.2.2.1,b.2.2.2.1,x.1.2.2.2.2.2.2.2.1,b_1,b_2,b.2.2.2.2.2.2.2)
theorem q_aw:∀w_i w_K w_e N x,u_aw.F L0 P0 (orcOf [u_i.con w_i,u_K.con w_K,conw_e w_e]) N x=V_aw w_i w_K w_e N x:=by intros;kernel_rfl
def W_aw (N:Nat):=V_aw (W_i N) (W_K N) (W_e N) N
theorem con_aw_ok (N:Nat):(u_aw.con (W_aw N)).ok P0:=Uf.ok mixed (q_aw (W_i N) (W_K N) (W_e N) N) ⟨con_i_ok N,con_K_ok N,con_e_ok N,trivial⟩ Tryz.func138 (by kernel_rfl) fun x y=>by kernel_rfl
def u_al:Uf:=⟨73,70,Tryz.f73,[.val (.agg T0_),.val (.agg T_),.val (.int .i64)],[],
⟨[(6,.ptr 600006 0),(7,.acc 700069)],[(600006,.box 31 (.val T0_)),(700069,.nrow 46 (.agg T_) false true)]⟩,[],
[],
[],fun y=>(.tup [valW (.agg T0_) y.1,.acc 2000000 0],[],[.nrow 46 false true ⟨(.agg T_),y.2⟩])⟩
def V_al (w_n:List (Int×Int×Int)×Int→Option (Bool×Int×Int×Int)) (w_bd:A1_→Option (Bool)) (w_0:List Int×Int→Option (Bool)) (w_bh:A1_→Option (Int)) (w_i:A1_×Int×Int→Option (M_)) (w_x:List (Int×Int×Int)×Int×Int×Int→Option (List (Int×Int×Int)×Bool)) (w_aw:A1_×Int×Int→Option (M_)) (N:Nat) (x:A1_×(M_)×Int):Option (A1_×List (M_)):=
 obind (w_n (x.1.2.2.2.2.2.2.2.2.2.2.2.2,x.2.1.2.1)) fun b=>obind (w_bd x.1) fun b_1=>cnd (!b_1) (obind (w_i (x.1,
 (3:Int),x.2.1.2.1)) fun b=>some (x.1,[b])) (obind (w_0 (x.1.2.2.2.2.2.2.1,x.2.1.2.1)) fun b_2=>cnd b_2 (obind (w_i (x.1,
 (3:Int),x.2.1.2.1)) fun b=>some (x.1,[b])) (cnd (!b.1) (obind (w_bh x.1) fun b=>cnd (decide (b≤(↑(List.length
 x.1.2.2.2.2.2.2.2.2.2.2.2.2):Int))) (obind (w_i (x.1,(3:Int),x.2.1.2.1)) fun b=>some (x.1,[b])) (obind (w_x
 (x.1.2.2.2.2.2.2.2.2.2.2.2.2,x.2.1.2.1,x.2.1.2.2.2.1,x.1.2.2.1)) fun b=>obind (w_aw ((x.1.1,x.1.2.1,x.1.2.2.1,x.1.2.2.2.1,
 x.1.2.2.2.2.1,x.1.2.2.2.2.2.1,x.1.2.2.2.2.2.2.1,x.1.2.2.2.2.2.2.2.1,x.1.2.2.2.2.2.2.2.2.1,x.1.2.2.2.2.2.2.2.2.2.1,x.1.2.2.2.2.2.2.2.2.2.2.1,
 x.1.2.2.2.2.2.2.2.2.2.2.2.1,b.1),(2:Int),x.2.1.2.1)) fun b_3=>some ((x.1.1,x.1.2.1,x.1.2.2.1,x.1.2.2.2.1,x.1.2.2.2.2.1,x.1.2.2.2.2.2.1,
 x.1.2.2.2.2.2.2.1,x.1.2.2.2.2.2.2.2.1,x.1.2.2.2.2.2.2.2.2.1,x.1.2.2.2.2.2.2.2.2.2.1,x.1.2.2.2.2.2.2.2.2.2.2.1,x.1.2.2.2.2.2.2.2.2.2.2.2.1,
 b.1),[(b_3.1,b_3.2.1,b_3.2.2.1,b_3.2.2.2.1,b_3.2.2.2.2.1,b_3.2.2.2.2.2.1,b_3.2.2.2.2.2.2.1,x.2.2,b_3.2.2.2.2.2.2.2.2)]))) (obind
 (w_x (x.1.2.2.2.2.2.2.2.2.2.2.2.2,x.2.1.2.1,x.2.1.2.2.2.1,x.1.2.2.1)) fun b=>obind (w_aw ((x.1.1,x.1.2.1,x.1.2.2.1,
 x.1.2.2.2.1,x.1.2.2.2.2.1,x.1.2.2.2.2.2.1,x.1.2.2.2.2.2.2.1,x.1.2.2.2.2.2.2.2.1,x.1.2.2.2.2.2.2.2.2.1,x.1.2.2.2.2.2.2.2.2.2.1,
 x.1.2.2.2.2.2.2.2.2.2.2.1,x.1.2.2.2.2.2.2.2.2.2.2.2.1,b.1),(2:Int),x.2.1.2.1)) fun b_3=>some ((x.1.1,x.1.2.1,x.1.2.2.1,x.1.2.2.2.1,
 x.1.2.2.2.2.1,x.1.2.2.2.2.2.1,x.1.2.2.2.2.2.2.1,x.1.2.2.2.2.2.2.2.1,x.1.2.2.2.2.2.2.2.2.1,x.1.2.2.2.2.2.2.2.2.2.1,x.1.2.2.2.2.2.2.2.2.2.2.1,
 x.1.2.2.2.2.2.2.2.2.2.2.2.1,b.1),[(b_3.1,b_3.2.1,b_3.2.2.1,b_3.2.2.2.1,b_3.2.2.2.2.1,b_3.2.2.2.2.2.1,b_3.2.2.2.2.2.2.1,x.2.2,
 b_3.2.2.2.2.2.2.2.2)]))))
theorem q_al:∀w_n w_bd w_0 w_bh w_i w_x w_aw N x,u_al.F L0 P0 (orcOf [u_n.con w_n,u_bd.con w_bd,u_0.con w_0,u_bh.con w_bh,u_i.con w_i,u_x.con w_x,u_aw.con w_aw]) N x=V_al w_n w_bd w_0 w_bh w_i w_x w_aw N x:=by intros;kernel_rfl
def W_al (N:Nat):=V_al (W_n N) (W_bd N) (W_0 N) (W_bh N) (W_i N) (W_x N) (W_aw N) N
theorem con_al_ok (N:Nat):(u_al.con (W_al N)).ok P0:=Uf.ok mixed (q_al (W_n N) (W_bd N) (W_0 N) (W_bh N) (W_i N) (W_x N) (W_aw N) N) ⟨con_n_ok N,con_bd_ok N,con_0_ok N,con_bh_ok N,con_i_ok N,con_x_ok N,con_aw_ok N,trivial⟩ Tryz.func73 (by kernel_rfl) fun x y=>by kernel_rfl
def u_J:Uf:=⟨139,20,Tryz.f139,[.val (.list (.int .i64)),.val (.int .i64)],[],
⟨[(4,.val (.list (.int .i64))),(5,.val .bool)],[]⟩,[],
[],
[],fun y=>(.tup [valW (.list (.int .i64)) y.1,valW .bool y.2],[],[])⟩
def V_J (w_e:List Int→Option (List Int)) (w_T:List Int→Option ((List Int)⊕Unit)) (N:Nat) (x:List Int×Int):Option (List Int×Bool):=
 obind (w_e x.1) fun b=>cnd (decide ((List.length b+List.length [x.2])*(8:Nat)≤(140737488355328:Nat))) (obind (w_T (b++[x.2])) fun b=>selim (fun(b:List Int)=>some (b,true)) (fun(c:PUnit)=>some ([],false)) b) none
theorem q_J:∀w_e w_T N x,u_J.F L0 P0 (orcOf [conw_e w_e,u_T.con w_T]) N x=V_J w_e w_T N x:=by intros;kernel_rfl
def W_J (N:Nat):=V_J (W_e N) (W_T N) N
theorem con_J_ok (N:Nat):(u_J.con (W_J N)).ok P0:=Uf.ok mixed (q_J (W_e N) (W_T N) N) ⟨con_e_ok N,con_T_ok N,trivial⟩ Tryz.func139 (by kernel_rfl) fun x y=>by kernel_rfl
def u_z:Uf:=⟨140,9,Tryz.f140,[.val (.agg T0_)],[],
⟨[(2,.ptr 600002 0)],[(600002,.box 31 (.val T0_))]⟩,[],
[],
[],fun y=>(valW (.agg T0_) y,[],[])⟩
def V_z (N:Nat) (x:A1_):Option A1_:=
 some (x.1,x.2.1,x.2.2.1,x.2.2.2.1,x.2.2.2.2.1,x.2.2.2.2.2.1,x.2.2.2.2.2.2.1,x.2.2.2.2.2.2.2.1,x.2.2.2.2.2.2.2.2.1,(0:Int),x.2.2.2.2.2.2.2.2.2.2.1,wr .i64 (x.2.2.2.2.2.2.2.2.2.2.2.1+(1:Int)),x.2.2.2.2.2.2.2.2.2.2.2.2)
theorem q_z:∀N x,u_z.F L0 P0 (orcOf []) N x=V_z N x:=by intros;kernel_rfl
def W_z (N:Nat):=V_z N
theorem con_z_ok (N:Nat):(u_z.con (W_z N)).ok P0:=Uf.ok mixed (q_z N) trivial Tryz.func140 (by kernel_rfl) fun x y=>by kernel_rfl
def u_a5:Uf:=⟨173,12,Tryz.f173,[.val (.list (.int .i64))],[],
⟨[(2,.val (.int .i64))],[]⟩,[],
[],
[],fun y=>(valW (.int .i64) y,[],[])⟩
def V_a5 (N:Nat) (x:List Int):Option (Int):=
 cnd (decide ((↑(List.length x):Int)<(2:Int))) (some (0:Int)) (cnd (decide ((0:Int)≤wr .i64 ((↑(List.length x):Int)-(2:Int)))&&decide (wr
 .i64 ((↑(List.length x):Int)-(2:Int))<(↑(List.length x):Int))) (some (List.getD x (Int.toNat (wr .i64 ((↑(List.length x):Int)-(2:Int))))
 (0:Int))) none)
theorem q_a5:∀N x,u_a5.F L0 P0 (orcOf []) N x=V_a5 N x:=by intros;kernel_rfl
def W_a5 (N:Nat):=V_a5 N
theorem con_a5_ok (N:Nat):(u_a5.con (W_a5 N)).ok P0:=Uf.ok mixed (q_a5 N) trivial Tryz.func173 (by kernel_rfl) fun x y=>by kernel_rfl
def u_H:Uf:=⟨141,18,Tryz.f141,[.val (.agg T0_),.val (.agg T_),.val (.list (.int .i64))],[],
⟨[(6,.ptr 600006 0)],[(600006,.box 31 (.val T0_))]⟩,[],
[],
[],fun y=>(valW (.agg T0_) y,[],[])⟩
def V_H (w_a5:List Int→Option (Int)) (N:Nat) (x:A1_×(M_)×List Int):Option A1_:=
 obind (w_a5 x.2.1.2.2.2.2.2.2.1) fun b=>cnd (decide (b=(0:Int))) (some (x.1.1,x.1.2.1,x.1.2.2.1,x.1.2.2.2.1,x.1.2.2.2.2.1,(1:Int),x.2.2,x.1.2.2.2.2.2.2.2)) (some (x.1.1,x.1.2.1,x.1.2.2.1,x.1.2.2.2.1,x.1.2.2.2.2.1,b,x.2.2,x.1.2.2.2.2.2.2.2))
theorem q_H:∀w_a5 N x,u_H.F L0 P0 (orcOf [u_a5.con w_a5]) N x=V_H w_a5 N x:=by intros;kernel_rfl
def W_H (N:Nat):=V_H (W_a5 N) N
theorem con_H_ok (N:Nat):(u_H.con (W_H N)).ok P0:=Uf.ok mixed (q_H (W_a5 N) N) ⟨con_a5_ok N,trivial⟩ Tryz.func141 (by kernel_rfl) fun x y=>by kernel_rfl
def u_af:Uf:=⟨74,83,Tryz.f74,[.val (.agg T0_),.val (.agg T_)],[],
⟨[(4,.ptr 600004 0),(5,.acc 700028)],[(600004,.box 31 (.val T0_)),(700028,.nrow 46 (.agg T_) false true)]⟩,[],
[],
[],fun y=>(.tup [valW (.agg T0_) y.1,.acc 2000000 0],[],[.nrow 46 false true ⟨(.agg T_),y.2⟩])⟩
def V_af (w_p:A1_×M_→Option (Unit⊕(Unit⊕Unit))) (w_i:A1_×Int×Int→Option (M_)) (w_J:List Int×Int→Option (List Int×Bool)) (w_z:A1_→Option A1_) (w_H:A1_×(M_)×List Int→Option A1_) (N:Nat) (x:A1_×M_):Option (A1_×List (M_)):=
 obind (w_p x) fun b=>selim (fun(b:PUnit)=>some (x.1,[])) (fun(c:PUnit⊕PUnit)=>selim (fun(b_1:PUnit)=>obind (w_i
 (x.1,(6:Int),x.2.2.1)) fun b_2=>selim (fun(b:PUnit)=>some (x.1,[b_2])) (fun(c:PUnit⊕PUnit)=>selim (fun(b:PUnit)=>cnd (decide
 (x.1.2.2.2.1≠(0:Int))) (some (x.1,[b_2])) (obind (w_J (x.2.2.2.2.2.2.2.1,x.1.1)) fun b=>cnd (!b.2) (obind (w_z x.1) fun b=>
 some (b,[b_2])) (cnd (decide ((20:Int)<x.2.2.2.2.2.2.1)) (obind (w_z x.1) fun b=>some (b,[b_2])) (obind (w_H (x.1,x.2,
 b.1)) fun b=>some ((b.1,b.2.1,b.2.2.1,x.2.2.1,x.2.2.2.2.1,b.2.2.2.2.2.1,b.2.2.2.2.2.2.1,x.2.2.2.2.2.1,wr .i64 (b.2.2.1-x.2.2.2.2.2.2.1),
 (0:Int),b.2.2.2.2.2.2.2.2.2.2.1,(0:Int),b.2.2.2.2.2.2.2.2.2.2.2.2),[]))))) (fun(c:PUnit)=>some (x.1,[b_2])) c) b) (fun(c:PUnit)=>
 obind (w_i (x.1,(6:Int),x.2.2.1)) fun b_1=>selim (fun(b:PUnit)=>some (x.1,[b_1])) (fun(c:PUnit⊕PUnit)=>selim (fun(b:
 PUnit)=>cnd (decide (x.1.2.2.2.1≠(0:Int))) (some (x.1,[b_1])) (obind (w_J (x.2.2.2.2.2.2.2.1,x.1.1)) fun b=>cnd (!b.2) (obind
 (w_z x.1) fun b=>some (b,[b_1])) (cnd (decide ((20:Int)<x.2.2.2.2.2.2.1)) (obind (w_z x.1) fun b=>some (b,[b_1])) (obind
 (w_H (x.1,x.2,b.1)) fun b=>some ((b.1,b.2.1,b.2.2.1,x.2.2.1,x.2.2.2.2.1,b.2.2.2.2.2.1,b.2.2.2.2.2.2.1,x.2.2.2.2.2.1,wr .i64
 (b.2.2.1-x.2.2.2.2.2.2.1),(0:Int),b.2.2.2.2.2.2.2.2.2.2.1,(0:Int),b.2.2.2.2.2.2.2.2.2.2.2.2),[]))))) (fun(c:PUnit)=>some (x.1,[b_1]))
 c) b) c) b
theorem q_af:∀w_p w_i w_J w_z w_H N x,u_af.F L0 P0 (orcOf [u_p.con w_p,u_i.con w_i,u_J.con w_J,u_z.con w_z,u_H.con w_H]) N x=V_af w_p w_i w_J w_z w_H N x:=by intros;kernel_rfl
def W_af (N:Nat):=V_af (W_p N) (W_i N) (W_J N) (W_z N) (W_H N) N
theorem con_af_ok (N:Nat):(u_af.con (W_af N)).ok P0:=Uf.ok mixed (q_af (W_p N) (W_i N) (W_J N) (W_z N) (W_H N) N) ⟨con_p_ok N,con_i_ok N,con_J_ok N,con_z_ok N,con_H_ok N,trivial⟩ Tryz.func74 (by kernel_rfl) fun x y=>by kernel_rfl
def u_ai:Uf:=⟨75,30,Tryz.f75,[.val (.agg T0_),.val (.agg T_)],[],
⟨[(4,.ptr 600004 0)],[(600004,.box 31 (.val T0_))]⟩,[],
[],
[],fun y=>(valW (.agg T0_) y,[],[])⟩
def V_ai (w_p:A1_×M_→Option (Unit⊕(Unit⊕Unit))) (w_z:A1_→Option A1_) (w_s:A1_×Int→Option A1_) (N:Nat) (x:A1_×M_):Option A1_:=
 obind (w_p x) fun b=>selim (fun(b_1:PUnit)=>selim (fun(b:PUnit)=>obind (w_s (x.1,(0:Int))) fun b=>some b) (fun(c:
 PUnit⊕PUnit)=>selim (fun(b:PUnit)=>some x.1) (fun(c:PUnit)=>some x.1) c) b) (fun(c:PUnit⊕PUnit)=>selim (fun(b:PUnit)=>
 obind (w_z x.1) fun b=>some b) (fun(c:PUnit)=>selim (fun(b:PUnit)=>obind (w_s (x.1,(0:Int))) fun b=>some b) (fun
 (c:PUnit⊕PUnit)=>selim (fun(b:PUnit)=>some x.1) (fun(c:PUnit)=>some x.1) c) b) c) b
theorem q_ai:∀w_p w_z w_s N x,u_ai.F L0 P0 (orcOf [u_p.con w_p,u_z.con w_z,u_s.con w_s]) N x=V_ai w_p w_z w_s N x:=by intros;kernel_rfl
def W_ai (N:Nat):=V_ai (W_p N) (W_z N) (W_s N) N
theorem con_ai_ok (N:Nat):(u_ai.con (W_ai N)).ok P0:=Uf.ok mixed (q_ai (W_p N) (W_z N) (W_s N) N) ⟨con_p_ok N,con_z_ok N,con_s_ok N,trivial⟩ Tryz.func75 (by kernel_rfl) fun x y=>by kernel_rfl
def u_ah:Uf:=⟨76,39,Tryz.f76,[.val (.agg T0_),.val (.agg T_)],[],
⟨[(4,.ptr 600004 0),(5,.acc 700023)],[(600004,.box 31 (.val T0_)),(700023,.nrow 46 (.agg T_) false true)]⟩,[],
[],
[],fun y=>(.tup [valW (.agg T0_) y.1,.acc 2000000 0],[],[.nrow 46 false true ⟨(.agg T_),y.2⟩])⟩
def V_ah (w_n:List (Int×Int×Int)×Int→Option (Bool×Int×Int×Int)) (w_i:A1_×Int×Int→Option (M_)) (w_x:List (Int×Int×Int)×Int×Int×Int→Option (List (Int×Int×Int)×Bool)) (N:Nat) (x:A1_×M_):Option (A1_×List (M_)):=
 obind (w_n (x.1.2.2.2.2.2.2.2.2.2.2.2.2,x.2.2.1)) fun b=>cnd (!b.1) (obind (w_i (x.1,(3:Int),x.2.2.1)) fun b=>some (x.1,
 [b])) (obind (w_x (x.1.2.2.2.2.2.2.2.2.2.2.2.2,x.2.2.1,x.2.2.2.2.1,x.1.2.2.1)) fun b=>some ((x.1.1,x.1.2.1,x.1.2.2.1,x.1.2.2.2.1,
 x.1.2.2.2.2.1,x.1.2.2.2.2.2.1,x.1.2.2.2.2.2.2.1,x.1.2.2.2.2.2.2.2.1,x.1.2.2.2.2.2.2.2.2.1,x.1.2.2.2.2.2.2.2.2.2.1,x.1.2.2.2.2.2.2.2.2.2.2.1,
 x.1.2.2.2.2.2.2.2.2.2.2.2.1,b.1),[]))
theorem q_ah:∀w_n w_i w_x N x,u_ah.F L0 P0 (orcOf [u_n.con w_n,u_i.con w_i,u_x.con w_x]) N x=V_ah w_n w_i w_x N x:=by intros;kernel_rfl
def W_ah (N:Nat):=V_ah (W_n N) (W_i N) (W_x N) N
theorem con_ah_ok (N:Nat):(u_ah.con (W_ah N)).ok P0:=Uf.ok mixed (q_ah (W_n N) (W_i N) (W_x N) N) ⟨con_n_ok N,con_i_ok N,con_x_ok N,trivial⟩ Tryz.func76 (by kernel_rfl) fun x y=>by kernel_rfl
def u_aj:Uf:=⟨77,60,Tryz.f77,[.val (.agg T0_),.val (.agg T_)],[],
⟨[(4,.ptr 600004 0),(5,.acc 700016)],[(600004,.box 31 (.val T0_)),(700016,.nrow 46 (.agg T_) false true)]⟩,[],
[],
[],fun y=>(.tup [valW (.agg T0_) y.1,.acc 2000000 0],[],[.nrow 46 false true ⟨(.agg T_),y.2⟩])⟩
def V_aj (w_i:A1_×Int×Int→Option (M_)) (w_p:A1_×M_→Option (Unit⊕(Unit⊕Unit))) (w_J:List Int×Int→Option (List Int×Bool)) (w_s:A1_×Int→Option A1_) (w_H:A1_×(M_)×List Int→Option A1_) (N:Nat) (x:A1_×M_):Option (A1_×List (M_)):=
 obind (w_i (x.1,(6:Int),x.2.2.1)) fun b=>obind (w_p x) fun b_1=>selim (fun(b_2:PUnit)=>obind (w_J
 (x.2.2.2.2.2.2.2.1,x.1.1)) fun b_3=>cnd (!b_3.2) (obind (w_s (x.1,(1:Int))) fun b_4=>some (b_4,[b])) (obind (w_H (x.1,
 x.2,b_3.1)) fun b=>cnd (decide (b.2.2.2.2.2.2.2.2.1<wr .i64 (b.2.2.1-x.2.2.2.2.2.2.1))) (some ((b.1,b.2.1,b.2.2.1,b.2.2.2.1,b.2.2.2.2.1,
 b.2.2.2.2.2.1,b.2.2.2.2.2.2.1,x.2.2.2.2.2.1,wr .i64 (b.2.2.1-x.2.2.2.2.2.2.1),b.2.2.2.2.2.2.2.2.2),[])) (some (b,[])))) (fun(c:PUnit ⊕
 PUnit)=>selim (fun(b_2:PUnit)=>some (x.1,[b])) (fun(c:PUnit)=>some (x.1,[b])) c) b_1
theorem q_aj:∀w_i w_p w_J w_s w_H N x,u_aj.F L0 P0 (orcOf [u_i.con w_i,u_p.con w_p,u_J.con w_J,u_s.con w_s,u_H.con w_H]) N x=V_aj w_i w_p w_J w_s w_H N x:=by intros;kernel_rfl
def W_aj (N:Nat):=V_aj (W_i N) (W_p N) (W_J N) (W_s N) (W_H N) N
theorem con_aj_ok (N:Nat):(u_aj.con (W_aj N)).ok P0:=Uf.ok mixed (q_aj (W_i N) (W_p N) (W_J N) (W_s N) (W_H N) N) ⟨con_i_ok N,con_p_ok N,con_J_ok N,con_s_ok N,con_H_ok N,trivial⟩ Tryz.func77 (by kernel_rfl) fun x y=>by kernel_rfl
def u_u:Uf:=⟨143,8,Tryz.f143,[.val (.agg T3_),.ptr 0 0],[.box 3 (.int .i64)],
⟨[(1,.ptr 1000000 0),(3,.val .bool)],[(1000000,.box 3 (.val (.int .i64)))]⟩,[true],
[],
[],fun y=>(valW .bool y.1,[.box 3 (cellsW (.int .i64) y.2)],[])⟩
def V_u (N:Nat) (x:(Int×Int×Int)×Int):Option (Bool×Int):=
 some (decide (x.1.1=x.2),x.2)
theorem q_u:∀N x,u_u.F L0 P0 (orcOf []) N x=V_u N x:=by intros;kernel_rfl
def W_u (N:Nat):=V_u N
theorem con_u_ok (N:Nat):(u_u.con (W_u N)).ok P0:=Uf.ok mixed (q_u N) trivial Tryz.func143 (by kernel_rfl) fun x y=>by kernel_rfl
def u_aM:Uf:=⟨174,19,Tryz.f174,[.val (.list (.agg T3_)),.fn 143 [0]],[.box 3 (.int .i64)],
⟨[(1,.fn 143 [1000000]),(4,.val (.int .i64))],[(1000000,.box 3 (.val (.int .i64)))]⟩,[true],
[(2,.loop [] ⟨[(1,.fn 143 [1000000]),(8,.val (.int .i64))],[(1000000,.box 3 (.val (.int .i64)))]⟩ [(.exit 0,⟨[(1,.fn 143 [1000000])],[(1000000,.box 3 (.val (.int .i64)))]⟩),(.ret,⟨[(1,.fn 143 [1000000]),(4,.val (.int .i64))],[(1000000,.box 3 (.val (.int .i64)))]⟩)])],
[],fun y=>(valW (.int .i64) y.1,[.box 3 (cellsW (.int .i64) y.2)],[])⟩
def V_aM (w_u:(Int×Int×Int)×Int→Option (Bool×Int)) (N:Nat) (x:List (Int×Int×Int)×Int):Option (Int×Int):=
 obind (loopN N (fun(v:Int×Int)=>cnd (decide (v.1<(↑(List.length x.1):Int))) (cnd (decide ((0:Int)≤v.1)&&decide (v.1<(↑(List.length
 x.1):Int))) (obind (w_u ((Prod.fst (List.getD x.1 (Int.toNat v.1) ((0:Int),(0:Int),(0:Int))),Prod.fst (Prod.snd (List.getD x.1
 (Int.toNat v.1) ((0:Int),(0:Int),(0:Int)))),Prod.snd (Prod.snd (List.getD x.1 (Int.toNat v.1) ((0:Int),(0:Int),(0:Int))))),v.2)) fun b=>cnd
 b.1 (some (Sum.inr (Sum.inr (v.1,b.2)))) (some (Sum.inl (wr .i64 (v.1+(1:Int)),b.2)))) none) (some (Sum.inr (Sum.inl v.2)))) ((0:Int),x.2)) fun
 (b:Int⊕Int×Int)=>selim (fun(b:Int)=>some ((-1:Int),b)) (fun(c:Int×Int)=>some c) b
theorem q_aM:∀w_u N x,u_aM.F L0 P0 (orcOf [u_u.con w_u]) N x=V_aM w_u N x:=by intros;kernel_rfl
def W_aM (N:Nat):=V_aM (W_u N) N
theorem con_aM_ok (N:Nat):(u_aM.con (W_aM N)).ok P0:=Uf.ok mixed (q_aM (W_u N) N) ⟨con_u_ok N,trivial⟩ Tryz.func174 (by kernel_rfl) fun x y=>by kernel_rfl
def u_aL:Uf:=⟨142,42,Tryz.f142,[.acc 0,.fn 143 [1]],[.nrow 53 (.agg T3_) true,.box 3 (.int .i64)],
⟨[(1,.fn 143 [1000001]),(4,.val (.list (.agg T3_)))],[(1000001,.box 3 (.val (.int .i64)))]⟩,[false,true],
[(5,.loop [] ⟨[(0,.acc 1000000),(1,.fn 143 [1000001]),(5,.val (.int .i64)),(6,.val (.int .i64))],[(1000000,.nrow 53 (.agg T3_) false true),(1000001,.box 3 (.val (.int .i64)))]⟩ [(.exit 0,⟨[(0,.acc 1000000),(1,.fn 143 [1000001]),(5,.val (.int .i64))],[(1000000,.nrow 53 (.agg T3_) false true),(1000001,.box 3 (.val (.int .i64)))]⟩)])],
[],fun y=>(valW (.list (.agg T3_)) y.1,[.dead,.box 3 (cellsW (.int .i64) y.2)],[])⟩
def V_aL (w_aM:List (Int×Int×Int)×Int→Option (Int×Int)) (w_u:(Int×Int×Int)×Int→Option (Bool×Int)) (N:Nat) (x:List (Int×Int×Int)×Int):Option (List (Int×Int×Int)×Int):=
 obind (w_aM x) fun b=>cnd (decide (b.1=(-1:Int))) (some (x.1,b.2)) (obind (loopN N (fun(v:Int×Int×List (Int×Int×Int)×Int)=>cnd (decide (v.2.1<(↑(List.length v.2.2.1):Int))) (cnd (decide ((0:Int)≤v.2.1)&&decide (v.2.1 <
 (↑(List.length v.2.2.1):Int))) (obind (w_u ((Prod.fst (List.getD v.2.2.1 (Int.toNat v.2.1) ((0:Int),(0:Int),(0:Int))),Prod.fst
 (Prod.snd (List.getD v.2.2.1 (Int.toNat v.2.1) ((0:Int),(0:Int),(0:Int)))),Prod.snd (Prod.snd (List.getD v.2.2.1 (Int.toNat v.2.1) ((0:Int),
 (0:Int),(0:Int))))),v.2.2.2)) fun b=>cnd (!b.1) (cnd (decide ((0:Int)≤v.1)&&decide (v.1<(↑(List.length v.2.2.1):Int))) (some (Sum.inl
 (wr .i64 (v.1+(1:Int)),wr .i64 (v.2.1+(1:Int)),putL v.2.2.1 [(Prod.fst (List.getD v.2.2.1 (Int.toNat v.2.1) ((0:Int),(0:Int),(0:Int))),
 Prod.fst (Prod.snd (List.getD v.2.2.1 (Int.toNat v.2.1) ((0:Int),(0:Int),(0:Int)))),Prod.snd (Prod.snd (List.getD v.2.2.1 (Int.toNat v.2.1)
 ((0:Int),(0:Int),(0:Int)))))] (Int.toNat v.1),b.2))) none) (some (Sum.inl (v.1,wr .i64 (v.2.1+(1:Int)),v.2.2.1,b.2)))) none) (some (Sum.inr
 (v.1,v.2.2)))) (b.1,wr .i64 (b.1+(1:Int)),x.1,b.2)) fun(b:Int×List (Int×Int×Int)×Int)=>cnd (decide ((0:Int)≤Option.getD (some
 b.1) (0:Int))) (cnd (decide (Option.getD (some b.1) (0:Int)≤(↑(List.length b.2.1):Int))) (cnd (decide (Option.getD none (0:Int)≤b.1)) (cnd
 (decide ((↑(0:Nat):Int)+b.1≤(↑(List.length (putL b.2.1 (List.replicate (Prod.snd (Prod.snd (cutT (0:Nat) (List.length b.2.1) (List.length
 b.2.1) (some b.1) none))-Prod.fst (Prod.snd (cutT (0:Nat) (List.length b.2.1) (List.length b.2.1) (some b.1) none))) ((0:Int),(0:Int),(0:Int)))
 ((0:Nat)+Prod.fst (Prod.snd (cutT (0:Nat) (List.length b.2.1) (List.length b.2.1) (some b.1) none))))):Int))) (some (List.drop ((0:Nat) +
 Prod.fst (Prod.snd (cutT (0:Nat) (List.length (putL b.2.1 (List.replicate (Prod.snd (Prod.snd (cutT (0:Nat) (List.length b.2.1) (List.length b.2.1)
 (some b.1) none))-Prod.fst (Prod.snd (cutT (0:Nat) (List.length b.2.1) (List.length b.2.1) (some b.1) none))) ((0:Int),(0:Int),(0:Int)))
 ((0:Nat)+Prod.fst (Prod.snd (cutT (0:Nat) (List.length b.2.1) (List.length b.2.1) (some b.1) none))))) (List.length (putL b.2.1 (List.replicate
 (Prod.snd (Prod.snd (cutT (0:Nat) (List.length b.2.1) (List.length b.2.1) (some b.1) none))-Prod.fst (Prod.snd (cutT (0:Nat) (List.length b.2.1)
 (List.length b.2.1) (some b.1) none))) ((0:Int),(0:Int),(0:Int))) ((0:Nat)+Prod.fst (Prod.snd (cutT (0:Nat) (List.length b.2.1) (List.length
 b.2.1) (some b.1) none))))) none (some b.1)))) (List.take ((0:Nat)+Prod.fst (Prod.snd (cutT (0:Nat) (List.length (putL b.2.1 (List.replicate
 (Prod.snd (Prod.snd (cutT (0:Nat) (List.length b.2.1) (List.length b.2.1) (some b.1) none))-Prod.fst (Prod.snd (cutT (0:Nat) (List.length b.2.1)
 (List.length b.2.1) (some b.1) none))) ((0:Int),(0:Int),(0:Int))) ((0:Nat)+Prod.fst (Prod.snd (cutT (0:Nat) (List.length b.2.1) (List.length
 b.2.1) (some b.1) none))))) (List.length (putL b.2.1 (List.replicate (Prod.snd (Prod.snd (cutT (0:Nat) (List.length b.2.1) (List.length b.2.1) (some
 b.1) none))-Prod.fst (Prod.snd (cutT (0:Nat) (List.length b.2.1) (List.length b.2.1) (some b.1) none))) ((0:Int),(0:Int),(0:Int))) ((0:Nat) +
 Prod.fst (Prod.snd (cutT (0:Nat) (List.length b.2.1) (List.length b.2.1) (some b.1) none))))) none (some b.1)))+(Prod.snd (Prod.snd (cutT (0:Nat)
 (List.length (putL b.2.1 (List.replicate (Prod.snd (Prod.snd (cutT (0:Nat) (List.length b.2.1) (List.length b.2.1) (some b.1) none))-Prod.fst
 (Prod.snd (cutT (0:Nat) (List.length b.2.1) (List.length b.2.1) (some b.1) none))) ((0:Int),(0:Int),(0:Int))) ((0:Nat)+Prod.fst (Prod.snd (cutT
 (0:Nat) (List.length b.2.1) (List.length b.2.1) (some b.1) none))))) (List.length (putL b.2.1 (List.replicate (Prod.snd (Prod.snd (cutT (0:Nat)
 (List.length b.2.1) (List.length b.2.1) (some b.1) none))-Prod.fst (Prod.snd (cutT (0:Nat) (List.length b.2.1) (List.length b.2.1) (some b.1)
 none))) ((0:Int),(0:Int),(0:Int))) ((0:Nat)+Prod.fst (Prod.snd (cutT (0:Nat) (List.length b.2.1) (List.length b.2.1) (some b.1) none))))) none
 (some b.1)))-Prod.fst (Prod.snd (cutT (0:Nat) (List.length (putL b.2.1 (List.replicate (Prod.snd (Prod.snd (cutT (0:Nat) (List.length b.2.1)
 (List.length b.2.1) (some b.1) none))-Prod.fst (Prod.snd (cutT (0:Nat) (List.length b.2.1) (List.length b.2.1) (some b.1) none))) ((0:Int),
 (0:Int),(0:Int))) ((0:Nat)+Prod.fst (Prod.snd (cutT (0:Nat) (List.length b.2.1) (List.length b.2.1) (some b.1) none))))) (List.length (putL b.2.1
 (List.replicate (Prod.snd (Prod.snd (cutT (0:Nat) (List.length b.2.1) (List.length b.2.1) (some b.1) none))-Prod.fst (Prod.snd (cutT (0:Nat)
 (List.length b.2.1) (List.length b.2.1) (some b.1) none))) ((0:Int),(0:Int),(0:Int))) ((0:Nat)+Prod.fst (Prod.snd (cutT (0:Nat) (List.length
 b.2.1) (List.length b.2.1) (some b.1) none))))) none (some b.1))))) (putL b.2.1 (List.replicate (Prod.snd (Prod.snd (cutT (0:Nat) (List.length
 b.2.1) (List.length b.2.1) (some b.1) none))-Prod.fst (Prod.snd (cutT (0:Nat) (List.length b.2.1) (List.length b.2.1) (some b.1) none))) ((0:Int),
 (0:Int),(0:Int))) ((0:Nat)+Prod.fst (Prod.snd (cutT (0:Nat) (List.length b.2.1) (List.length b.2.1) (some b.1) none))))),b.2.2)) none) none)
 none) none)
theorem q_aL:∀w_aM w_u N x,u_aL.F L0 P0 (orcOf [u_aM.con w_aM,u_u.con w_u]) N x=V_aL w_aM w_u N x:=by intros;kernel_rfl
def W_aL (N:Nat):=V_aL (W_aM N) (W_u N) N
theorem con_aL_ok (N:Nat):(u_aL.con (W_aL N)).ok P0:=Uf.ok mixed (q_aL (W_aM N) (W_u N) N) ⟨con_aM_ok N,con_u_ok N,trivial⟩ Tryz.func142 (by kernel_rfl) fun x y=>by kernel_rfl
def u_am:Uf:=⟨78,9,Tryz.f78,[.val (.list (.agg T3_)),.val (.int .i64)],[],
⟨[(4,.val (.list (.agg T3_)))],[]⟩,[],
[],
[],fun y=>(valW (.list (.agg T3_)) y,[],[])⟩
def V_am (w_f:List (Int×Int×Int)→Option (List (Int×Int×Int))) (w_aL:List (Int×Int×Int)×Int→Option (List (Int×Int×Int)×Int)) (N:Nat) (x:List (Int×Int×Int)×Int):Option (List (Int×Int×Int)):=
 obind (w_f x.1) fun b=>obind (w_aL (b,x.2)) fun b=>some b.1
theorem q_am:∀w_f w_aL N x,u_am.F L0 P0 (orcOf [conw_f w_f,u_aL.con w_aL]) N x=V_am w_f w_aL N x:=by intros;kernel_rfl
def W_am (N:Nat):=V_am (W_f N) (W_aL N) N
theorem con_am_ok (N:Nat):(u_am.con (W_am N)).ok P0:=Uf.ok mixed (q_am (W_f N) (W_aL N) N) ⟨con_f_ok N,con_aL_ok N,trivial⟩ Tryz.func78 (by kernel_rfl) fun x y=>by kernel_rfl
def u_ba:Uf:=⟨38,93,Tryz.f38,[.val (.agg T0_),.val (.agg T_),.val (.int .i64)],[],
⟨[(6,.ptr 600006 0),(7,.acc 700083)],[(600006,.box 31 (.val T0_)),(700083,.nrow 46 (.agg T_) false true)]⟩,[],
[],
[(7,.cut [] [(.normal,⟨[(4,.ptr 600004 0),(6,.ptr 600006 0),(8,.ptr 600008 0)],[(600004,.box 46 (.val T_)),(600006,.box 31 (.val T0_)),(600008,.box 31 (.val T0_))]⟩)])],fun y=>(.tup [valW (.agg T0_) y.1,.acc 2000000 0],[],[.nrow 46 false true ⟨(.agg T_),y.2⟩])⟩
def V_ba (w_2:A1_→Option A1_) (w_p:A1_×M_→Option (Unit⊕(Unit⊕Unit))) (w_A:List (Int×Int×Int)×Int×Int→Option (Bool)) (w_s:A1_×Int→Option A1_) (w_al:A1_×(M_)×Int→Option (A1_×List (M_))) (w_af:A1_×M_→Option (A1_×List (M_))) (w_ai:A1_×M_→Option A1_) (w_ah:A1_×M_→Option (A1_×List (M_))) (w_aj:A1_×M_→Option (A1_×List (M_))) (w_am:List (Int×Int×Int)×Int→Option (List (Int×Int×Int))) (N:Nat) (x:A1_×(M_)×Int):Option (A1_×List (M_)):=
 obind (w_2 x.1) fun b=>obind (w_p (b,x.2.1)) fun b_1=>selim (fun(b_2:PUnit)=>obind (w_A (b.2.2.2.2.2.2.2.2.2.2.2.2,
 x.2.1.2.1,x.2.1.2.2.2.1)) fun b_3=>cnd b_3 (some (b,[])) (cnd (decide (x.2.1.2.2.2.1<b.2.2.2.2.1)) (some (b,[])) (obind (cnd (decide
 (b.2.2.2.2.1<x.2.1.2.2.2.1)) (obind (w_s (b,(0:Int))) fun b=>some (x.2.1,((0:Int),(0:Int),(0:Int),(0:Int),(0:Int),(0:Int),[],
 (0:Int),(0:Int),(0:Int),(0:Int),(0:Int),[]),b)) (some (x.2.1,((0:Int),(0:Int),(0:Int),(0:Int),(0:Int),(0:Int),[],(0:Int),(0:Int),
 (0:Int),(0:Int),(0:Int),[]),b))) fun(b:A2_×A1_×A1_)=>cnd (decide (b.1.1=(1:Int))) (obind (w_al (b.2.2,b.1,x.2.2)) fun b=>some b) (cnd (decide (b.1.1=
 (2:Int))) (obind (w_af (b.2.2,b.1)) fun b=>some b) (cnd (decide (b.1.1=(3:Int))) (obind (w_ai (b.2.2,b.1)) fun b=>some
 (b,[])) (cnd (decide (b.1.1=(4:Int))) (obind (w_ah (b.2.2,b.1)) fun b=>some b) (cnd (decide (b.1.1=(5:Int))) (obind (w_aj (b.2.2,b.1)) fun b=>some b) (cnd (decide (b.1.1=(6:Int))) (obind (w_am (b.2.2.2.2.2.2.2.2.2.2.2.2.2.2,b.1.2.1)) fun b_4=>some
 ((b.2.2.1,b.2.2.2.1,b.2.2.2.2.1,b.2.2.2.2.2.1,b.2.2.2.2.2.2.1,b.2.2.2.2.2.2.2.1,b.2.2.2.2.2.2.2.2.1,b.2.2.2.2.2.2.2.2.2.1,
 b.2.2.2.2.2.2.2.2.2.2.1,b.2.2.2.2.2.2.2.2.2.2.2.1,b.2.2.2.2.2.2.2.2.2.2.2.2.1,b.2.2.2.2.2.2.2.2.2.2.2.2.2.1,b_4),[])) (some (b.2.2,
 [])))))))))) (fun(c:PUnit⊕PUnit)=>selim (fun(b_2:PUnit)=>obind (w_A (b.2.2.2.2.2.2.2.2.2.2.2.2,x.2.1.2.1,x.2.1.2.2.2.1)) fun
 b_3=>cnd b_3 (some (b,[])) (cnd (decide (x.2.1.1=(1:Int))) (obind (w_al (b,x.2)) fun b=>some b) (cnd (decide (x.2.1.1=(2:Int)))
 (obind (w_af (b,x.2.1)) fun b=>some b) (cnd (decide (x.2.1.1=(3:Int))) (obind (w_ai (b,x.2.1)) fun b=>some (b,[])) (cnd
 (decide (x.2.1.1=(4:Int))) (obind (w_ah (b,x.2.1)) fun b=>some b) (cnd (decide (x.2.1.1=(5:Int))) (obind (w_aj (b,
 x.2.1)) fun b=>some b) (cnd (decide (x.2.1.1=(6:Int))) (obind (w_am (b.2.2.2.2.2.2.2.2.2.2.2.2,x.2.1.2.1)) fun b_4=>some ((b.1,
 b.2.1,b.2.2.1,b.2.2.2.1,b.2.2.2.2.1,b.2.2.2.2.2.1,b.2.2.2.2.2.2.1,b.2.2.2.2.2.2.2.1,b.2.2.2.2.2.2.2.2.1,b.2.2.2.2.2.2.2.2.2.1,
 b.2.2.2.2.2.2.2.2.2.2.1,b.2.2.2.2.2.2.2.2.2.2.2.1,b_4),[])) (some (b,[]))))))))) (fun(c:PUnit)=>obind (w_A
 (b.2.2.2.2.2.2.2.2.2.2.2.2,x.2.1.2.1,x.2.1.2.2.2.1)) fun b_2=>cnd b_2 (some (b,[])) (cnd (decide (x.2.1.1=(1:Int))) (obind (w_al
 (b,x.2)) fun b=>some b) (cnd (decide (x.2.1.1=(2:Int))) (obind (w_af (b,x.2.1)) fun b=>some b) (cnd (decide (x.2.1.1=(3:Int)))
 (obind (w_ai (b,x.2.1)) fun b=>some (b,[])) (cnd (decide (x.2.1.1=(4:Int))) (obind (w_ah (b,x.2.1)) fun b=>some b) (cnd
 (decide (x.2.1.1=(5:Int))) (obind (w_aj (b,x.2.1)) fun b=>some b) (cnd (decide (x.2.1.1=(6:Int))) (obind (w_am
 (b.2.2.2.2.2.2.2.2.2.2.2.2,x.2.1.2.1)) fun b_3=>some ((b.1,b.2.1,b.2.2.1,b.2.2.2.1,b.2.2.2.2.1,b.2.2.2.2.2.1,b.2.2.2.2.2.2.1,
 b.2.2.2.2.2.2.2.1,b.2.2.2.2.2.2.2.2.1,b.2.2.2.2.2.2.2.2.2.1,b.2.2.2.2.2.2.2.2.2.2.1,b.2.2.2.2.2.2.2.2.2.2.2.1,b_3),[])) (some (b,[])))))))))
 c) b_1
theorem q_ba:∀w_2 w_p w_A w_s w_al w_af w_ai w_ah w_aj w_am N x,u_ba.F L0 P0 (orcOf [u_2.con w_2,u_p.con w_p,u_A.con w_A,u_s.con w_s,u_al.con w_al,u_af.con w_af,u_ai.con w_ai,u_ah.con w_ah,u_aj.con w_aj,u_am.con w_am]) N x=V_ba w_2 w_p w_A w_s w_al w_af w_ai w_ah w_aj w_am N x:=by intros;kernel_rfl
def W_ba (N:Nat):=V_ba (W_2 N) (W_p N) (W_A N) (W_s N) (W_al N) (W_af N) (W_ai N) (W_ah N) (W_aj N) (W_am N) N
theorem con_ba_ok (N:Nat):(u_ba.con (W_ba N)).ok P0:=Uf.ok mixed (q_ba (W_2 N) (W_p N) (W_A N) (W_s N) (W_al N) (W_af N) (W_ai N) (W_ah N) (W_aj N) (W_am N) N) ⟨con_2_ok N,con_p_ok N,con_A_ok N,con_s_ok N,con_al_ok N,con_af_ok N,con_ai_ok N,con_ah_ok N,con_aj_ok N,con_am_ok N,trivial⟩ Tryz.func38 (by kernel_rfl) fun x y=>by kernel_rfl
def u_bg:Uf:=⟨175,23,Tryz.f175,[.val (.list T5_),.val (.int .i64)],[],
⟨[(4,.val (.alt 224 .str (.alt1 239 (.agg .unit))))],[]⟩,[],
[(2,.loop [7] ⟨[(9,.val (.int .i64))],[]⟩ [(.exit 0,⟨[],[]⟩),(.ret,⟨[(4,.val (.alt 224 .str (.alt1 239 (.agg .unit))))],[]⟩)])],
[],fun y=>(valW (.alt 224 .str (.alt1 239 (.agg .unit))) y,[],[])⟩
def V_bg (N:Nat) (x:List (Int×List UInt8)×Int):Option ((List UInt8)⊕Unit):=
 obind (loopN N (fun(v:Int)=>cnd (decide (v<(↑(List.length x.1):Int))) (cnd (decide ((0:Int)≤v)&&decide (v<(↑(List.length x.1):Int)))
 (cnd (decide (Prod.fst (List.getD x.1 (Int.toNat v) ((0:Int),[]))=x.2)) (some (Sum.inr (Sum.inr (Sum.inl (Prod.snd (List.getD x.1 (Int.toNat v)
 ((0:Int),[]))))))) (some (Sum.inl (wr .i64 (v+(1:Int)))))) none) (some (Sum.inr (Sum.inl ())))) (Int.ofNat (0:Nat))) fun(b:PUnit⊕List UInt8
 ⊕ PUnit)=>selim (fun(b:PUnit)=>some (Sum.inr ())) (fun(c:List UInt8⊕PUnit)=>some c) b
theorem q_bg:∀N x,u_bg.F L0 P0 (orcOf []) N x=V_bg N x:=by intros;kernel_rfl
def W_bg (N:Nat):=V_bg N
theorem con_bg_ok (N:Nat):(u_bg.con (W_bg N)).ok P0:=Uf.ok mixed (q_bg N) trivial Tryz.func175 (by kernel_rfl) fun x y=>by kernel_rfl
def u_bl:Uf:=⟨145,17,Tryz.f145,[.val (.list T5_),.val (.int .i64)],[],
⟨[(4,.val .str),(5,.val .bool)],[]⟩,[],
[],
[],fun y=>(.tup [valW .str y.1,valW .bool y.2],[],[])⟩
def V_bl (w_bg:List (Int×List UInt8)×Int→Option ((List UInt8)⊕Unit)) (N:Nat) (x:List (Int×List UInt8)×Int):Option (List UInt8×Bool):=
 obind (w_bg x) fun b=>selim (fun(b:List UInt8)=>some (b,true)) (fun(c:PUnit)=>some ([],false)) b
theorem q_bl:∀w_bg N x,u_bl.F L0 P0 (orcOf [u_bg.con w_bg]) N x=V_bl w_bg N x:=by intros;kernel_rfl
def W_bl (N:Nat):=V_bl (W_bg N) N
theorem con_bl_ok (N:Nat):(u_bl.con (W_bl N)).ok P0:=Uf.ok mixed (q_bl (W_bg N) N) ⟨con_bg_ok N,trivial⟩ Tryz.func145 (by kernel_rfl) fun x y=>by kernel_rfl
def u_ag:Uf:=⟨80,70,Tryz.f80,[.val (.agg T1_),.val (.int .i64),.val (.int .i64)],[],
⟨[(6,.val (.list T5_)),(7,.val (.list (.agg T7_)))],[]⟩,[],
[(4,.loop [] ⟨[(3,.ptr 600003 0),(6,.acc 700006),(7,.acc 700007),(8,.val (.int .i64))],[(600003,.box 37 (.val T1_)),(700006,.nrow 69 T5_ true true),(700007,.nrow 101 (.agg T7_) false true)]⟩ [(.exit 0,⟨[(6,.val (.list T5_)),(7,.val (.list (.agg T7_)))],[]⟩)])],
[],fun y=>(.tup [valW (.list T5_) y.1,valW (.list (.agg T7_)) y.2],[],[])⟩
def V_ag (w_bl:List (Int×List UInt8)×Int→Option (List UInt8×Bool)) (N:Nat) (x:A0_×Int×Int):Option (List (Int×List UInt8)×List (Int×Int)):=
 cnd (decide (x.1.1<(1:Int))) (some ([],[])) (obind (loopN N (fun(v:Int×A0_×List (Int×List UInt8)×List (Int×Int))=>cnd (decide (v.1≤min (min x.2.2 (wr .i64
 (v.2.1.1-(1:Int)))) (wr .i64 (wr .i64 (x.2.1+(8:Int))-(1:Int))))) (obind (w_bl (v.2.1.2.2.1,v.1)) fun b=>cnd b.2 (cnd (decide
 ((List.length v.2.2.1+List.length [(v.1,b.1)])*(24:Nat)≤(140737488355328:Nat))) (some (Sum.inl (wr .i64 (v.1+(1:Int)),v.2.1,v.2.2.1++
 [(v.1,b.1)],v.2.2.2))) none) (cnd (decide ((0:Int)≤wr .i64 ((↑(List.length v.2.2.2):Int)-(1:Int)))) (cnd (decide ((0:Int)≤wr .i64
 ((↑(List.length v.2.2.2):Int)-(1:Int)))&&decide (wr .i64 ((↑(List.length v.2.2.2):Int)-(1:Int))<(↑(List.length v.2.2.2):Int))) (cnd
 (decide (Prod.snd (List.getD v.2.2.2 (Int.toNat (wr .i64 ((↑(List.length v.2.2.2):Int)-(1:Int)))) ((0:Int),(0:Int)))=wr .i64 (v.1 -
 (1:Int)))) (cnd (decide ((0:Int)≤wr .i64 ((↑(List.length v.2.2.2):Int)-(1:Int)))&&decide (wr .i64 ((↑(List.length v.2.2.2):Int)-(1:Int))
 < (↑(List.length v.2.2.2):Int))) (some (Sum.inl (wr .i64 (v.1+(1:Int)),v.2.1,v.2.2.1,putL v.2.2.2 [(Prod.fst (List.getD v.2.2.2 (Int.toNat
 (wr .i64 ((↑(List.length v.2.2.2):Int)-(1:Int)))) ((0:Int),(0:Int))),v.1)] (Int.toNat (wr .i64 ((↑(List.length v.2.2.2):Int)-(1:Int)))))))
 none) (cnd (decide ((List.length v.2.2.2+List.length [(v.1,v.1)])*(16:Nat)≤(140737488355328:Nat))) (some (Sum.inl (wr .i64 (v.1+(1:Int)),
 v.2.1,v.2.2.1,v.2.2.2++[(v.1,v.1)]))) none)) none) (cnd (decide ((List.length v.2.2.2+List.length [(v.1,v.1)])*(16:Nat) ≤
 (140737488355328:Nat))) (some (Sum.inl (wr .i64 (v.1+(1:Int)),v.2.1,v.2.2.1,v.2.2.2++[(v.1,v.1)]))) none))) (some (Sum.inr v.2.2))) (x.2.1,
 x.1,[],[])) fun(b:List (Int×List UInt8)×List (Int×Int))=>some b)
theorem q_ag:∀w_bl N x,u_ag.F L0 P0 (orcOf [u_bl.con w_bl]) N x=V_ag w_bl N x:=by intros;kernel_rfl
def W_ag (N:Nat):=V_ag (W_bl N) N
theorem con_ag_ok (N:Nat):(u_ag.con (W_ag N)).ok P0:=Uf.ok mixed (q_ag (W_bl N) N) ⟨con_bl_ok N,trivial⟩ Tryz.func80 (by kernel_rfl) fun x y=>by kernel_rfl
def u_a6:Uf:=⟨39,79,Tryz.f39,[.val (.agg T2_),.val (.agg T_)],[],
⟨[(4,.val (.list (.agg T_)))],[]⟩,[],
[(7,.loop [9,42] ⟨[(2,.ptr 600002 0),(3,.ptr 600003 0),(7,.acc 700007),(44,.val (.int .i64))],[(600002,.box 39 (.val T2_)),(600003,.box 46 (.val T_)),(700007,.nrow 46 (.agg T_) true true)]⟩ [(.exit 0,⟨[(2,.ptr 600002 0),(3,.ptr 600003 0),(7,.acc 700007)],[(600002,.box 39 (.val T2_)),(600003,.box 46 (.val T_)),(700007,.nrow 46 (.agg T_) true true)]⟩)]),
(12,.loop [60] ⟨[(2,.ptr 600002 0),(3,.ptr 600003 0),(7,.acc 700007),(62,.val (.int .i64))],[(600002,.box 39 (.val T2_)),(600003,.box 46 (.val T_)),(700007,.nrow 46 (.agg T_) true true)]⟩ [(.exit 2,⟨[(7,.val (.list (.agg T_)))],[]⟩)])],
[],fun y=>(valW (.list (.agg T_)) y,[],[])⟩
def V_a6 (w_n:List (Int×Int×Int)×Int→Option (Bool×Int×Int×Int)) (w_ag:A0_×Int×Int→Option (List (Int×List UInt8)×List (Int×Int))) (w_5:A3_×Int×Int×List UInt8→Option (M_)) (w_6:A3_×Int×Int×Int→Option (M_)) (N:Nat) (x:A3_×M_):Option (List (M_)):=
 obind (w_n (x.1.2.2.2.1.2.2.2.2.2.2.2.2.2.2.2.2,x.2.2.1)) fun b=>cnd (!b.1) (some []) (cnd (decide (b.2.2.1≠x.2.2.2.2.1)) (some [])
 (obind (w_ag (x.1.2.2.2.2.1,x.2.2.2.2.2.2.2.2.1,x.2.2.2.2.2.2.2.2.2.1)) fun b=>obind (loopN N (fun(v:Int×A3_×A2_×List A2_)=>cnd (decide (v.1<(↑(List.length b.1):Int)))
 (cnd (decide ((0:Int)≤v.1)&&decide (v.1<(↑(List.length b.1):Int))) (obind (w_5 (v.2.1,v.2.2.1.2.1,Prod.fst (List.getD b.1
 (Int.toNat v.1) ((0:Int),[])),Prod.snd (List.getD b.1 (Int.toNat v.1) ((0:Int),[])))) fun b=>cnd (decide ((List.length v.2.2.2+List.length
 [b])*(104:Nat)≤(140737488355328:Nat))) (some (Sum.inl (wr .i64 (v.1+(1:Int)),v.2.1,v.2.2.1,v.2.2.2++[b]))) none) none) (some (Sum.inr
 v.2))) ((0:Int),x.1,x.2,[])) fun(b_1:A3_×A2_×List A2_)=>obind (loopN N (fun(v:Int×A3_×A2_×List A2_)=>cnd (decide (v.1<(↑(List.length b.2):Int))) (cnd (decide ((0:Int)≤v.1)&&decide (v.1<(↑(List.length b.2):Int)))
 (obind (w_6 (v.2.1,v.2.2.1.2.1,Prod.fst (List.getD b.2 (Int.toNat v.1) ((0:Int),(0:Int))),Prod.snd (List.getD b.2 (Int.toNat v.1)
 ((0:Int),(0:Int))))) fun b=>cnd (decide ((List.length v.2.2.2+List.length [b])*(104:Nat)≤(140737488355328:Nat))) (some (Sum.inl (wr .i64
 (v.1+(1:Int)),v.2.1,v.2.2.1,v.2.2.2++[b]))) none) none) (some (Sum.inr v.2.2.2))) ((0:Int),b_1)) fun(b:List A2_)=>some b))
theorem q_a6:∀w_n w_ag w_5 w_6 N x,u_a6.F L0 P0 (orcOf [u_n.con w_n,u_ag.con w_ag,u_5.con w_5,u_6.con w_6]) N x=V_a6 w_n w_ag w_5 w_6 N x:=by intros;kernel_rfl
def W_a6 (N:Nat):=V_a6 (W_n N) (W_ag N) (W_5 N) (W_6 N) N
theorem con_a6_ok (N:Nat):(u_a6.con (W_a6 N)).ok P0:=Uf.ok mixed (q_a6 (W_n N) (W_ag N) (W_5 N) (W_6 N) N) ⟨con_n_ok N,con_ag_ok N,con_5_ok N,con_6_ok N,trivial⟩ Tryz.func39 (by kernel_rfl) fun x y=>by kernel_rfl
def u_k:Uf:=⟨83,27,Tryz.f83,[.val (.agg T1_),.val (.int .i64)],[],
⟨[(4,.ptr 600004 0)],[(600004,.box 37 (.val T1_))]⟩,[],
[],
[],fun y=>(valW (.agg T1_) y,[],[])⟩
def V_k (w_b:A0_→Option A0_) (w_h:A0_→Option (Int⊕Unit)) (N:Nat) (x:A0_×Int):Option A0_:=
 obind (w_b x.1) fun b=>obind (w_h x.1) fun b_1=>selim (fun(b_2:Int)=>cnd (decide (x.2≤(1000000:Int))) (some (b.1,max b.2.1 x.2,b.2.2)) (some b)) (fun(c:PUnit)=>some b) b_1
theorem q_k:∀w_b w_h N x,u_k.F L0 P0 (orcOf [u_b.con w_b,u_h.con w_h]) N x=V_k w_b w_h N x:=by intros;kernel_rfl
def W_k (N:Nat):=V_k (W_b N) (W_h N) N
theorem con_k_ok (N:Nat):(u_k.con (W_k N)).ok P0:=Uf.ok mixed (q_k (W_b N) (W_h N) N) ⟨con_b_ok N,con_h_ok N,trivial⟩ Tryz.func83 (by kernel_rfl) fun x y=>by kernel_rfl
def u_aH:Uf:=⟨84,30,Tryz.f84,[.val (.agg T1_),.val (.int .i64)],[],
⟨[(4,.ptr 600004 0)],[(600004,.box 37 (.val T1_))]⟩,[],
[],
[],fun y=>(valW (.agg T1_) y,[],[])⟩
def V_aH (w_h:A0_→Option (Int⊕Unit)) (w_k:A0_×Int→Option A0_) (w_b:A0_→Option A0_) (N:Nat) (x:A0_×Int):Option A0_:=
 obind (w_h x.1) fun b=>selim (fun(b:Int)=>obind (w_k (x.1,wr .i64 (x.2-(1:Int)))) fun b=>some b) (fun(c:PUnit)=>obind (w_b x.1) fun b=>cnd (decide ((1:Int)≤x.2)) (cnd (decide (x.2≤(1000000:Int))) (some (x.2,b.2)) (some b)) (some b)) b
theorem q_aH:∀w_h w_k w_b N x,u_aH.F L0 P0 (orcOf [u_h.con w_h,u_k.con w_k,u_b.con w_b]) N x=V_aH w_h w_k w_b N x:=by intros;kernel_rfl
def W_aH (N:Nat):=V_aH (W_h N) (W_k N) (W_b N) N
theorem con_aH_ok (N:Nat):(u_aH.con (W_aH N)).ok P0:=Uf.ok mixed (q_aH (W_h N) (W_k N) (W_b N) N) ⟨con_h_ok N,con_k_ok N,con_b_ok N,trivial⟩ Tryz.func84 (by kernel_rfl) fun x y=>by kernel_rfl
def u_bb:Uf:=⟨176,32,Tryz.f176,[.val (.list T5_),.val (.int .i64)],[],
⟨[(4,.val (.alt 228 (.agg (.int .i64)) (.alt1 240 (.agg .unit))))],[]⟩,[],
[(2,.loop [7] ⟨[(9,.val (.int .i64))],[]⟩ [(.exit 0,⟨[],[]⟩),(.ret,⟨[(4,.val (.alt 228 (.agg (.int .i64)) (.alt1 240 (.agg .unit))))],[]⟩)])],
[],fun y=>(valW (.alt 228 (.agg (.int .i64)) (.alt1 240 (.agg .unit))) y,[],[])⟩
def V_bb (N:Nat) (x:List (Int×List UInt8)×Int):Option (Int⊕Unit):=
 obind (loopN N (fun(v:Int)=>cnd (decide (v<(↑(List.length x.1):Int))) (cnd (decide ((0:Int)≤v)&&decide (v<(↑(List.length x.1):Int)))
 (cnd (decide (Prod.fst (List.getD x.1 (Int.toNat v) ((0:Int),[]))=x.2)) (some (Sum.inr (Sum.inr (Sum.inr ())))) (cnd (decide (x.2<Prod.fst
 (List.getD x.1 (Int.toNat v) ((0:Int),[])))) (some (Sum.inr (Sum.inr (Sum.inl v)))) (some (Sum.inl (wr .i64 (v+(1:Int))))))) none) (some (Sum.inr
 (Sum.inl ())))) (Int.ofNat (0:Nat))) fun(b:PUnit⊕Int⊕PUnit)=>selim (fun(b:PUnit)=>some (Sum.inl (↑(List.length x.1):Int))) (fun(c:
 Int⊕PUnit)=>some c) b
theorem q_bb:∀N x,u_bb.F L0 P0 (orcOf []) N x=V_bb N x:=by intros;kernel_rfl
def W_bb (N:Nat):=V_bb N
theorem con_bb_ok (N:Nat):(u_bb.con (W_bb N)).ok P0:=Uf.ok mixed (q_bb N) trivial Tryz.func176 (by kernel_rfl) fun x y=>by kernel_rfl
def as_as:List AS:=[.acc 0,.val (.int .i64),.val (.list T5_)]
def bs_as:List BS:=[.nrow 69 T5_ true]
def out_as (y:List (Int×List UInt8)):V×List OK×List OK:=(.acc 2000000 0,[.dead],[.nrow 69 false true ⟨T5_,y⟩])
def W_as (N:Nat) (x:Int×List (Int×List UInt8)×List (Int×List UInt8)):Option (List (Int×List UInt8)):=
  cnd (decide ((0:Int)≤x.1)&&decide (x.1≤((↑(List.length x.2.2):Int):Int))&&decide (List.length x.2.1=(1:Nat))&&decide ((List.length x.2.2+(1:Nat))*(24:Nat)≤(140737488355328:Nat))) (some (List.take (Int.toNat x.1) x.2.2++(x.2.1++List.drop (Int.toNat x.1) x.2.2))) none
def conw_as (w:Int×List (Int×List UInt8)×List (Int×List UInt8)→Option (List (Int×List UInt8))):Con:=⟨177,as_as,bs_as,List (Int×List UInt8),w,out_as⟩
def con_as (N:Nat):Con:=conw_as (W_as N)
theorem con_as_ok (N:Nat):Con.ok P0 (con_as N):=⟨⟨Tryz.f177,Tryz.func177,by kernel_rfl,by kernel_rfl⟩,fun(x:Int×List (Int×List UInt8)×List (Int×List UInt8)) (r:List (Int×List UInt8)) (hr:W_as N x=some r)=>by
  obtain⟨i,s,l⟩:=x
  exact ins_con (e:=T5_) (t:=32) (ty:=69) (bytes:=24) (nl:=true) (l:=l) (r:=s) (q:=r) (i:=i) insN177 insP177 rfl (by decide) (by decide) (by decide) hr⟩
def u_az:Uf:=⟨146,43,Tryz.f146,[.val (.list T5_),.val (.int .i64),.val T5_],[],
⟨[(6,.val (.list T5_)),(7,.val .bool)],[]⟩,[],
[],
[(1000003,.reg [(8,[],⟨[(5,.ptr 600005 0),(8,.acc 700042),(9,.ptr 600009 0),(28,.val .bool)],[(600005,.box 69 (.val (.pair (.int .i64) .str))),(700042,.nrow 69 T5_ false true),(600009,.box 228 (.val (.int .i64)))]⟩)])],fun y=>(.tup [valW (.list T5_) y.1,valW .bool y.2],[],[])⟩
def V_az (w_c:List (Int×List UInt8)→Option (List (Int×List UInt8))) (w_bb:List (Int×List UInt8)×Int→Option (Int⊕Unit)) (w_as:Int×List (Int×List UInt8)×List (Int×List UInt8)→Option (List (Int×List UInt8))) (N:Nat) (x:List (Int×List UInt8)×Int×Int×List UInt8):Option (List (Int×List UInt8)×Bool):=
 obind (w_c x.1) fun b=>obind (w_bb (x.1,x.2.2.1)) fun b_1=>selim (fun(b_2:Int)=>cnd (decide (x.2.2.1 <
 x.2.1)) (some (b,false)) (cnd (decide (wr .i64 (x.2.1+(8:Int))≤x.2.2.1)) (some (b,false)) (obind (w_as (b_2,[x.2.2],
 b)) fun b=>some (b,true)))) (fun(c:PUnit)=>cnd true (some (b,false)) (cnd (decide (wr .i64 (x.2.1+(8:Int))≤x.2.2.1)) (some (b,false))
 (obind (w_as ((0:Int),[x.2.2],b)) fun b=>some (b,true)))) b_1
theorem q_az:∀w_c w_bb w_as N x,u_az.F L0 P0 (orcOf [conw_c w_c,u_bb.con w_bb,conw_as w_as]) N x=V_az w_c w_bb w_as N x:=by intros;kernel_rfl
def W_az (N:Nat):=V_az (W_c N) (W_bb N) (W_as N) N
theorem con_az_ok (N:Nat):(u_az.con (W_az N)).ok P0:=Uf.ok mixed (q_az (W_c N) (W_bb N) (W_as N) N) ⟨con_c_ok N,con_bb_ok N,con_as_ok N,trivial⟩ Tryz.func146 (by kernel_rfl) fun x y=>by kernel_rfl
def u_ab:Uf:=⟨154,27,Tryz.f154,[.val (.list T5_),.val (.int .i64)],[],
⟨[(4,.val (.list T5_)),(5,.ptr 600005 0),(6,.val .bool)],[(600005,.box 69 (.val (.pair (.int .i64) .str)))]⟩,[],
[],
[],fun y=>(.tup [valW (.list T5_) y.1,valW T5_ y.2.2,valW .bool y.2.1],[],[])⟩
def V_ab (w_c:List (Int×List UInt8)→Option (List (Int×List UInt8))) (N:Nat) (x:List (Int×List UInt8)×Int):Option (List (Int×List UInt8)×Bool×Int×List UInt8):=
 cnd (decide ((↑(List.length x.1):Int)=(0:Int))) (obind (w_c x.1) fun b=>some (b,false,(0:Int),[])) (cnd (decide
 ((0:Int)≤(0:Int))&&decide ((0:Int)<(↑(List.length x.1):Int))) (cnd (decide (Prod.fst (List.getD x.1 (0:Nat) ((0:Int),[]))≠x.2)) (obind
 (w_c x.1) fun b=>some (b,false,(0:Int),[])) (cnd (decide ((0:Int)≤(1:Int))&&decide ((1:Int)≤(↑(List.length x.1):
 Int))) (obind (w_c (List.drop (1:Nat) (List.take (List.length x.1) x.1))) fun b=>cnd (decide ((0:Int)≤(0:Int))&&decide
 ((0:Int)<(↑(List.length x.1):Int))) (some (b,true,Prod.fst (List.getD x.1 (0:Nat) ((0:Int),[])),Prod.snd (List.getD x.1 (0:Nat) ((0:Int),
 [])))) none) none)) none)
theorem q_ab:∀w_c N x,u_ab.F L0 P0 (orcOf [conw_c w_c]) N x=V_ab w_c N x:=by intros;kernel_rfl
def W_ab (N:Nat):=V_ab (W_c N) N
theorem con_ab_ok (N:Nat):(u_ab.con (W_ab N)).ok P0:=Uf.ok mixed (q_ab (W_c N) N) ⟨con_c_ok N,trivial⟩ Tryz.func154 (by kernel_rfl) fun x y=>by kernel_rfl
def u_7:Uf:=⟨153,2,Tryz.f153,[],[],
⟨[(0,.ptr 600000 0)],[(600000,.box 35 (.val T7_))]⟩,[],
[],
[],fun y=>(valW (.agg T7_) y,[],[])⟩
def V_7 (N:Nat) (x:Unit):Option (Int×Int):=
 some ((0:Int),(0:Int))
theorem q_7:∀N x,u_7.F L0 P0 (orcOf []) N x=V_7 N x:=by intros;kernel_rfl
def W_7 (N:Nat):=V_7 N
theorem con_7_ok (N:Nat):(u_7.con (W_7 N)).ok P0:=Uf.ok mixed (q_7 N) trivial Tryz.func153 (by kernel_rfl) fun x y=>by kernel_rfl
def u_q:Uf:=⟨102,52,Tryz.f102,[.val (.agg T1_)],[],
⟨[(2,.ptr 600002 0),(3,.val (.list T5_))],[(600002,.box 37 (.val T1_))]⟩,[],
[(3,.loop [] ⟨[(2,.ptr 600002 0),(4,.ptr 600004 0),(5,.acc 700005)],[(600002,.box 37 (.val T1_)),(600004,.box 37 (.val T1_)),(700005,.nrow 69 T5_ true true)]⟩ [(.exit 0,⟨[(2,.ptr 600002 0),(4,.ptr 600004 0),(5,.val (.list T5_))],[(600002,.box 37 (.val T1_)),(600004,.box 37 (.val T1_))]⟩)])],
[],fun y=>(.tup [valW (.agg T1_) y.2,valW (.list T5_) y.1],[],[])⟩
def V_q (w_b:A0_→Option A0_) (w_ab:List (Int×List UInt8)×Int→Option (List (Int×List UInt8)×Bool×Int×List UInt8)) (w_W:List A4_×Int×List UInt8→Option (List A4_)) (w_1:List (Int×List UInt8)×Int×List UInt8→Option (List (Int×List UInt8))) (w_7:Unit→Option (Int×Int)) (N:Nat) (x:A0_):Option A5_:=
 obind (w_b x) fun b=>obind (loopN N (fun(v:A0_×A0_×List (Int×List UInt8))=>obind (w_ab (v.2.1.2.2.2.1,v.2.1.1)) fun b=>cnd (!b.2.1) (some (Sum.inr (v.2.2,v.1,v.2.1))) (obind
 (w_W (v.2.1.2.2.2.2.1,b.2.2)) fun b_1=>obind (w_1 (v.2.1.2.2.1,b.2.2)) fun b_2=>cnd (decide ((List.length v.2.2 +
 List.length [b.2.2])*(24:Nat)≤(140737488355328:Nat))) (some (Sum.inl (v.1,(wr .i64 (v.2.1.1+(1:Int)),v.2.1.2.1,b_2,b.1,b_1,
 v.2.1.2.2.2.2.2),v.2.2++[b.2.2]))) none)) (((0:Int),(0:Int),[],[],[],(0:Int),(0:Int)),b,[])) fun(b:List (Int×List UInt8)×A0_×A0_)=>cnd (decide ((0:Int)<(↑(List.length b.1):Int)))
 (obind (w_7 ()) fun b_1=>some (b.1,b.2.2.1,b.2.2.2.1,b.2.2.2.2.1,b.2.2.2.2.2.1,b.2.2.2.2.2.2.1,b_1)) (some (b.1,b.2.2))
theorem q_q:∀w_b w_ab w_W w_1 w_7 N x,u_q.F L0 P0 (orcOf [u_b.con w_b,u_ab.con w_ab,u_W.con w_W,u_1.con w_1,u_7.con w_7]) N x=V_q w_b w_ab w_W w_1 w_7 N x:=by intros;kernel_rfl
def W_q (N:Nat):=V_q (W_b N) (W_ab N) (W_W N) (W_1 N) (W_7 N) N
theorem con_q_ok (N:Nat):(u_q.con (W_q N)).ok P0:=Uf.ok mixed (q_q (W_b N) (W_ab N) (W_W N) (W_1 N) (W_7 N) N) ⟨con_b_ok N,con_ab_ok N,con_W_ok N,con_1_ok N,con_7_ok N,trivial⟩ Tryz.func102 (by kernel_rfl) fun x y=>by kernel_rfl
def u_ak:Uf:=⟨85,54,Tryz.f85,[.val (.agg T1_),.val T5_],[],
⟨[(4,.ptr 600004 0)],[(600004,.box 37 (.val T1_))]⟩,[],
[],
[(1000002,.reg [(7,[],⟨[(2,.ptr 600002 0),(3,.ptr 600003 0),(4,.ptr 600004 0),(20,.val .bool)],[(600002,.box 37 (.val T1_)),(600003,.box 69 (.val (.pair (.int .i64) .str))),(600004,.box 37 (.val T1_))]⟩),(5,[],⟨[(2,.ptr 600002 0),(3,.ptr 600003 0),(4,.ptr 600004 0),(25,.val .bool)],[(600002,.box 37 (.val T1_)),(600003,.box 69 (.val (.pair (.int .i64) .str))),(600004,.box 37 (.val T1_))]⟩)])],fun y=>(valW (.agg T1_) y,[],[])⟩
def V_ak (w_h:A0_→Option (Int⊕Unit)) (w_b:A0_→Option A0_) (w_k:A0_×Int→Option A0_) (w_az:List (Int×List UInt8)×Int×Int×List UInt8→Option (List (Int×List UInt8)×Bool)) (w_q:A0_→Option A5_) (N:Nat) (x:A0_×Int×List UInt8):Option A0_:=
 obind (w_h x.1) fun b=>selim (fun(b:Int)=>obind (cnd (decide (x.2.1<(1:Int))) (some (true,x.1,x.2,(0:Int),(0:Int),[],[],[],
 (0:Int),(0:Int))) (some (decide ((1000000:Int)<x.2.1),x.1,x.2,(0:Int),(0:Int),[],[],[],(0:Int),(0:Int)))) fun(b:Bool×A0_×(Int×List UInt8)×A0_)=>cnd b.1 (obind (w_b b.2.1) fun b
 => some b) (cnd (decide ((12:Int)<(↑(List.length b.2.2.1.2):Int))) (obind (w_b b.2.1) fun b=>some b) (obind (w_k (b.2.1,
 b.2.2.1.1)) fun b_1=>obind (w_az (b_1.2.2.2.1,b_1.1,b.2.2.1)) fun b=>obind (w_q (b_1.1,b_1.2.1,b_1.2.2.1,b.1,b_1.2.2.2.2))
 fun b=>some b.2))) (fun(c:PUnit)=>obind (cnd true (some (true,x.1,x.2,(0:Int),(0:Int),[],[],[],(0:Int),(0:Int))) (some (decide
 ((1000000:Int)<x.2.1),x.1,x.2,(0:Int),(0:Int),[],[],[],(0:Int),(0:Int)))) fun(b:Bool×A0_×(Int×List UInt8)×A0_)=>cnd b.1 (obind (w_b b.2.1) fun b=>some b) (cnd (decide ((12:Int)
 < (↑(List.length b.2.2.1.2):Int))) (obind (w_b b.2.1) fun b=>some b) (obind (w_k (b.2.1,b.2.2.1.1)) fun b_1=>obind
 (w_az (b_1.2.2.2.1,b_1.1,b.2.2.1)) fun b=>obind (w_q (b_1.1,b_1.2.1,b_1.2.2.1,b.1,b_1.2.2.2.2)) fun b=>some b.2))) b
theorem q_ak:∀w_h w_b w_k w_az w_q N x,u_ak.F L0 P0 (orcOf [u_h.con w_h,u_b.con w_b,u_k.con w_k,u_az.con w_az,u_q.con w_q]) N x=V_ak w_h w_b w_k w_az w_q N x:=by intros;kernel_rfl
def W_ak (N:Nat):=V_ak (W_h N) (W_b N) (W_k N) (W_az N) (W_q N) N
theorem con_ak_ok (N:Nat):(u_ak.con (W_ak N)).ok P0:=Uf.ok mixed (q_ak (W_h N) (W_b N) (W_k N) (W_az N) (W_q N) N) ⟨con_h_ok N,con_b_ok N,con_k_ok N,con_az_ok N,con_q_ok N,trivial⟩ Tryz.func85 (by kernel_rfl) fun x y=>by kernel_rfl
def u_an:Uf:=⟨178,10,Tryz.f178,[.val (.list T5_)],[],
⟨[(2,.val (.int .i64))],[]⟩,[],
[],
[],fun y=>(valW (.int .i64) y,[],[])⟩
def V_an (N:Nat) (x:List (Int×List UInt8)):Option (Int):=
 cnd (decide ((↑(List.length x):Int)=(0:Int))) (some (0:Int)) (cnd (decide ((0:Int)≤(0:Int))&&decide ((0:Int)<(↑(List.length x):Int))) (some (Prod.fst (List.getD x (0:Nat) ((0:Int),[])))) none)
theorem q_an:∀N x,u_an.F L0 P0 (orcOf []) N x=V_an N x:=by intros;kernel_rfl
def W_an (N:Nat):=V_an N
theorem con_an_ok (N:Nat):(u_an.con (W_an N)).ok P0:=Uf.ok mixed (q_an N) trivial Tryz.func178 (by kernel_rfl) fun x y=>by kernel_rfl
def u_ao:Uf:=⟨149,19,Tryz.f149,[.val (.agg T1_)],[],
⟨[(2,.val (.alt 198 (.int .i64) (.alt1 231 (.agg .unit))))],[]⟩,[],
[],
[],fun y=>(valW (.alt 198 (.int .i64) (.alt1 231 (.agg .unit))) y,[],[])⟩
def V_ao (w_an:List (Int×List UInt8)→Option (Int)) (N:Nat) (x:A0_):Option (Int⊕Unit):=
 obind (w_an x.2.2.2.1) fun b=>cnd (decide (x.1≤b)) (cnd (decide ((0:Int)<b)) (some (Sum.inl b)) (some (Sum.inr ()))) (some (Sum.inr ()))
theorem q_ao:∀w_an N x,u_ao.F L0 P0 (orcOf [u_an.con w_an]) N x=V_ao w_an N x:=by intros;kernel_rfl
def W_ao (N:Nat):=V_ao (W_an N) N
theorem con_ao_ok (N:Nat):(u_ao.con (W_ao N)).ok P0:=Uf.ok mixed (q_ao (W_an N) N) ⟨con_an_ok N,trivial⟩ Tryz.func149 (by kernel_rfl) fun x y=>by kernel_rfl
def u_ap:Uf:=⟨152,17,Tryz.f152,[.val (.list T4_),.val (.int .i64),.val (.int .i64),.val (.int .i64)],[],
⟨[(8,.val (.list T4_))],[]⟩,[],
[],
[],fun y=>(valW (.list T4_) y,[],[])⟩
def V_ap (w_d:List A4_→Option (List A4_)) (N:Nat) (x:List A4_×Int×Int×Int):Option (List A4_):=
 obind (w_d x.1) fun b=>cnd (decide ((List.length b+(1:Nat))*(48:Nat)≤(140737488355328:Nat))) (some (b++[((2:Int),x.2.1,x.2.2.1,[],x.2.2.2)])) none
theorem q_ap:∀w_d N x,u_ap.F L0 P0 (orcOf [conw_d w_d]) N x=V_ap w_d N x:=by intros;kernel_rfl
def W_ap (N:Nat):=V_ap (W_d N) N
theorem con_ap_ok (N:Nat):(u_ap.con (W_ap N)).ok P0:=Uf.ok mixed (q_ap (W_d N) N) ⟨con_d_ok N,trivial⟩ Tryz.func152 (by kernel_rfl) fun x y=>by kernel_rfl
def u_aK:Uf:=⟨101,66,Tryz.f101,[.val (.agg T1_),.val (.int .i64),.val (.int .i64)],[],
⟨[(6,.ptr 600006 0),(7,.val (.list (.agg T7_)))],[(600006,.box 37 (.val T1_))]⟩,[],
[(6,.loop [] ⟨[(3,.ptr 600003 0),(6,.ptr 600006 0),(8,.ptr 600008 0),(9,.ptr 600009 0),(10,.fn 151 [600008,600005,600009])],[(600003,.box 37 (.val T1_)),(600006,.box 37 (.val T1_)),(600008,.box 37 (.val T1_)),(600009,.box 132 (.acc 601009)),(601009,.nrow 101 (.agg T7_) true true),(600005,.box 3 (.val (.int .i64)))]⟩ [(.exit 0,⟨[(3,.ptr 600003 0),(6,.ptr 600006 0),(8,.ptr 600008 0),(9,.ptr 600009 0)],[(600003,.box 37 (.val T1_)),(600006,.box 37 (.val T1_)),(600008,.box 37 (.val T1_)),(600009,.box 132 (.acc 601009)),(601009,.nrow 101 (.agg T7_) true true)]⟩)])],
[(12,.cut [] [(.normal,⟨[(3,.ptr 600003 0),(6,.ptr 600006 0),(8,.ptr 600008 0),(9,.ptr 600009 0),(10,.fn 151 [600008,600005,600009])],[(600003,.box 37 (.val T1_)),(600006,.box 37 (.val T1_)),(600008,.box 37 (.val T1_)),(600009,.box 132 (.acc 601009)),(601009,.nrow 101 (.agg T7_) true true),(600005,.box 3 (.val (.int .i64)))]⟩)])],fun y=>(.tup [valW (.agg T1_) y.2,valW (.list (.agg T7_)) y.1],[],[])⟩
def V_aK (w_b:A0_→Option A0_) (w_ao:A0_→Option (Int⊕Unit)) (w_ap:List A4_×Int×Int×Int→Option (List A4_)) (w_q:A0_→Option A5_) (w_7:Unit→Option (Int×Int)) (N:Nat) (x:A0_×Int×Int):Option (List (Int×Int)×A0_):=
 obind (w_b x.1) fun b=>cnd (decide (x.1.1<(1:Int))) (some ([],b)) (cnd (decide ((1000000:Int)<x.2.1)) (some ([],b)) (obind (loopN N
 (fun(v:A0_×A0_×A0_×List (Int×Int)×Int)=>cnd (decide (v.2.2.1.1≤x.2.1))
 (obind (w_ao v.2.2.1) fun b=>selim (fun(b:Int)=>cnd (decide (x.2.1<b)) (obind (w_ap (v.2.2.1.2.2.2.2.1,v.2.2.1.1,x.2.1,
 v.2.2.2.2)) fun b=>cnd (decide ((List.length v.2.2.2.1+List.length [(v.2.2.1.1,x.2.1)])*(16:Nat)≤(140737488355328:Nat))) (some (Sum.inl
 (v.1,v.2.1,(wr .i64 (x.2.1+(1:Int)),v.2.2.1.2.1,v.2.2.1.2.2.1,v.2.2.1.2.2.2.1,b,v.2.2.1.2.2.2.2.2),v.2.2.2.1++[(v.2.2.1.1,x.2.1)],
 v.2.2.2.2))) none) (obind (cnd (decide (v.2.2.1.1<b)) (obind (w_ap (v.2.2.1.2.2.2.2.1,v.2.2.1.1,wr .i64 (b-(1:Int)),v.2.2.2.2)) fun
 b_1=>cnd (decide ((List.length v.2.2.2.1+List.length [(v.2.2.1.1,wr .i64 (b-(1:Int)))])*(16:Nat)≤(140737488355328:Nat))) (some (v.1,
 v.2.1,(wr .i64 (wr .i64 (b-(1:Int))+(1:Int)),v.2.2.1.2.1,v.2.2.1.2.2.1,v.2.2.1.2.2.2.1,b_1,v.2.2.1.2.2.2.2.2),v.2.2.2.1++[(v.2.2.1.1,
 wr .i64 (b-(1:Int)))],v.2.2.2.2)) none) (some v)) fun(b:A0_×A0_×A0_×List (Int×Int)×Int)=>obind (w_q b.2.2.1) fun b_1=>some (Sum.inl (b.1,b.2.1,b_1.2,b.2.2.2)))) (fun(c:PUnit)=>obind (w_ap
 (v.2.2.1.2.2.2.2.1,v.2.2.1.1,x.2.1,v.2.2.2.2)) fun b=>cnd (decide ((List.length v.2.2.2.1+List.length [(v.2.2.1.1,x.2.1)])*(16:Nat) ≤
 (140737488355328:Nat))) (some (Sum.inl (v.1,v.2.1,(wr .i64 (x.2.1+(1:Int)),v.2.2.1.2.1,v.2.2.1.2.2.1,v.2.2.1.2.2.2.1,b,v.2.2.1.2.2.2.2.2),
 v.2.2.2.1++[(v.2.2.1.1,x.2.1)],v.2.2.2.2))) none) b) (some (Sum.inr (v.1,v.2.1,v.2.2.1,v.2.2.2.1)))) (x.1,((0:Int),(0:Int),[],[],[],
 (0:Int),(0:Int)),b,[],x.2.2)) fun(b:A0_×A0_×A0_×List (Int×Int))=>cnd (decide
 (b.2.2.1.1≠b.1.1)) (obind (w_7 ()) fun b_1=>some (b.2.2.2,b.2.2.1.1,b.2.2.1.2.1,b.2.2.1.2.2.1,b.2.2.1.2.2.2.1,b.2.2.1.2.2.2.2.1,
 b_1)) (some (b.2.2.2,b.2.2.1))))
theorem q_aK:∀w_b w_ao w_ap w_q w_7 N x,u_aK.F L0 P0 (orcOf [u_b.con w_b,u_ao.con w_ao,u_ap.con w_ap,u_q.con w_q,u_7.con w_7]) N x=V_aK w_b w_ao w_ap w_q w_7 N x:=by intros;kernel_rfl
def W_aK (N:Nat):=V_aK (W_b N) (W_ao N) (W_ap N) (W_q N) (W_7 N) N
theorem con_aK_ok (N:Nat):(u_aK.con (W_aK N)).ok P0:=Uf.ok mixed (q_aK (W_b N) (W_ao N) (W_ap N) (W_q N) (W_7 N) N) ⟨con_b_ok N,con_ao_ok N,con_ap_ok N,con_q_ok N,con_7_ok N,trivial⟩ Tryz.func101 (by kernel_rfl) fun x y=>by kernel_rfl
def u_8:Uf:=⟨86,59,Tryz.f86,[.val (.agg T1_),.val (.int .i64),.val (.int .i64)],[],
⟨[(6,.ptr 600006 0)],[(600006,.box 37 (.val T1_))]⟩,[],
[],
[(1000002,.reg [(6,[],⟨[(3,.ptr 600003 0),(6,.ptr 600006 0),(7,.ptr 600007 0),(21,.val .bool)],[(600003,.box 37 (.val T1_)),(600006,.box 37 (.val T1_)),(600007,.box 158 (.val (.int .i64)))]⟩),(5,[],⟨[(3,.ptr 600003 0),(6,.ptr 600006 0),(7,.ptr 600007 0),(26,.val .bool)],[(600003,.box 37 (.val T1_)),(600006,.box 37 (.val T1_)),(600007,.box 158 (.val (.int .i64)))]⟩)])],fun y=>(valW (.agg T1_) y,[],[])⟩
def V_8 (w_h:A0_→Option (Int⊕Unit)) (w_b:A0_→Option A0_) (w_k:A0_×Int→Option A0_) (w_aK:A0_×Int×Int→Option (List (Int×Int)×A0_)) (w_q:A0_→Option A5_) (N:Nat) (x:A0_×Int×Int):Option A0_:=
 obind (w_h x.1) fun b=>selim (fun(b:Int)=>obind (cnd (decide (x.2.1<(1:Int))) (some (true,x.1,((0:Int),(0:Int),[],[],[],
 (0:Int),(0:Int)),b)) (some (decide (x.2.2<x.2.1),x.1,((0:Int),(0:Int),[],[],[],(0:Int),(0:Int)),b))) fun(b:Bool×A0_×A0_×Int)=>cnd b.1 (obind (w_b b.2.1) fun b=>some b) (cnd
 (decide ((1000000:Int)<x.2.2)) (obind (w_b b.2.1) fun b=>some b) (obind (w_k (b.2.1,x.2.2)) fun b_1=>cnd (decide
 (b.2.2.2<x.2.1)) (some b_1) (cnd (decide (x.2.2<b.2.2.2)) (some b_1) (obind (w_aK (b_1,x.2.2,(1:Int))) fun b=>obind (w_q
 b.2) fun b=>some b.2))))) (fun(c:PUnit)=>obind (cnd true (some (true,x.1,((0:Int),(0:Int),[],[],[],(0:Int),(0:Int)),(0:Int))) (some
 (decide (x.2.2<x.2.1),x.1,((0:Int),(0:Int),[],[],[],(0:Int),(0:Int)),(0:Int)))) fun(b:Bool×A0_×A0_×Int)=>cnd b.1 (obind (w_b b.2.1) fun b=>some b) (cnd (decide ((1000000:Int) <
 x.2.2)) (obind (w_b b.2.1) fun b=>some b) (obind (w_k (b.2.1,x.2.2)) fun b_1=>cnd (decide (b.2.2.2<x.2.1)) (some b_1)
 (cnd (decide (x.2.2<b.2.2.2)) (some b_1) (obind (w_aK (b_1,x.2.2,(1:Int))) fun b=>obind (w_q b.2) fun b=>some b.2))))) b
theorem q_8:∀w_h w_b w_k w_aK w_q N x,u_8.F L0 P0 (orcOf [u_h.con w_h,u_b.con w_b,u_k.con w_k,u_aK.con w_aK,u_q.con w_q]) N x=V_8 w_h w_b w_k w_aK w_q N x:=by intros;kernel_rfl
def W_8 (N:Nat):=V_8 (W_h N) (W_b N) (W_k N) (W_aK N) (W_q N) N
theorem con_8_ok (N:Nat):(u_8.con (W_8 N)).ok P0:=Uf.ok mixed (q_8 (W_h N) (W_b N) (W_k N) (W_aK N) (W_q N) N) ⟨con_h_ok N,con_b_ok N,con_k_ok N,con_aK_ok N,con_q_ok N,trivial⟩ Tryz.func86 (by kernel_rfl) fun x y=>by kernel_rfl
def u_a7:Uf:=⟨40,81,Tryz.f40,[.val (.agg T2_),.val (.int .i64),.val (.agg T_)],[],
⟨[(6,.ptr 600006 0)],[(600006,.box 37 (.val T1_))]⟩,[],
[],
[],fun y=>(valW (.agg T1_) y,[],[])⟩
def V_a7 (w_aH:A0_×Int→Option A0_) (w_k:A0_×Int→Option A0_) (w_ak:A0_×Int×List UInt8→Option A0_) (w_8:A0_×Int×Int→Option A0_) (N:Nat) (x:A3_×Int×M_):Option A0_:=
 cnd (decide (x.1.2.2.2.1.2.2.2.1≠x.2.2.2.1)) (some x.1.2.2.2.2.1) (cnd (decide (x.2.2.1=(2:Int))) (cnd (decide (x.2.1≠x.2.2.2.1)) (obind
 (w_aH (x.1.2.2.2.2.1,x.2.2.2.2.2.2.2.2.2.1)) fun b=>obind (w_k (b,wr .i64 (x.2.2.2.2.2.2.2.2.2.1-(1:Int)))) fun b=>some
 b) (cnd (decide (x.2.2.1=(5:Int))) (obind (w_k (x.1.2.2.2.2.1,x.2.2.2.2.2.2.2.2.2.2.1)) fun b=>some b) (cnd (decide (x.2.2.1=
 (7:Int))) (cnd (decide (x.2.2.2.2.2.1=x.1.2.2.2.1.2.2.2.2.1)) (obind (w_ak (x.1.2.2.2.2.1,x.2.2.2.2.2.2.2.2.2.1,
 x.2.2.2.2.2.2.2.2.2.2.2)) fun b=>some b) (cnd (decide (x.2.2.1=(9:Int))) (cnd (decide (x.2.2.2.2.2.1=x.1.2.2.2.1.2.2.2.2.1)) (obind
 (w_8 (x.1.2.2.2.2.1,x.2.2.2.2.2.2.2.2.2.1,x.2.2.2.2.2.2.2.2.2.2.1)) fun b=>some b) (some x.1.2.2.2.2.1)) (some x.1.2.2.2.2.1))) (cnd
 (decide (x.2.2.1=(9:Int))) (cnd (decide (x.2.2.2.2.2.1=x.1.2.2.2.1.2.2.2.2.1)) (obind (w_8 (x.1.2.2.2.2.1,x.2.2.2.2.2.2.2.2.2.1,
 x.2.2.2.2.2.2.2.2.2.2.1)) fun b=>some b) (some x.1.2.2.2.2.1)) (some x.1.2.2.2.2.1))))) (cnd (decide (x.2.2.1=(5:Int))) (obind (w_k
 (x.1.2.2.2.2.1,x.2.2.2.2.2.2.2.2.2.2.1)) fun b=>some b) (cnd (decide (x.2.2.1=(7:Int))) (cnd (decide (x.2.2.2.2.2.1=x.1.2.2.2.1.2.2.2.2.1))
 (obind (w_ak (x.1.2.2.2.2.1,x.2.2.2.2.2.2.2.2.2.1,x.2.2.2.2.2.2.2.2.2.2.2)) fun b=>some b) (cnd (decide (x.2.2.1=(9:Int))) (cnd
 (decide (x.2.2.2.2.2.1=x.1.2.2.2.1.2.2.2.2.1)) (obind (w_8 (x.1.2.2.2.2.1,x.2.2.2.2.2.2.2.2.2.1,x.2.2.2.2.2.2.2.2.2.2.1)) fun b=>
 some b) (some x.1.2.2.2.2.1)) (some x.1.2.2.2.2.1))) (cnd (decide (x.2.2.1=(9:Int))) (cnd (decide (x.2.2.2.2.2.1=x.1.2.2.2.1.2.2.2.2.1)) (obind
 (w_8 (x.1.2.2.2.2.1,x.2.2.2.2.2.2.2.2.2.1,x.2.2.2.2.2.2.2.2.2.2.1)) fun b=>some b) (some x.1.2.2.2.2.1)) (some x.1.2.2.2.2.1)))))
theorem q_a7:∀w_aH w_k w_ak w_8 N x,u_a7.F L0 P0 (orcOf [u_aH.con w_aH,u_k.con w_k,u_ak.con w_ak,u_8.con w_8]) N x=V_a7 w_aH w_k w_ak w_8 N x:=by intros;kernel_rfl
def W_a7 (N:Nat):=V_a7 (W_aH N) (W_k N) (W_ak N) (W_8 N) N
theorem con_a7_ok (N:Nat):(u_a7.con (W_a7 N)).ok P0:=Uf.ok mixed (q_a7 (W_aH N) (W_k N) (W_ak N) (W_8 N) N) ⟨con_aH_ok N,con_k_ok N,con_ak_ok N,con_8_ok N,trivial⟩ Tryz.func40 (by kernel_rfl) fun x y=>by kernel_rfl
def u_Q:Uf:=⟨17,70,Tryz.f17,[.val (.agg T2_),.val (.list (.int .u8))],[],
⟨[(4,.ptr 600004 0),(5,.val (.list (.agg T_)))],[(600004,.box 39 (.val T2_))]⟩,[],
[],
[],fun y=>(.tup [valW (.agg T2_) y.2,valW (.list (.agg T_)) y.1],[],[])⟩
def V_Q (w_o:A3_→Option A3_) (w_a8:A3_×List Int→Option ((M_)⊕Unit)) (w_ba:A1_×(M_)×Int→Option (A1_×List (M_))) (w_a6:A3_×M_→Option (List (M_))) (w_a7:A3_×Int×M_→Option A0_) (w_L:A3_×A0_→Option (List (M_))) (N:Nat) (x:A3_×List Int):Option (List (M_)×A3_):=
 obind (w_o x.1) fun b=>cnd (!x.1.1) (some ([],b)) (obind (w_a8 x) fun b_1=>selim (fun(b_2:A2_)=>obind (w_ba (x.1.2.2.2.1,b_2,max x.1.2.2.2.2.1.1 (1:Int))) fun b_3=>cnd (decide (b_2.1=
 (8:Int))) (obind (w_a6 ((b.1,b.2.1,b.2.2.1,b_3.1,b.2.2.2.2),b_2)) fun b_4=>cnd (decide ((List.length b_3.2+List.length b_4) *
 (104:Nat)≤(140737488355328:Nat))) (some (b_3.2++b_4,b.1,b.2.1,b.2.2.1,b_3.1,b.2.2.2.2)) none) (obind (w_a7 ((b.1,b.2.1,b.2.2.1,
 b_3.1,b.2.2.2.2),x.1.2.2.2.1.2.2.2.1,b_2)) fun b_4=>obind (w_L ((b.1,b.2.1,b.2.2.1,b_3.1,b_4,b.2.2.2.2.2),x.1.2.2.2.2.1))
 fun b_5=>cnd (decide ((List.length b_3.2+List.length b_5)*(104:Nat)≤(140737488355328:Nat))) (some (b_3.2++b_5,b.1,b.2.1,b.2.2.1,b_3.1,
 b_4,b.2.2.2.2.2)) none)) (fun(c:PUnit)=>cnd (decide (b.2.2.2.2.2<(1073741824:Int))) (some ([],b.1,b.2.1,b.2.2.1,b.2.2.2.1,b.2.2.2.2.1,
 wr .i64 (b.2.2.2.2.2+(1:Int)))) (some ([],b))) b_1)
theorem q_Q:∀w_o w_a8 w_ba w_a6 w_a7 w_L N x,u_Q.F L0 P0 (orcOf [u_o.con w_o,u_a8.con w_a8,u_ba.con w_ba,u_a6.con w_a6,u_a7.con w_a7,u_L.con w_L]) N x=V_Q w_o w_a8 w_ba w_a6 w_a7 w_L N x:=by intros;kernel_rfl
def W_Q (N:Nat):=V_Q (W_o N) (W_a8 N) (W_ba N) (W_a6 N) (W_a7 N) (W_L N) N
theorem con_Q_ok (N:Nat):(u_Q.con (W_Q N)).ok P0:=Uf.ok mixed (q_Q (W_o N) (W_a8 N) (W_ba N) (W_a6 N) (W_a7 N) (W_L N) N) ⟨con_o_ok N,con_a8_ok N,con_ba_ok N,con_a6_ok N,con_a7_ok N,con_L_ok N,trivial⟩ Tryz.func17 (by kernel_rfl) fun x y=>by kernel_rfl
def u_bC:Uf:=⟨24,13,Tryz.f24,[.val (.agg T2_)],[],
⟨[(2,.ptr 600002 0)],[(600002,.box 39 (.val T2_))]⟩,[],
[],
[],fun y=>(valW (.agg T2_) y,[],[])⟩
def V_bC (w_o:A3_→Option A3_) (N:Nat) (x:A3_):Option A3_:=
 cnd (!x.1) (obind (w_o x) fun b=>some b) (some (false,x.2.1,[],((0:Int),(0:Int),(0:Int),(0:Int),(0:Int),(0:Int),[],(0:Int),(0:Int),(0:Int),(0:Int),(0:Int),[]),((0:Int),(0:Int),[],[],[],(0:Int),(0:Int)),x.2.2.2.2.2))
theorem q_bC:∀w_o N x,u_bC.F L0 P0 (orcOf [u_o.con w_o]) N x=V_bC w_o N x:=by intros;kernel_rfl
def W_bC (N:Nat):=V_bC (W_o N) N
theorem con_bC_ok (N:Nat):(u_bC.con (W_bC N)).ok P0:=Uf.ok mixed (q_bC (W_o N) N) ⟨con_o_ok N,trivial⟩ Tryz.func24 (by kernel_rfl) fun x y=>by kernel_rfl
def u_bu:Uf:=⟨9,85,Tryz.f9,[],[],
⟨[(0,.val .bool)],[]⟩,[],
[],
[(1000006,.reg [(5,[6,9],⟨[(1,.ptr 600001 0),(5,.ptr 600005 0),(8,.ptr 600008 0),(10,.ptr 600010 0),(40,.val .bool)],[(600001,.box 39 (.val T2_)),(600005,.box 39 (.val T2_)),(600008,.box 39 (.val T2_)),(600010,.box 39 (.val T2_))]⟩),(5,[6,9],⟨[(5,.ptr 600005 0),(8,.ptr 600008 0),(10,.ptr 600010 0),(45,.val .bool)],[(600005,.box 39 (.val T2_)),(600008,.box 39 (.val T2_)),(600010,.box 39 (.val T2_))]⟩),(4,[6,9],⟨[(5,.ptr 600005 0),(8,.ptr 600008 0),(10,.ptr 600010 0),(49,.val .bool)],[(600005,.box 39 (.val T2_)),(600008,.box 39 (.val T2_)),(600010,.box 39 (.val T2_))]⟩),(3,[6,9],⟨[(5,.ptr 600005 0),(8,.ptr 600008 0),(10,.ptr 600010 0),(52,.val .bool)],[(600005,.box 39 (.val T2_)),(600008,.box 39 (.val T2_)),(600010,.box 39 (.val T2_))]⟩),(5,[9],⟨[(5,.ptr 600005 0),(8,.ptr 600008 0),(10,.ptr 600010 0),(57,.val .bool)],[(600005,.box 39 (.val T2_)),(600008,.box 39 (.val T2_)),(600010,.box 39 (.val T2_))]⟩),(7,[9],⟨[(8,.ptr 600008 0),(10,.ptr 600010 0),(64,.val .bool)],[(600008,.box 39 (.val T2_)),(600010,.box 39 (.val T2_))]⟩),(5,[9],⟨[(10,.ptr 600010 0),(69,.val .bool)],[(600010,.box 39 (.val T2_))]⟩),(5,[],⟨[(10,.ptr 600010 0),(74,.val .bool)],[(600010,.box 39 (.val T2_))]⟩),(5,[],⟨[(10,.ptr 600010 0),(79,.val .bool)],[(600010,.box 39 (.val T2_))]⟩)])],fun y=>(valW .bool y,[],[])⟩
def V_bu (w_bv:A3_×Int×List UInt8×Int→Option (Bool×A3_)) (w_bF:A3_×List UInt8→Option (List (M_)×Bool×A3_)) (w_Q:A3_×List Int→Option (List (M_)×A3_)) (w_bC:A3_→Option A3_) (N:Nat) (x:Unit):Option (Bool):=
 obind (w_bv ((false,(0:Int),[],((0:Int),(0:Int),(0:Int),(0:Int),(0:Int),(0:Int),[],(0:Int),(0:Int),(0:Int),(0:Int),(0:Int),
 []),((0:Int),(0:Int),[],[],[],(0:Int),(0:Int)),(0:Int)),(1:Int),[(97:UInt8)],(0:Int))) fun b=>obind (w_bv (b.2,(1:Int),
 [(97:UInt8)],(0:Int))) fun b_1=>obind (w_bF (b.2,[(120:UInt8)])) fun b_2=>obind (w_Q (b.2,[(121:Int)])) fun b_3=>
 obind (w_bC b.2) fun b_4=>obind (cnd b.1 (some (b.2.1,b.2,b_2.2.2,b_3.2,b_4)) (some (false,b.2,b_2.2.2,b_3.2,b_4))) fun(b:
 Bool×A3_×A3_×A3_×A3_)=>obind (cnd b.1 (some (decide (b.2.1.2.1=(1:Int)),b.2.2)) (some (false,b.2.2))) fun(b:Bool×A3_×A3_×A3_)=>obind (cnd b.1 (some (!b_1.1,b.2)) (some (false,b.2))) fun(b:Bool×A3_×A3_×A3_)=>obind (cnd b.1 (some
 (b_2.2.1,b.2)) (some (false,b.2))) fun(b:Bool×A3_×A3_×A3_)=>obind (cnd b.1 (some (decide ((↑(List.length b_2.1):
 Int)=(0:Int)),b.2)) (some (false,b.2))) fun(b:Bool×A3_×A3_×A3_)=>obind (cnd b.1 (some (decide
 ((↑(List.length b.2.1.2.2.2.2.1.2.2.2.2.1):Int)=(1:Int)),b.2.2)) (some (false,b.2.2))) fun(b:Bool×A3_×A3_)=>obind (cnd b.1 (some (decide (b.2.1.2.2.2.2.2=(1:Int)),b.2.2)) (some (false,b.2.2))) fun(b:Bool×A3_)=>obind (cnd b.1 (some (decide
 ((↑(List.length b_3.1):Int)=(0:Int)),b.2)) (some (false,b.2))) fun(b:Bool×A3_)=>obind (cnd b.1 (some (!b.2.1,b.2)) (some (false,b.2))) fun(b:Bool×A3_)=>cnd b.1 (some (decide (b.2.2.1=(1:Int)))) (some false)
theorem q_bu:∀w_bv w_bF w_Q w_bC N x,u_bu.F L0 P0 (orcOf [u_bv.con w_bv,u_bF.con w_bF,u_Q.con w_Q,u_bC.con w_bC]) N x=V_bu w_bv w_bF w_Q w_bC N x:=by intros;kernel_rfl
def W_bu (N:Nat):=V_bu (W_bv N) (W_bF N) (W_Q N) (W_bC N) N
theorem con_bu_ok (N:Nat):(u_bu.con (W_bu N)).ok P0:=Uf.ok mixed (q_bu (W_bv N) (W_bF N) (W_Q N) (W_bC N) N) ⟨con_bv_ok N,con_bF_ok N,con_Q_ok N,con_bC_ok N,trivial⟩ Tryz.func9 (by kernel_rfl) fun x y=>by kernel_rfl
def u_4:Uf:=⟨10,6,Tryz.f10,[.val (.list (.int .u8))],[],
⟨[(2,.ptr 600005 0)],[(600005,.box 72 (.val T6_))]⟩,[],
[],
[],fun y=>(.ptr 2000000 0 0,[],[.box 72 (cellsW T6_ y)])⟩
def V_4 (N:Nat) (x:List Int):Option (List Int×Int):=
 some (x,(0:Int))
theorem q_4:∀N x,u_4.F L0 P0 (orcOf []) N x=V_4 N x:=by intros;kernel_rfl
def W_4 (N:Nat):=V_4 N
theorem con_4_ok (N:Nat):(u_4.con (W_4 N)).ok P0:=Uf.ok mixed (q_4 N) trivial Tryz.func10 (by kernel_rfl) fun x y=>by kernel_rfl
def u_a:Uf:=⟨25,40,Tryz.f25,[.ptr 0 0,.val (.int .i64)],[.box 72 T6_],
⟨[(0,.ptr 1000000 0),(4,.val (.int .i64))],[(1000000,.box 72 (.val T6_))]⟩,[true],
[],
[],fun y=>(valW (.int .i64) y.1,[.box 72 (cellsW T6_ y.2)],[])⟩
def V_a (N:Nat) (x:Int×List Int×Int):Option (Int×List Int×Int):=
 cnd (decide ((↑(List.length x.2.1):Int)≤x.2.2)) (some ((0:Int),x.2)) (cnd (decide (x.1<(1:Int))) (some ((0:Int),x.2)) (cnd (decide ((0:Int) ≤
 wr .i64 (wr .i64 (x.2.2+(1:Int))-(1:Int)))&&decide (wr .i64 (wr .i64 (x.2.2+(1:Int))-(1:Int))<(↑(List.length x.2.1):Int))) (cnd
 (!decide (x.1=(0:Int))) (some (Int.tmod (wr .i64 (List.getD x.2.1 (Int.toNat (wr .i64 (wr .i64 (x.2.2+(1:Int))-(1:Int)))) (0:Int))) x.1,
 x.2.1,wr .i64 (x.2.2+(1:Int)))) none) none))
theorem q_a:∀N x,u_a.F L0 P0 (orcOf []) N x=V_a N x:=by intros;kernel_rfl
def W_a (N:Nat):=V_a N
theorem con_a_ok (N:Nat):(u_a.con (W_a N)).ok P0:=Uf.ok mixed (q_a N) trivial Tryz.func25 (by kernel_rfl) fun x y=>by kernel_rfl
def u_bB:Uf:=⟨112,86,Tryz.f112,[.val .str],[],
⟨[(2,.val (.int .i64)),(3,.val (.int .i64))],[]⟩,[],
[(15,.loop [] ⟨[(4,.val (.int .i64)),(7,.val (.int .i64))],[]⟩ [(.exit 1,⟨[(4,.val (.int .i64))],[]⟩),(.ret,⟨[(2,.val (.int .i64)),(3,.val (.int .i64))],[]⟩)])],
[(1000020,.reg [(7,[],⟨[(75,.val .bool)],[]⟩)]),
(12,.cut [] [(.normal,⟨[(4,.val (.int .i64)),(5,.val (.int .i64)),(6,.val (.int .i64))],[]⟩),(.ret,⟨[(2,.val (.int .i64)),(3,.val (.int .i64))],[]⟩)])],fun y=>(.tup [valW (.int .i64) y.1,valW (.int .i64) y.2],[],[])⟩
def V_bB (N:Nat) (x:List UInt8):Option (Int×Int):=
 cnd (decide ((0:Int)≤(0:Int))&&decide ((0:Int)<(↑(List.length x):Int))) (obind (cnd (decide (wr .i64 (↑(UInt8.toNat (List.getD x (0:Nat) (0:
 UInt8))):Int)<(128:Int))) (some (Sum.inr (wr .i64 (↑(UInt8.toNat (List.getD x (0:Nat) (0:UInt8))):Int),(1:Int)))) (cnd (decide ((194:Int) ≤
 wr .i64 (↑(UInt8.toNat (List.getD x (0:Nat) (0:UInt8))):Int))) (cnd (decide (wr .i64 (↑(UInt8.toNat (List.getD x (0:Nat) (0:UInt8))):Int) ≤
 (223:Int))) (some (Sum.inl (wr .i64 (wr .i64 (↑(UInt8.toNat (List.getD x (0:Nat) (0:UInt8))):Int)-(192:Int)),(2:Int),(128:Int)))) (cnd
 (decide ((224:Int)≤wr .i64 (↑(UInt8.toNat (List.getD x (0:Nat) (0:UInt8))):Int))) (cnd (decide (wr .i64 (↑(UInt8.toNat (List.getD x (0:Nat) (0
 : UInt8))):Int)≤(239:Int))) (some (Sum.inl (wr .i64 (wr .i64 (↑(UInt8.toNat (List.getD x (0:Nat) (0:UInt8))):Int)-(224:Int)),(3:Int),
 (2048:Int)))) (cnd (decide ((240:Int)≤wr .i64 (↑(UInt8.toNat (List.getD x (0:Nat) (0:UInt8))):Int))) (cnd (decide (wr .i64 (↑(UInt8.toNat
 (List.getD x (0:Nat) (0:UInt8))):Int)≤(244:Int))) (some (Sum.inl (wr .i64 (wr .i64 (↑(UInt8.toNat (List.getD x (0:Nat) (0:UInt8))):Int) -
 (240:Int)),(4:Int),(65536:Int)))) (some (Sum.inr ((-1:Int),(1:Int))))) (some (Sum.inr ((-1:Int),(1:Int)))))) (cnd (decide ((240:Int)≤wr
 .i64 (↑(UInt8.toNat (List.getD x (0:Nat) (0:UInt8))):Int))) (cnd (decide (wr .i64 (↑(UInt8.toNat (List.getD x (0:Nat) (0:UInt8))):Int) ≤
 (244:Int))) (some (Sum.inl (wr .i64 (wr .i64 (↑(UInt8.toNat (List.getD x (0:Nat) (0:UInt8))):Int)-(240:Int)),(4:Int),(65536:Int)))) (some
 (Sum.inr ((-1:Int),(1:Int))))) (some (Sum.inr ((-1:Int),(1:Int))))))) (cnd (decide ((224:Int)≤wr .i64 (↑(UInt8.toNat (List.getD x (0:Nat) (0
 : UInt8))):Int))) (cnd (decide (wr .i64 (↑(UInt8.toNat (List.getD x (0:Nat) (0:UInt8))):Int)≤(239:Int))) (some (Sum.inl (wr .i64 (wr .i64
 (↑(UInt8.toNat (List.getD x (0:Nat) (0:UInt8))):Int)-(224:Int)),(3:Int),(2048:Int)))) (cnd (decide ((240:Int)≤wr .i64 (↑(UInt8.toNat
 (List.getD x (0:Nat) (0:UInt8))):Int))) (cnd (decide (wr .i64 (↑(UInt8.toNat (List.getD x (0:Nat) (0:UInt8))):Int)≤(244:Int))) (some
 (Sum.inl (wr .i64 (wr .i64 (↑(UInt8.toNat (List.getD x (0:Nat) (0:UInt8))):Int)-(240:Int)),(4:Int),(65536:Int)))) (some (Sum.inr ((-1:
 Int),(1:Int))))) (some (Sum.inr ((-1:Int),(1:Int)))))) (cnd (decide ((240:Int)≤wr .i64 (↑(UInt8.toNat (List.getD x (0:Nat) (0:UInt8))):
 Int))) (cnd (decide (wr .i64 (↑(UInt8.toNat (List.getD x (0:Nat) (0:UInt8))):Int)≤(244:Int))) (some (Sum.inl (wr .i64 (wr .i64 (↑(UInt8.toNat
 (List.getD x (0:Nat) (0:UInt8))):Int)-(240:Int)),(4:Int),(65536:Int)))) (some (Sum.inr ((-1:Int),(1:Int))))) (some (Sum.inr ((-1:Int),
 (1:Int)))))))) fun(b:Int×Int×Int⊕Int×Int)=>selim (fun(b:Int×Int×Int)=>cnd (decide ((↑(List.length x):Int)<b.2.1)) (some
 ((-1:Int),(1:Int))) (obind (loopN N (fun(v:Int×Int)=>cnd (decide (v.2<b.2.1)) (cnd (decide ((0:Int)≤v.2)&&decide (v.2 <
 (↑(List.length x):Int))) (cnd (decide ((↑(UInt8.toNat (List.getD x (Int.toNat v.2) (0:UInt8))):Int)<(128:Int))) (some (Sum.inr (Sum.inr ((-1
 : Int),(1:Int))))) (cnd (decide ((0:Int)≤v.2)&&decide (v.2<(↑(List.length x):Int))) (cnd (decide ((191:Int)<(↑(UInt8.toNat (List.getD x
 (Int.toNat v.2) (0:UInt8))):Int))) (some (Sum.inr (Sum.inr ((-1:Int),(1:Int))))) (cnd (decide ((0:Int)≤v.2)&&decide (v.2<(↑(List.length
 x):Int))) (some (Sum.inl (wr .i64 (wr .i64 (wr .i64 (v.1*(64:Int))+wr .i64 (↑(UInt8.toNat (List.getD x (Int.toNat v.2) (0:UInt8))):Int)) -
 (128:Int)),wr .i64 (v.2+(1:Int))))) none)) none)) none) (some (Sum.inr (Sum.inl v.1)))) (b.1,(1:Int))) fun(b_1:Int⊕Int×Int)=>selim (fun
 (b_2:Int)=>obind (cnd (decide (b_2<b.2.2)) (some true) (some (decide ((1114111:Int)<b_2)))) fun(b_3:Bool)=>cnd b_3 (some ((-1:Int),
 (1:Int))) (cnd (decide ((55296:Int)≤b_2)) (cnd (decide (b_2≤(57343:Int))) (some ((-1:Int),(1:Int))) (some (b_2,b.2.1))) (some (b_2,
 b.2.1)))) (fun(c:Int×Int)=>some c) b_1)) (fun(c:Int×Int)=>some c) b) none
theorem q_bB:∀N x,u_bB.F L0 P0 (orcOf []) N x=V_bB N x:=by intros;kernel_rfl
def W_bB (N:Nat):=V_bB N
theorem con_bB_ok (N:Nat):(u_bB.con (W_bB N)).ok P0:=Uf.ok mixed (q_bB N) trivial Tryz.func112 (by kernel_rfl) fun x y=>by kernel_rfl
def u_bz:Uf:=⟨55,22,Tryz.f55,[.val .str],[],
⟨[(2,.val (.list (.int .i64)))],[]⟩,[],
[(2,.loop [] ⟨[(0,.val .str),(3,.acc 700003)],[(700003,.nrow 3 (.int .i64) true true)]⟩ [(.exit 0,⟨[(3,.val (.list (.int .i64)))],[]⟩)])],
[],fun y=>(valW (.list (.int .i64)) y,[],[])⟩
def V_bz (w_bB:List UInt8→Option (Int×Int)) (N:Nat) (x:List UInt8):Option (List Int):=
 obind (loopN N (fun(v:List UInt8×List Int)=>cnd (decide ((0:Int)<(↑(List.length v.1):Int))) (obind (w_bB v.1) fun b=>cnd
 (decide ((List.length v.2+List.length [b.1])*(8:Nat)≤(140737488355328:Nat))) (cnd (decide ((0:Int)≤b.2)&&decide (b.2≤(↑(List.length v.1)
 : Int))) (some (Sum.inl (List.drop (Int.toNat b.2) (List.take (List.length v.1) v.1),v.2++[b.1]))) none) none) (some (Sum.inr v.2))) (x,[])) fun
 (b:List Int)=>some b
theorem q_bz:∀w_bB N x,u_bz.F L0 P0 (orcOf [u_bB.con w_bB]) N x=V_bz w_bB N x:=by intros;kernel_rfl
def W_bz (N:Nat):=V_bz (W_bB N) N
theorem con_bz_ok (N:Nat):(u_bz.con (W_bz N)).ok P0:=Uf.ok mixed (q_bz (W_bB N) N) ⟨con_bB_ok N,trivial⟩ Tryz.func55 (by kernel_rfl) fun x y=>by kernel_rfl
def u_bw:Uf:=⟨29,40,Tryz.f29,[.val .str],[],
⟨[(2,.val .bool)],[]⟩,[],
[(3,.loop [3] ⟨[(4,.val (.int .i64))],[]⟩ [(.exit 0,⟨[],[]⟩),(.ret,⟨[(2,.val .bool)],[]⟩)])],
[],fun y=>(valW .bool y,[],[])⟩
def V_bw (w_bz:List UInt8→Option (List Int)) (N:Nat) (x:List UInt8):Option (Bool):=
 obind (w_bz x) fun b=>obind (loopN N (fun(v:Int)=>cnd (decide (v<(↑(List.length b):Int))) (cnd (decide ((0:Int)≤v)&&decide
 (v<(↑(List.length b):Int))) (cnd (decide (List.getD b (Int.toNat v) (0:Int)<(33:Int))) (some (Sum.inr (Sum.inr false))) (cnd (decide ((0:Int)
 ≤ v)&&decide (v<(↑(List.length b):Int))) (cnd (decide ((127:Int)≤List.getD b (Int.toNat v) (0:Int))) (cnd (decide ((0:Int)≤v)&&decide (v
 < (↑(List.length b):Int))) (cnd (decide (List.getD b (Int.toNat v) (0:Int)≤(159:Int))) (some (Sum.inr (Sum.inr false))) (some (Sum.inl (wr .i64
 (v+(1:Int)))))) none) (some (Sum.inl (wr .i64 (v+(1:Int)))))) none)) none) (some (Sum.inr (Sum.inl ())))) (Int.ofNat (0:Nat))) fun(b_1:PUnit
 ⊕ Bool)=>selim (fun(b_2:PUnit)=>cnd (decide ((1:Int)≤(↑(List.length b):Int))) (some (decide ((↑(List.length b):Int)≤(8:Int)))) (some
 false)) (fun(c:Bool)=>some c) b_1
theorem q_bw:∀w_bz N x,u_bw.F L0 P0 (orcOf [u_bz.con w_bz]) N x=V_bw w_bz N x:=by intros;kernel_rfl
def W_bw (N:Nat):=V_bw (W_bz N) N
theorem con_bw_ok (N:Nat):(u_bw.con (W_bw N)).ok P0:=Uf.ok mixed (q_bw (W_bz N) N) ⟨con_bz_ok N,trivial⟩ Tryz.func29 (by kernel_rfl) fun x y=>by kernel_rfl
def u_y:Uf:=⟨30,22,Tryz.f30,[.val (.int .i64),.val (.int .i64),.val (.int .i64),.val (.int .i64)],[],
⟨[(8,.ptr 600008 0)],[(600008,.box 31 (.val T0_))]⟩,[],
[],
[],fun y=>(valW (.agg T0_) y,[],[])⟩
def V_y (N:Nat) (x:Int×Int×Int×Int):Option A1_:=
 cnd (decide (x.1=(1:Int))) (some (x.1,x.2.1,x.2.2.1,(0:Int),(0:Int),x.2.2.2,[(1:Int)],(0:Int),x.2.2.1,(0:Int),(0:Int),(0:Int),[])) (some (x.1,x.2.1,x.2.2.1,(0:Int),(0:Int),x.2.2.2,[],(0:Int),(0:Int),(0:Int),(0:Int),(0:Int),[]))
theorem q_y:∀N x,u_y.F L0 P0 (orcOf []) N x=V_y N x:=by intros;kernel_rfl
def W_y (N:Nat):=V_y N
theorem con_y_ok (N:Nat):(u_y.con (W_y N)).ok P0:=Uf.ok mixed (q_y N) trivial Tryz.func30 (by kernel_rfl) fun x y=>by kernel_rfl
def u_a2:Uf:=⟨13,42,Tryz.f13,[.val (.agg T2_),.val (.int .i64),.val .str,.val (.int .i64)],[],
⟨[(8,.ptr 600008 0),(9,.val .bool)],[(600008,.box 39 (.val T2_))]⟩,[],
[],
[(1000001,.reg [(7,[],⟨[(4,.ptr 600004 0),(8,.ptr 600008 0),(16,.val .bool)],[(600004,.box 39 (.val T2_)),(600008,.box 39 (.val T2_))]⟩),(4,[],⟨[(4,.ptr 600004 0),(8,.ptr 600008 0),(20,.val .bool)],[(600004,.box 39 (.val T2_)),(600008,.box 39 (.val T2_))]⟩),(4,[],⟨[(4,.ptr 600004 0),(8,.ptr 600008 0),(24,.val .bool)],[(600004,.box 39 (.val T2_)),(600008,.box 39 (.val T2_))]⟩)])],fun y=>(.tup [valW (.agg T2_) y.2,valW .bool y.1],[],[])⟩
def V_a2 (w_bw:List UInt8→Option (Bool)) (w_y:Int×Int×Int×Int→Option A1_) (N:Nat) (x:A3_×Int×List UInt8×Int):Option (Bool×A3_):=
 obind (cnd x.1.1 (some (true,x.1,false,(0:Int),[],((0:Int),(0:Int),(0:Int),(0:Int),(0:Int),(0:Int),[],(0:Int),(0:Int),(0:Int),(0:Int),
 (0:Int),[]),((0:Int),(0:Int),[],[],[],(0:Int),(0:Int)),(0:Int))) (obind (w_bw x.2.2.1) fun b=>some (!b,x.1,false,(0:Int),[],
 ((0:Int),(0:Int),(0:Int),(0:Int),(0:Int),(0:Int),[],(0:Int),(0:Int),(0:Int),(0:Int),(0:Int),[]),((0:Int),(0:Int),[],[],[],(0:Int),
 (0:Int)),(0:Int)))) fun(b:Bool×A3_×A3_)=>obind (cnd b.1 (some (true,
 b.2)) (some (decide (x.2.1<(1:Int)),b.2))) fun(b:Bool×A3_×A3_)=>obind (cnd
 b.1 (some (true,b.2)) (some (decide ((8:Int)<x.2.1),b.2))) fun(b:Bool×A3_×A3_)=>cnd b.1 (some (false,b.2.1)) (cnd (decide ((1073741824:Int)≤b.2.1.2.1)) (some (false,b.2.1)) (obind (w_y (x.2.1,wr .i64
 (b.2.1.2.1+(1:Int)),(0:Int),x.2.2.2)) fun b_1=>some (true,true,wr .i64 (b.2.1.2.1+(1:Int)),x.2.2.1,b_1,((0:Int),(0:Int),[],[],[],
 (0:Int),(0:Int)),(0:Int))))
theorem q_a2:∀w_bw w_y N x,u_a2.F L0 P0 (orcOf [u_bw.con w_bw,u_y.con w_y]) N x=V_a2 w_bw w_y N x:=by intros;kernel_rfl
def W_a2 (N:Nat):=V_a2 (W_bw N) (W_y N) N
theorem con_a2_ok (N:Nat):(u_a2.con (W_a2 N)).ok P0:=Uf.ok mixed (q_a2 (W_bw N) (W_y N) N) ⟨con_bw_ok N,con_y_ok N,trivial⟩ Tryz.func13 (by kernel_rfl) fun x y=>by kernel_rfl
def u_3:Uf:=⟨60,13,Tryz.f60,[.ptr 0 0],[.box 72 T6_],
⟨[(0,.ptr 1000000 0),(2,.val .bool)],[(1000000,.box 72 (.val T6_))]⟩,[true],
[],
[],fun y=>(valW .bool y.1,[.box 72 (cellsW T6_ y.2)],[])⟩
def V_3 (N:Nat) (x:List Int×Int):Option (Bool×List Int×Int):=
 some (decide ((↑(List.length x.1):Int)≤x.2),x)
theorem q_3:∀N x,u_3.F L0 P0 (orcOf []) N x=V_3 N x:=by intros;kernel_rfl
def W_3 (N:Nat):=V_3 N
theorem con_3_ok (N:Nat):(u_3.con (W_3 N)).ok P0:=Uf.ok mixed (q_3 N) trivial Tryz.func60 (by kernel_rfl) fun x y=>by kernel_rfl
def u_aJ:Uf:=⟨113,29,Tryz.f113,[.val (.list (.agg T3_)),.val (.int .i64)],[],
⟨[(4,.val (.list (.agg T3_)))],[]⟩,[],
[(3,.loop [] ⟨[(5,.acc 700005),(6,.val (.int .i64))],[(700005,.nrow 53 (.agg T3_) true true)]⟩ [(.exit 0,⟨[(5,.val (.list (.agg T3_)))],[]⟩)])],
[],fun y=>(valW (.list (.agg T3_)) y,[],[])⟩
def V_aJ (N:Nat) (x:List (Int×Int×Int)×Int):Option (List (Int×Int×Int)):=
 obind (loopN N (fun(v:Int×List (Int×Int×Int))=>cnd (decide (v.1<(↑(List.length x.1):Int))) (cnd (decide ((0:Int)≤v.1)&&decide (v.1
 < (↑(List.length x.1):Int))) (cnd (decide (wr .i64 (x.2-Prod.snd (Prod.snd (List.getD x.1 (Int.toNat v.1) ((0:Int),(0:Int),(0:Int))))) ≤
 (20:Int))) (cnd (decide ((0:Int)≤v.1)&&decide (v.1<(↑(List.length x.1):Int))) (cnd (decide ((List.length v.2+List.length [(Prod.fst
 (List.getD x.1 (Int.toNat v.1) ((0:Int),(0:Int),(0:Int))),Prod.fst (Prod.snd (List.getD x.1 (Int.toNat v.1) ((0:Int),(0:Int),(0:Int)))),
 Prod.snd (Prod.snd (List.getD x.1 (Int.toNat v.1) ((0:Int),(0:Int),(0:Int)))))])*(24:Nat)≤(140737488355328:Nat))) (some (Sum.inl (wr .i64 (v.1
 + (1:Int)),v.2++[(Prod.fst (List.getD x.1 (Int.toNat v.1) ((0:Int),(0:Int),(0:Int))),Prod.fst (Prod.snd (List.getD x.1 (Int.toNat v.1)
 ((0:Int),(0:Int),(0:Int)))),Prod.snd (Prod.snd (List.getD x.1 (Int.toNat v.1) ((0:Int),(0:Int),(0:Int)))))]))) none) none) (some (Sum.inl (wr
 .i64 (v.1+(1:Int)),v.2)))) none) (some (Sum.inr v.2))) ((0:Int),[])) fun(b:List (Int×Int×Int))=>some b
theorem q_aJ:∀N x,u_aJ.F L0 P0 (orcOf []) N x=V_aJ N x:=by intros;kernel_rfl
def W_aJ (N:Nat):=V_aJ N
theorem con_aJ_ok (N:Nat):(u_aJ.con (W_aJ N)).ok P0:=Uf.ok mixed (q_aJ N) trivial Tryz.func113 (by kernel_rfl) fun x y=>by kernel_rfl
def u_E:Uf:=⟨114,19,Tryz.f114,[.val (.agg T0_)],[],
⟨[(2,.val .bool)],[]⟩,[],
[],
[],fun y=>(valW .bool y,[],[])⟩
def V_E (N:Nat) (x:A1_):Option (Bool):=
 cnd (decide (x.1=(1:Int))) (some true) (cnd (decide (x.2.2.2.1≠(0:Int))) (some (decide (wr .i64 (x.2.2.1-x.2.2.2.2.2.2.2.2.1)≤(20:Int)))) (some false))
theorem q_E:∀N x,u_E.F L0 P0 (orcOf []) N x=V_E N x:=by intros;kernel_rfl
def W_E (N:Nat):=V_E N
theorem con_E_ok (N:Nat):(u_E.con (W_E N)).ok P0:=Uf.ok mixed (q_E N) trivial Tryz.func114 (by kernel_rfl) fun x y=>by kernel_rfl
def u_U:Uf:=⟨115,12,Tryz.f115,[.val (.agg T0_),.val (.int .i64)],[],
⟨[(4,.ptr 600004 0)],[(600004,.box 31 (.val T0_))]⟩,[],
[],
[],fun y=>(valW (.agg T0_) y,[],[])⟩
def V_U (N:Nat) (x:A1_×Int):Option A1_:=
 some (x.1.1,x.1.2.1,x.1.2.2.1,(0:Int),(0:Int),x.1.2.2.2.2.2.1,[],x.1.2.2.2.2.2.2.2.1,x.1.2.2.2.2.2.2.2.2.1,(0:Int),x.1.2.2.2.2.2.2.2.2.2.2.1,x.2,x.1.2.2.2.2.2.2.2.2.2.2.2.2)
theorem q_U:∀N x,u_U.F L0 P0 (orcOf []) N x=V_U N x:=by intros;kernel_rfl
def W_U (N:Nat):=V_U N
theorem con_U_ok (N:Nat):(u_U.con (W_U N)).ok P0:=Uf.ok mixed (q_U N) trivial Tryz.func115 (by kernel_rfl) fun x y=>by kernel_rfl
def u_j:Uf:=⟨116,14,Tryz.f116,[.val (.agg T0_),.val (.int .i64),.val (.int .i64)],[],
⟨[(6,.ptr 600006 0)],[(600006,.box 46 (.val T_))]⟩,[],
[],
[],fun y=>(valW (.agg T_) y,[],[])⟩
def V_j (N:Nat) (x:A1_×Int×Int):Option (M_):=
 some (x.2.1,x.1.1,x.2.2,x.1.2.1,(0:Int),(0:Int),[],(0:Int),(0:Int),[])
theorem q_j:∀N x,u_j.F L0 P0 (orcOf []) N x=V_j N x:=by intros;kernel_rfl
def W_j (N:Nat):=V_j N
theorem con_j_ok (N:Nat):(u_j.con (W_j N)).ok P0:=Uf.ok mixed (q_j N) trivial Tryz.func116 (by kernel_rfl) fun x y=>by kernel_rfl
def u_G:Uf:=⟨117,27,Tryz.f117,[.val (.agg T0_),.val (.int .i64),.val (.int .i64)],[],
⟨[(6,.ptr 600006 0)],[(600006,.box 46 (.val T_))]⟩,[],
[],
[],fun y=>(valW (.agg T_) y,[],[])⟩
def V_G (w_j:A1_×Int×Int→Option (M_)) (N:Nat) (x:A1_×Int×Int):Option (M_):=
 obind (w_j x) fun b=>cnd (decide (List.length x.1.2.2.2.2.2.2.1*(8:Nat)≤(140737488355328:Nat))) (some (b.1,b.2.1,b.2.2.1,b.2.2.2.1,x.1.2.2.2.2.2.2.2.1,wr .i64 (x.1.2.2.1-x.1.2.2.2.2.2.2.2.2.1),x.1.2.2.2.2.2.2.1,b.2.2.2.2.2.2.2)) none
theorem q_G:∀w_j N x,u_G.F L0 P0 (orcOf [u_j.con w_j]) N x=V_G w_j N x:=by intros;kernel_rfl
def W_G (N:Nat):=V_G (W_j N) N
theorem con_G_ok (N:Nat):(u_G.con (W_G N)).ok P0:=Uf.ok mixed (q_G (W_j N) N) ⟨con_j_ok N,trivial⟩ Tryz.func117 (by kernel_rfl) fun x y=>by kernel_rfl
def u_a3:Uf:=⟨61,131,Tryz.f61,[.val (.agg T0_)],[],
⟨[(2,.ptr 600002 0),(3,.val (.list (.agg T_)))],[(600002,.box 31 (.val T0_))]⟩,[],
[(23,.loop [] ⟨[(1,.ptr 600001 0),(2,.ptr 600002 0),(5,.acc 700005),(6,.val (.int .i64))],[(600001,.box 31 (.val T0_)),(600002,.box 31 (.val T0_)),(700005,.nrow 46 (.agg T_) true true)]⟩ [(.exit 0,⟨[(1,.ptr 600001 0),(2,.ptr 600002 0),(5,.val (.list (.agg T_)))],[(600001,.box 31 (.val T0_)),(600002,.box 31 (.val T0_))]⟩)])],
[(1000015,.reg [(8,[],⟨[(1,.ptr 600001 0),(2,.ptr 600002 0),(75,.val .bool)],[(600001,.box 31 (.val T0_)),(600002,.box 31 (.val T0_))]⟩)]),
(17,.cut [] [(.normal,⟨[(1,.ptr 600001 0),(2,.ptr 600002 0)],[(600001,.box 31 (.val T0_)),(600002,.box 31 (.val T0_))]⟩)]),
(13,.cut [] [(.normal,⟨[(1,.ptr 600001 0),(2,.ptr 600002 0)],[(600001,.box 31 (.val T0_)),(600002,.box 31 (.val T0_))]⟩)]),
(10,.cut [] [(.normal,⟨[(1,.ptr 600001 0),(2,.ptr 600002 0)],[(600001,.box 31 (.val T0_)),(600002,.box 31 (.val T0_))]⟩)]),
(22,.cut [] [(.normal,⟨[(1,.ptr 600001 0),(2,.ptr 600002 0),(5,.acc 700005)],[(600001,.box 31 (.val T0_)),(600002,.box 31 (.val T0_)),(700005,.nrow 46 (.agg T_) true true)]⟩)]),
(18,.cut [] [(.normal,⟨[(1,.ptr 600001 0),(2,.ptr 600002 0),(5,.acc 700005)],[(600001,.box 31 (.val T0_)),(600002,.box 31 (.val T0_)),(700005,.nrow 46 (.agg T_) true true)]⟩)])],fun y=>(.tup [valW (.agg T0_) y.2,valW (.list (.agg T_)) y.1],[],[])⟩
def V_a3 (w_aJ:List (Int×Int×Int)×Int→Option (List (Int×Int×Int))) (w_E:A1_→Option (Bool)) (w_U:A1_×Int→Option A1_) (w_j:A1_×Int×Int→Option (M_)) (w_G:A1_×Int×Int→Option (M_)) (N:Nat) (x:A1_):Option (List (M_)×A1_):=
 obind (w_aJ (x.2.2.2.2.2.2.2.2.2.2.2.2,wr .i64 (x.2.2.1+(1:Int)))) fun b=>obind (cnd (decide (x.1=(1:Int))) (cnd (decide (Int.tmod
 (wr .i64 (x.2.2.1+(1:Int))) (2:Int)=(0:Int))) (some ((x.1,x.2.1,wr .i64 (x.2.2.1+(1:Int)),x.2.2.2.1,x.2.2.2.2.1,x.2.2.2.2.2.1,
 x.2.2.2.2.2.2.1,wr .i64 (x.2.2.2.2.2.2.2.1+(1:Int)),wr .i64 (x.2.2.1+(1:Int)),x.2.2.2.2.2.2.2.2.2.1,x.2.2.2.2.2.2.2.2.2.2.1,
 x.2.2.2.2.2.2.2.2.2.2.2.1,b),((0:Int),(0:Int),(0:Int),(0:Int),(0:Int),(0:Int),[],(0:Int),(0:Int),(0:Int),(0:Int),(0:Int),[]),[]))
 (some ((x.1,x.2.1,wr .i64 (x.2.2.1+(1:Int)),x.2.2.2.1,x.2.2.2.2.1,x.2.2.2.2.2.1,x.2.2.2.2.2.2.1,x.2.2.2.2.2.2.2.1,x.2.2.2.2.2.2.2.2.1,
 x.2.2.2.2.2.2.2.2.2.1,x.2.2.2.2.2.2.2.2.2.2.1,x.2.2.2.2.2.2.2.2.2.2.2.1,b),((0:Int),(0:Int),(0:Int),(0:Int),(0:Int),(0:Int),[],(0:Int),
 (0:Int),(0:Int),(0:Int),(0:Int),[]),[]))) (obind (cnd (decide (x.2.2.2.1≠(0:Int))) (obind (w_E (x.1,x.2.1,wr .i64 (x.2.2.1 +
 (1:Int)),x.2.2.2.1,x.2.2.2.2.1,x.2.2.2.2.2.1,x.2.2.2.2.2.2.1,x.2.2.2.2.2.2.2.1,x.2.2.2.2.2.2.2.2.1,x.2.2.2.2.2.2.2.2.2.1,
 x.2.2.2.2.2.2.2.2.2.2.1,x.2.2.2.2.2.2.2.2.2.2.2.1,b)) fun b_1=>cnd (!b_1) (obind (w_U ((x.1,x.2.1,wr .i64 (x.2.2.1+(1:Int)),
 x.2.2.2.1,x.2.2.2.2.1,x.2.2.2.2.2.1,x.2.2.2.2.2.2.1,x.2.2.2.2.2.2.2.1,x.2.2.2.2.2.2.2.2.1,x.2.2.2.2.2.2.2.2.2.1,x.2.2.2.2.2.2.2.2.2.2.1,
 x.2.2.2.2.2.2.2.2.2.2.2.1,b),(0:Int))) fun b=>some (b,(0:Int),(0:Int),(0:Int),(0:Int),(0:Int),(0:Int),[],(0:Int),(0:Int),(0:Int),
 (0:Int),(0:Int),[])) (some ((x.1,x.2.1,wr .i64 (x.2.2.1+(1:Int)),x.2.2.2.1,x.2.2.2.2.1,x.2.2.2.2.2.1,x.2.2.2.2.2.2.1,x.2.2.2.2.2.2.2.1,
 x.2.2.2.2.2.2.2.2.1,x.2.2.2.2.2.2.2.2.2.1,x.2.2.2.2.2.2.2.2.2.2.1,x.2.2.2.2.2.2.2.2.2.2.2.1,b),(0:Int),(0:Int),(0:Int),(0:Int),(0:Int),
 (0:Int),[],(0:Int),(0:Int),(0:Int),(0:Int),(0:Int),[]))) (some ((x.1,x.2.1,wr .i64 (x.2.2.1+(1:Int)),x.2.2.2.1,x.2.2.2.2.1,
 x.2.2.2.2.2.1,x.2.2.2.2.2.2.1,x.2.2.2.2.2.2.2.1,x.2.2.2.2.2.2.2.2.1,x.2.2.2.2.2.2.2.2.2.1,x.2.2.2.2.2.2.2.2.2.2.1,x.2.2.2.2.2.2.2.2.2.2.2.1,
 b),(0:Int),(0:Int),(0:Int),(0:Int),(0:Int),(0:Int),[],(0:Int),(0:Int),(0:Int),(0:Int),(0:Int),[]))) fun(b:A1_×A1_)=>cnd (decide (b.1.2.2.2.1=(0:Int))) (obind (cnd (decide (b.1.2.2.2.2.2.2.2.2.2.1≠(0:Int))) (cnd (decide
 (b.1.2.2.2.2.2.2.2.2.2.2.1≤b.1.2.2.1)) (some ((b.1.1,b.1.2.1,b.1.2.2.1,b.1.2.2.2.1,b.1.2.2.2.2.1,b.1.2.2.2.2.2.1,b.1.2.2.2.2.2.2.1,
 b.1.2.2.2.2.2.2.2.1,b.1.2.2.2.2.2.2.2.2.1,(0:Int),b.1.2.2.2.2.2.2.2.2.2.2.1,wr .i64 (b.1.2.2.2.2.2.2.2.2.2.2.2.1+(1:Int)),
 b.1.2.2.2.2.2.2.2.2.2.2.2.2),b.2)) (some b)) (some b)) fun(b:A1_×A1_)=>cnd (decide
 (b.1.2.2.2.2.2.2.2.2.2.1=(0:Int))) (obind (obind (cnd (decide (b.1.2.2.2.2.2.2.2.2.2.2.2.1=(0:Int))) (some (decide (b.1.2.2.2.2.2.1≠(0:Int)),
 (b.1.1,b.1.2.1,b.1.2.2.1,b.1.2.2.2.1,b.1.2.2.2.2.1,b.1.2.2.2.2.2.1,b.1.2.2.2.2.2.2.1,b.1.2.2.2.2.2.2.2.1,b.1.2.2.2.2.2.2.2.2.1,(1:Int),wr
 .i64 (b.1.2.2.1+(3:Int)),b.1.2.2.2.2.2.2.2.2.2.2.2),b.2)) (some (false,(b.1.1,b.1.2.1,b.1.2.2.1,b.1.2.2.2.1,b.1.2.2.2.2.1,b.1.2.2.2.2.2.1,
 b.1.2.2.2.2.2.2.1,b.1.2.2.2.2.2.2.2.1,b.1.2.2.2.2.2.2.2.2.1,(1:Int),wr .i64 (b.1.2.2.1+(3:Int)),b.1.2.2.2.2.2.2.2.2.2.2.2),b.2))) fun(b:
 Bool×A1_×A1_)=>cnd b.1 (cnd (decide (b.2.1.2.2.2.2.2.1≠b.2.1.1)) (some ((b.2.1.1,b.2.1.2.1,
 b.2.1.2.2.1,b.2.1.2.2.2.1,b.2.1.2.2.2.2.1,b.2.1.2.2.2.2.2.1,b.2.1.2.2.2.2.2.2.1,b.2.1.2.2.2.2.2.2.2.1,b.2.1.2.2.2.2.2.2.2.2.1,
 b.2.1.2.2.2.2.2.1,b.2.1.2.2.2.2.2.2.2.2.2.2),b.2.2)) (some b.2)) (some b.2)) fun(b:A1_×A1_)=>
 obind (w_j (b.1,(1:Int),b.1.2.2.2.2.2.2.2.2.2.1)) fun b_1=>some (b.1,b.2,[b_1])) (some (b.1,b.2,[]))) (some (b.1,b.2,[])))) fun
 (b:A1_×A1_×List A2_)=>
 cnd (!decide (Int.tmod (wr .i64 (x.2.2.1+(1:Int))) (2:Int)=(0:Int))) (some (b.2.2,b.1)) (obind (cnd (decide (b.1.2.2.2.1≠(0:Int))) (obind
 (w_j (b.1,(4:Int),b.1.2.2.2.1)) fun b_1=>cnd (decide ((List.length b.2.2+List.length [b_1])*(104:Nat)≤(140737488355328:Nat)))
 (some (b.1,b.2.1,b.2.2++[b_1])) none) (some b)) fun(b:A1_×A1_×List A2_)=>obind (loopN N (fun(v:Int×A1_×A1_×List A2_)=>cnd (decide (v.1<(↑(List.length v.2.1.2.2.2.2.2.2.2.2.2.2.2.2):
 Int))) (obind (w_E v.2.1) fun b=>cnd b (cnd (decide ((0:Int)≤v.1)&&decide (v.1<(↑(List.length v.2.1.2.2.2.2.2.2.2.2.2.2.2.2):
 Int))) (obind (w_G (v.2.1,(5:Int),Prod.fst (List.getD v.2.1.2.2.2.2.2.2.2.2.2.2.2.2 (Int.toNat v.1) ((0:Int),(0:Int),(0:Int))))) fun
 b=>cnd (decide ((List.length v.2.2.2+List.length [b])*(104:Nat)≤(140737488355328:Nat))) (some (Sum.inl (wr .i64 (v.1+(1:Int)),v.2.1,
 v.2.2.1,v.2.2.2++[b]))) none) none) (some (Sum.inr (v.2.2.2,v.2.1,v.2.2.1)))) (some (Sum.inr (v.2.2.2,v.2.1,v.2.2.1)))) ((0:Int),b)) fun(b
 : List A2_×A1_×A1_)=>some
 (b.1,b.2.1))
theorem q_a3:∀w_aJ w_E w_U w_j w_G N x,u_a3.F L0 P0 (orcOf [u_aJ.con w_aJ,u_E.con w_E,u_U.con w_U,u_j.con w_j,u_G.con w_G]) N x=V_a3 w_aJ w_E w_U w_j w_G N x:=by intros;kernel_rfl
def W_a3 (N:Nat):=V_a3 (W_aJ N) (W_E N) (W_U N) (W_j N) (W_G N) N
theorem con_a3_ok (N:Nat):(u_a3.con (W_a3 N)).ok P0:=Uf.ok mixed (q_a3 (W_aJ N) (W_E N) (W_U N) (W_j N) (W_G N) N) ⟨con_aJ_ok N,con_E_ok N,con_U_ok N,con_j_ok N,con_G_ok N,trivial⟩ Tryz.func61 (by kernel_rfl) fun x y=>by kernel_rfl
def u_Z:Uf:=⟨120,18,Tryz.f120,[.val (.list (.int .i64)),.val (.int .i64)],[],
⟨[(4,.val .bool)],[]⟩,[],
[(2,.loop [] ⟨[(5,.val (.int .i64))],[]⟩ [(.exit 0,⟨[],[]⟩),(.ret,⟨[(4,.val .bool)],[]⟩)])],
[],fun y=>(valW .bool y,[],[])⟩
def V_Z (N:Nat) (x:List Int×Int):Option (Bool):=
 obind (loopN N (fun(v:Int)=>cnd (decide (v<(↑(List.length x.1):Int))) (cnd (decide ((0:Int)≤v)&&decide (v<(↑(List.length x.1):Int)))
 (cnd (decide (List.getD x.1 (Int.toNat v) (0:Int)=x.2)) (some (Sum.inr (Sum.inr true))) (some (Sum.inl (wr .i64 (v+(1:Int)))))) none) (some
 (Sum.inr (Sum.inl ())))) (Int.ofNat (0:Nat))) fun(b:PUnit⊕Bool)=>selim (fun(b:PUnit)=>some false) (fun(c:Bool)=>some c) b
theorem q_Z:∀N x,u_Z.F L0 P0 (orcOf []) N x=V_Z N x:=by intros;kernel_rfl
def W_Z (N:Nat):=V_Z N
theorem con_Z_ok (N:Nat):(u_Z.con (W_Z N)).ok P0:=Uf.ok mixed (q_Z N) trivial Tryz.func120 (by kernel_rfl) fun x y=>by kernel_rfl
def u_M:Uf:=⟨88,46,Tryz.f88,[.val (.list (.int .i64))],[],
⟨[(2,.val .bool)],[]⟩,[],
[(4,.loop [] ⟨[(3,.val (.int .i64))],[]⟩ [(.exit 0,⟨[],[]⟩),(.ret,⟨[(2,.val .bool)],[]⟩)])],
[(1000001,.reg [(8,[],⟨[(11,.val .bool)],[]⟩)])],fun y=>(valW .bool y,[],[])⟩
def V_M (w_Z:List Int×Int→Option (Bool)) (N:Nat) (x:List Int):Option (Bool):=
 obind (cnd (decide ((↑(List.length x):Int)<(1:Int))) (some true) (some (decide ((10:Int)<(↑(List.length x):Int))))) fun(b:Bool)=>cnd b
 (some false) (cnd (decide ((0:Int)≤(0:Int))&&decide ((0:Int)<(↑(List.length x):Int))) (cnd (decide (List.getD x (0:Nat) (0:Int)≠(1:Int)))
 (some false) (obind (loopN N (fun(v:Int)=>cnd (decide (v<(↑(List.length x):Int))) (cnd (decide ((0:Int)≤v)&&decide (v<(↑(List.length
 x):Int))) (cnd (decide (List.getD x (Int.toNat v) (0:Int)<(1:Int))) (some (Sum.inr (Sum.inr false))) (cnd (decide ((0:Int)≤v)&&decide (v <
 (↑(List.length x):Int))) (cnd (decide ((8:Int)<List.getD x (Int.toNat v) (0:Int))) (some (Sum.inr (Sum.inr false))) (cnd (decide ((0:Int)≤v)
 && decide (v≤(↑(List.length x):Int))) (cnd (decide ((0:Int)≤v)&&decide (v<(↑(List.length x):Int))) (obind (w_Z (List.drop
 (0:Nat) (List.take (Int.toNat v) x),List.getD x (Int.toNat v) (0:Int))) fun b=>cnd b (some (Sum.inr (Sum.inr false))) (some (Sum.inl (wr .i64 (v
 + (1:Int)))))) none) none)) none)) none) (some (Sum.inr (Sum.inl ())))) (Int.ofNat (0:Nat))) fun(b:PUnit⊕Bool)=>selim (fun(b:PUnit)=>
 some true) (fun(c:Bool)=>some c) b)) none)
theorem q_M:∀w_Z N x,u_M.F L0 P0 (orcOf [u_Z.con w_Z]) N x=V_M w_Z N x:=by intros;kernel_rfl
def W_M (N:Nat):=V_M (W_Z N) N
theorem con_M_ok (N:Nat):(u_M.con (W_M N)).ok P0:=Uf.ok mixed (q_M (W_Z N) N) ⟨con_Z_ok N,trivial⟩ Tryz.func88 (by kernel_rfl) fun x y=>by kernel_rfl
def u_r:Uf:=⟨68,17,Tryz.f68,[.val (.list (.int .i64)),.val (.int .i64)],[],
⟨[(4,.val (.list (.int .i64))),(5,.val .bool)],[]⟩,[],
[],
[],fun y=>(.tup [valW (.list (.int .i64)) y.1,valW .bool y.2],[],[])⟩
def V_r (w_M:List Int→Option (Bool)) (N:Nat) (x:List Int×Int):Option (List Int×Bool):=
 cnd (decide (List.length x.1*(8:Nat)≤(140737488355328:Nat))) (cnd (decide ((List.length x.1+List.length [x.2])*(8:Nat)≤(140737488355328:Nat))) (obind (w_M (x.1++[x.2])) fun b=>cnd (!b) (some ([],false)) (some (x.1++[x.2],true))) none) none
theorem q_r:∀w_M N x,u_r.F L0 P0 (orcOf [u_M.con w_M]) N x=V_r w_M N x:=by intros;kernel_rfl
def W_r (N:Nat):=V_r (W_M N) N
theorem con_r_ok (N:Nat):(u_r.con (W_r N)).ok P0:=Uf.ok mixed (q_r (W_M N) N) ⟨con_M_ok N,trivial⟩ Tryz.func68 (by kernel_rfl) fun x y=>by kernel_rfl
def u_B:Uf:=⟨35,25,Tryz.f35,[.ptr 0 0],[.box 72 T6_],
⟨[(0,.ptr 1000000 0),(2,.val (.list (.int .i64)))],[(1000000,.box 72 (.val T6_))]⟩,[true],
[(3,.loop [] ⟨[(0,.ptr 1000000 0),(3,.val (.list (.int .i64))),(4,.val (.int .i64))],[(1000000,.box 72 (.val T6_))]⟩ [(.exit 0,⟨[(0,.ptr 1000000 0),(3,.val (.list (.int .i64)))],[(1000000,.box 72 (.val T6_))]⟩)])],
[],fun y=>(valW (.list (.int .i64)) y.1,[.box 72 (cellsW T6_ y.2)],[])⟩
def V_B (w_a:Int×List Int×Int→Option (Int×List Int×Int)) (w_r:List Int×Int→Option (List Int×Bool)) (N:Nat) (x:List Int×Int):Option (List Int×List Int×Int):=
 obind (w_a ((4:Int),x)) fun b=>obind (loopN N (fun(v:List Int×Int×List Int×Int)=>cnd (decide ((0:Int)<v.2.1)) (obind
 (w_a ((7:Int),v.2.2)) fun b=>obind (w_r (v.1,wr .i64 ((2:Int)+b.1))) fun b_1=>cnd b_1.2 (some (Sum.inl (b_1.1,wr
 .i64 (v.2.1-(1:Int)),b.2))) (some (Sum.inl (v.1,wr .i64 (v.2.1-(1:Int)),b.2)))) (some (Sum.inr (v.1,v.2.2)))) ([(1:Int)],b)) fun(b:List Int×List Int×Int)=>some b
theorem q_B:∀w_a w_r N x,u_B.F L0 P0 (orcOf [u_a.con w_a,u_r.con w_r]) N x=V_B w_a w_r N x:=by intros;kernel_rfl
def W_B (N:Nat):=V_B (W_a N) (W_r N) N
theorem con_B_ok (N:Nat):(u_B.con (W_B N)).ok P0:=Uf.ok mixed (q_B (W_a N) (W_r N) N) ⟨con_a_ok N,con_r_ok N,trivial⟩ Tryz.func35 (by kernel_rfl) fun x y=>by kernel_rfl
def u_w:Uf:=⟨36,8,Tryz.f36,[.ptr 0 0],[.box 72 T6_],
⟨[(0,.ptr 1000000 0),(2,.val .str)],[(1000000,.box 72 (.val T6_))]⟩,[true],
[],
[],fun y=>(valW .str y.1,[.box 72 (cellsW T6_ y.2)],[])⟩
def V_w (w_a:Int×List Int×Int→Option (Int×List Int×Int)) (N:Nat) (x:List Int×Int):Option (List UInt8×List Int×Int):=
 obind (w_a ((5:Int),x)) fun b=>cnd (decide ((0:Int)≤b.1)) (cnd (decide (b.1<(↑(5:Nat):Int))) (some (List.getD [[],[(97:UInt8)],
 [(98:UInt8),(99:UInt8)],[(104:UInt8),(101:UInt8),(108:UInt8),(108:UInt8),(111:UInt8)],[(116:UInt8),(119:UInt8),(101:
 UInt8),(108:UInt8),(118:UInt8),(101:UInt8),(32:UInt8),(98:UInt8),(121:UInt8),(116:UInt8),(101:UInt8),(115:UInt8)]]
 (Int.toNat b.1) [],b.2)) none) none
theorem q_w:∀w_a N x,u_w.F L0 P0 (orcOf [u_a.con w_a]) N x=V_w w_a N x:=by intros;kernel_rfl
def W_w (N:Nat):=V_w (W_a N) N
theorem con_w_ok (N:Nat):(u_w.con (W_w N)).ok P0:=Uf.ok mixed (q_w (W_a N) N) ⟨con_a_ok N,trivial⟩ Tryz.func36 (by kernel_rfl) fun x y=>by kernel_rfl
def u_C:Uf:=⟨16,78,Tryz.f16,[.ptr 0 0,.val (.int .i64)],[.box 72 T6_],
⟨[(0,.ptr 1000000 0),(4,.ptr 600004 0)],[(1000000,.box 72 (.val T6_)),(600004,.box 46 (.val T_))]⟩,[true],
[],
[(14,.cut [] [(.normal,⟨[(0,.ptr 1000000 0),(4,.ptr 600004 0),(6,.ptr 600006 0),(64,.val .bool)],[(1000000,.box 72 (.val T6_)),(600004,.box 46 (.val T_)),(600006,.box 46 (.val T_))]⟩)]),
(4,.cut [] [(.normal,⟨[(0,.ptr 1000000 0),(4,.ptr 600004 0),(5,.val (.int .i64))],[(1000000,.box 72 (.val T6_)),(600004,.box 46 (.val T_))]⟩)])],fun y=>(valW (.agg T_) y.2,[.box 72 (cellsW T6_ y.1)],[])⟩
def V_C (w_a:Int×List Int×Int→Option (Int×List Int×Int)) (w_B:List Int×Int→Option (List Int×List Int×Int)) (w_w:List Int×Int→Option (List UInt8×List Int×Int)) (N:Nat) (x:Int×List Int×Int):Option ((List Int×Int)×M_):=
 obind (w_a ((8:Int),x.2)) fun b=>obind (cnd (decide (wr .i64 ((1:Int)+b.1)=x.1)) (some (wr .i64 ((1:Int)+Int.tmod x.1 (8:Int)),
 b.2,(0:Int),(0:Int),(0:Int),(0:Int),(0:Int),(0:Int),[],(0:Int),(0:Int),[])) (some (wr .i64 ((1:Int)+b.1),b.2,(0:Int),(0:Int),
 (0:Int),(0:Int),(0:Int),(0:Int),[],(0:Int),(0:Int),[]))) fun(b:Int×(List Int×Int)×A2_)=>obind (w_a ((9:Int),b.2.1)) fun b_1=>obind (w_a ((3:Int),b_1.2)) fun b_2=>cnd (decide (wr .i64
 ((1:Int)+b_1.1)=(2:Int))) (obind (w_a ((20:Int),b_2.2)) fun b_3=>obind (w_a ((25:Int),b_3.2)) fun b_4=>obind
 (w_B b_4.2) fun b_5=>obind (w_a ((9:Int),b_5.2)) fun b_6=>some (b_6.2,wr .i64 ((1:Int)+b_1.1),b.1,x.1,wr .i64
 ((1:Int)+b_2.1),b_3.1,b_4.1,b_5.1,b_6.1,(0:Int),[])) (cnd (decide (wr .i64 ((1:Int)+b_1.1)=(5:Int))) (obind (w_a ((20:Int),
 b_2.2)) fun b_3=>obind (w_a ((25:Int),b_3.2)) fun b_4=>obind (w_B b_4.2) fun b_5=>obind (w_a ((12:Int),
 b_5.2)) fun b_6=>some (b_6.2,wr .i64 ((1:Int)+b_1.1),b.1,x.1,wr .i64 ((1:Int)+b_2.1),b_3.1,b_4.1,b_5.1,(0:Int),b_6.1,[])) (cnd
 (decide (wr .i64 ((1:Int)+b_1.1)=(7:Int))) (obind (w_a ((12:Int),b_2.2)) fun b_3=>obind (w_w b_3.2) fun b_4=>some
 (b_4.2,wr .i64 ((1:Int)+b_1.1),b.1,x.1,wr .i64 ((1:Int)+b_2.1),(0:Int),(0:Int),[],wr .i64 ((1:Int)+b_3.1),(0:Int),b_4.1)) (obind
 (cnd (decide (wr .i64 ((1:Int)+b_1.1)=(8:Int))) (some (decide (wr .i64 ((1:Int)+b_1.1)=(8:Int)),b_2.2,b.2.2,wr .i64 ((1:Int)+b_1.1),
 b.1,x.1,wr .i64 ((1:Int)+b_2.1),(0:Int),(0:Int),[],(0:Int),(0:Int),[])) (some (decide (wr .i64 ((1:Int)+b_1.1)=(9:Int)),b_2.2,b.2.2,
 wr .i64 ((1:Int)+b_1.1),b.1,x.1,wr .i64 ((1:Int)+b_2.1),(0:Int),(0:Int),[],(0:Int),(0:Int),[]))) fun(b:Bool×(List Int×Int)×A2_×A2_)=>
 cnd b.1 (obind (w_a ((9:Int),b.2.1)) fun b_3=>obind (w_a ((6:Int),b_3.2)) fun b_4=>some (b_4.2,b.2.2.2.1,b.2.2.2.2.1,
 b.2.2.2.2.2.1,b.2.2.2.2.2.2.1,b.2.2.2.2.2.2.2.1,b.2.2.2.2.2.2.2.2.1,b.2.2.2.2.2.2.2.2.2.1,wr .i64 ((1:Int)+b_3.1),wr .i64 (wr .i64 ((1:Int)
 + b_3.1)+b_4.1),b.2.2.2.2.2.2.2.2.2.2.2.2)) (some (b.2.1,b.2.2.2)))))
theorem q_C:∀w_a w_B w_w N x,u_C.F L0 P0 (orcOf [u_a.con w_a,u_B.con w_B,u_w.con w_w]) N x=V_C w_a w_B w_w N x:=by intros;kernel_rfl
def W_C (N:Nat):=V_C (W_a N) (W_B N) (W_w N) N
theorem con_C_ok (N:Nat):(u_C.con (W_C N)).ok P0:=Uf.ok mixed (q_C (W_a N) (W_B N) (W_w N) N) ⟨con_a_ok N,con_B_ok N,con_w_ok N,trivial⟩ Tryz.func16 (by kernel_rfl) fun x y=>by kernel_rfl
def u_I:Uf:=⟨119,25,Tryz.f119,[.val (.list (.agg T3_)),.val (.int .i64)],[],
⟨[(4,.ptr 600004 0),(5,.val .bool)],[(600004,.box 53 (.val T3_))]⟩,[],
[(2,.loop [] ⟨[(4,.ptr 600004 0),(6,.val (.int .i64))],[(600004,.box 53 (.val T3_))]⟩ [(.exit 0,⟨[(4,.ptr 600004 0)],[(600004,.box 53 (.val T3_))]⟩),(.ret,⟨[(4,.ptr 600004 0),(5,.val .bool)],[(600004,.box 53 (.val T3_))]⟩)])],
[],fun y=>(.tup [valW (.agg T3_) y.2,valW .bool y.1],[],[])⟩
def V_I (N:Nat) (x:List (Int×Int×Int)×Int):Option (Bool×Int×Int×Int):=
 obind (loopN N (fun(v:Int×Int×Int×Int)=>cnd (decide (v.1<(↑(List.length x.1):Int))) (cnd (decide ((0:Int)≤v.1)&&decide (v.1 <
 (↑(List.length x.1):Int))) (cnd (decide (Prod.fst (List.getD x.1 (Int.toNat v.1) ((0:Int),(0:Int),(0:Int)))=x.2)) (cnd (decide ((0:Int)≤v.1)
 && decide (v.1<(↑(List.length x.1):Int))) (some (Sum.inr (Sum.inr (true,Prod.fst (List.getD x.1 (Int.toNat v.1) ((0:Int),(0:Int),(0:Int))),
 Prod.fst (Prod.snd (List.getD x.1 (Int.toNat v.1) ((0:Int),(0:Int),(0:Int)))),Prod.snd (Prod.snd (List.getD x.1 (Int.toNat v.1) ((0:Int),
 (0:Int),(0:Int)))))))) none) (some (Sum.inl (wr .i64 (v.1+(1:Int)),v.2)))) none) (some (Sum.inr (Sum.inl v.2)))) ((0:Int),(0:Int),(0:Int),
 (0:Int))) fun(b:Int×Int×Int⊕Bool×Int×Int×Int)=>selim (fun(b:Int×Int×Int)=>some (false,(0:Int),(0:Int),(0:Int))) (fun(c
 : Bool×Int×Int×Int)=>some c) b
theorem q_I:∀N x,u_I.F L0 P0 (orcOf []) N x=V_I N x:=by intros;kernel_rfl
def W_I (N:Nat):=V_I N
theorem con_I_ok (N:Nat):(u_I.con (W_I N)).ok P0:=Uf.ok mixed (q_I N) trivial Tryz.func119 (by kernel_rfl) fun x y=>by kernel_rfl
def u_Y:Uf:=⟨118,22,Tryz.f118,[.val (.list (.agg T3_)),.val (.int .i64),.val (.int .i64)],[],
⟨[(6,.val .bool)],[]⟩,[],
[],
[],fun y=>(valW .bool y,[],[])⟩
def V_Y (w_I:List (Int×Int×Int)×Int→Option (Bool×Int×Int×Int)) (N:Nat) (x:List (Int×Int×Int)×Int×Int):Option (Bool):=
 obind (w_I (x.1,x.2.1)) fun b=>cnd b.1 (some (decide (x.2.2<b.2.2.1))) (some false)
theorem q_Y:∀w_I N x,u_Y.F L0 P0 (orcOf [u_I.con w_I]) N x=V_Y w_I N x:=by intros;kernel_rfl
def W_Y (N:Nat):=V_Y (W_I N) N
theorem con_Y_ok (N:Nat):(u_Y.con (W_Y N)).ok P0:=Uf.ok mixed (q_Y (W_I N) N) ⟨con_I_ok N,trivial⟩ Tryz.func118 (by kernel_rfl) fun x y=>by kernel_rfl
def u_V:Uf:=⟨124,28,Tryz.f124,[.val (.list (.agg T3_)),.val (.int .i64)],[],
⟨[(4,.acc 700005)],[(700005,.nrow 53 (.agg T3_) false true)]⟩,[],
[(3,.loop [] ⟨[(5,.acc 700005),(6,.val (.int .i64))],[(700005,.nrow 53 (.agg T3_) false true)]⟩ [(.exit 0,⟨[(5,.acc 700005)],[(700005,.nrow 53 (.agg T3_) false true)]⟩)])],
[],fun y=>(.acc 2000000 0,[],[.nrow 53 false true ⟨(.agg T3_),y⟩])⟩
def V_V (N:Nat) (x:List (Int×Int×Int)×Int):Option (List (Int×Int×Int)):=
 obind (loopN N (fun(v:Int×List (Int×Int×Int))=>cnd (decide (v.1<(↑(List.length x.1):Int))) (cnd (decide ((0:Int)≤v.1)&&decide (v.1
 < (↑(List.length x.1):Int))) (cnd (decide (Prod.fst (List.getD x.1 (Int.toNat v.1) ((0:Int),(0:Int),(0:Int)))≠x.2)) (cnd (decide ((0:Int) ≤
 v.1)&&decide (v.1<(↑(List.length x.1):Int))) (cnd (decide ((List.length v.2+List.length [(Prod.fst (List.getD x.1 (Int.toNat v.1) ((0:Int),
 (0:Int),(0:Int))),Prod.fst (Prod.snd (List.getD x.1 (Int.toNat v.1) ((0:Int),(0:Int),(0:Int)))),Prod.snd (Prod.snd (List.getD x.1 (Int.toNat
 v.1) ((0:Int),(0:Int),(0:Int)))))])*(24:Nat)≤(140737488355328:Nat))) (some (Sum.inl (wr .i64 (v.1+(1:Int)),v.2++[(Prod.fst (List.getD x.1
 (Int.toNat v.1) ((0:Int),(0:Int),(0:Int))),Prod.fst (Prod.snd (List.getD x.1 (Int.toNat v.1) ((0:Int),(0:Int),(0:Int)))),Prod.snd (Prod.snd
 (List.getD x.1 (Int.toNat v.1) ((0:Int),(0:Int),(0:Int)))))]))) none) none) (some (Sum.inl (wr .i64 (v.1+(1:Int)),v.2)))) none) (some (Sum.inr
 v.2))) ((0:Int),[])) fun(b:List (Int×Int×Int))=>some b
theorem q_V:∀N x,u_V.F L0 P0 (orcOf []) N x=V_V N x:=by intros;kernel_rfl
def W_V (N:Nat):=V_V N
theorem con_V_ok (N:Nat):(u_V.con (W_V N)).ok P0:=Uf.ok mixed (q_V N) trivial Tryz.func124 (by kernel_rfl) fun x y=>by kernel_rfl
def u_ax:Uf:=⟨121,49,Tryz.f121,[.val (.list (.agg T3_)),.val (.agg T3_)],[],
⟨[(4,.val (.list (.agg T3_))),(5,.val .bool)],[]⟩,[],
[(5,.loop [] ⟨[(3,.ptr 600003 0),(6,.acc 700018),(7,.val (.int .i64))],[(600003,.box 53 (.val T3_)),(700018,.nrow 53 (.agg T3_) true true)]⟩ [(.exit 0,⟨[(3,.ptr 600003 0),(6,.acc 700018)],[(600003,.box 53 (.val T3_)),(700018,.nrow 53 (.agg T3_) true true)]⟩),(.ret,⟨[(4,.val (.list (.agg T3_))),(5,.val .bool)],[]⟩)])],
[],fun y=>(.tup [valW (.list (.agg T3_)) y.1,valW .bool y.2],[],[])⟩
def V_ax (w_Y:List (Int×Int×Int)×Int×Int→Option (Bool)) (w_V:List (Int×Int×Int)×Int→Option (List (Int×Int×Int))) (N:Nat) (x:List (Int×Int×Int)×Int×Int×Int):Option (List (Int×Int×Int)×Bool):=
 obind (w_Y (x.1,x.2.1,x.2.2.1)) fun b=>cnd b (some (x.1,false)) (obind (w_V (x.1,x.2.1)) fun b=>obind (loopN N (fun(v:
 Int×(Int×Int×Int)×List (Int×Int×Int))=>cnd (decide (v.1<(↑(List.length v.2.2):Int))) (cnd (decide ((0:Int)≤v.1)&&decide (v.1 <
 (↑(List.length v.2.2):Int))) (cnd (decide (v.2.1.1<Prod.fst (List.getD v.2.2 (Int.toNat v.1) ((0:Int),(0:Int),(0:Int))))) (cnd (decide
 (Option.getD none (0:Int)≤v.1)) (cnd (decide ((↑(0:Nat):Int)+v.1≤(↑(List.length v.2.2):Int))) (cnd (decide (List.length (List.drop
 ((0:Nat)+Prod.fst (Prod.snd (cutT (0:Nat) (List.length v.2.2) (List.length v.2.2) none (some v.1)))) (List.take ((0:Nat)+Prod.fst (Prod.snd
 (cutT (0:Nat) (List.length v.2.2) (List.length v.2.2) none (some v.1)))+(Prod.snd (Prod.snd (cutT (0:Nat) (List.length v.2.2) (List.length v.2.2)
 none (some v.1)))-Prod.fst (Prod.snd (cutT (0:Nat) (List.length v.2.2) (List.length v.2.2) none (some v.1))))) v.2.2))*(24:Nat) ≤
 (140737488355328:Nat))) (cnd (decide ((List.length (List.drop ((0:Nat)+Prod.fst (Prod.snd (cutT (0:Nat) (List.length v.2.2) (List.length v.2.2)
 none (some v.1)))) (List.take ((0:Nat)+Prod.fst (Prod.snd (cutT (0:Nat) (List.length v.2.2) (List.length v.2.2) none (some v.1)))+(Prod.snd
 (Prod.snd (cutT (0:Nat) (List.length v.2.2) (List.length v.2.2) none (some v.1)))-Prod.fst (Prod.snd (cutT (0:Nat) (List.length v.2.2)
 (List.length v.2.2) none (some v.1))))) v.2.2))+List.length [v.2.1])*(24:Nat)≤(140737488355328:Nat))) (cnd (decide ((0:Int)≤Option.getD
 (some v.1) (0:Int))) (cnd (decide (Option.getD (some v.1) (0:Int)≤(↑(List.length v.2.2):Int))) (cnd (decide ((List.length (List.drop ((0:Nat) +
 Prod.fst (Prod.snd (cutT (0:Nat) (List.length v.2.2) (List.length v.2.2) none (some v.1)))) (List.take ((0:Nat)+Prod.fst (Prod.snd (cutT (0:Nat)
 (List.length v.2.2) (List.length v.2.2) none (some v.1)))+(Prod.snd (Prod.snd (cutT (0:Nat) (List.length v.2.2) (List.length v.2.2) none (some
 v.1)))-Prod.fst (Prod.snd (cutT (0:Nat) (List.length v.2.2) (List.length v.2.2) none (some v.1))))) v.2.2)++[v.2.1])+List.length (List.drop
 ((0:Nat)+Prod.fst (Prod.snd (cutT (0:Nat) (List.length v.2.2) (List.length v.2.2) (some v.1) none))) (List.take ((0:Nat)+Prod.fst (Prod.snd
 (cutT (0:Nat) (List.length v.2.2) (List.length v.2.2) (some v.1) none))+(Prod.snd (Prod.snd (cutT (0:Nat) (List.length v.2.2) (List.length v.2.2)
 (some v.1) none))-Prod.fst (Prod.snd (cutT (0:Nat) (List.length v.2.2) (List.length v.2.2) (some v.1) none)))) v.2.2)))*(24:Nat) ≤
 (140737488355328:Nat))) (some (Sum.inr (Sum.inr (List.drop ((0:Nat)+Prod.fst (Prod.snd (cutT (0:Nat) (List.length v.2.2) (List.length v.2.2) none
 (some v.1)))) (List.take ((0:Nat)+Prod.fst (Prod.snd (cutT (0:Nat) (List.length v.2.2) (List.length v.2.2) none (some v.1)))+(Prod.snd (Prod.snd
 (cutT (0:Nat) (List.length v.2.2) (List.length v.2.2) none (some v.1)))-Prod.fst (Prod.snd (cutT (0:Nat) (List.length v.2.2) (List.length v.2.2)
 none (some v.1))))) v.2.2)++[v.2.1]++List.drop ((0:Nat)+Prod.fst (Prod.snd (cutT (0:Nat) (List.length v.2.2) (List.length v.2.2) (some v.1)
 none))) (List.take ((0:Nat)+Prod.fst (Prod.snd (cutT (0:Nat) (List.length v.2.2) (List.length v.2.2) (some v.1) none))+(Prod.snd (Prod.snd (cutT
 (0:Nat) (List.length v.2.2) (List.length v.2.2) (some v.1) none))-Prod.fst (Prod.snd (cutT (0:Nat) (List.length v.2.2) (List.length v.2.2) (some
 v.1) none)))) v.2.2),true)))) none) none) none) none) none) none) none) (some (Sum.inl (wr .i64 (v.1+(1:Int)),v.2)))) none) (some (Sum.inr
 (Sum.inl v.2)))) ((0:Int),x.2,b)) fun(b:(Int×Int×Int)×List (Int×Int×Int)⊕List (Int×Int×Int)×Bool)=>selim (fun(b:(Int×Int×Int)×List (Int×Int×Int))=>cnd (decide ((List.length b.2+List.length [b.1])*(24:Nat)≤(140737488355328:Nat))) (some (b.2++[b.1],
 true)) none) (fun(c:List (Int×Int×Int)×Bool)=>some c) b)
theorem q_ax:∀w_Y w_V N x,u_ax.F L0 P0 (orcOf [u_Y.con w_Y,u_V.con w_V]) N x=V_ax w_Y w_V N x:=by intros;kernel_rfl
def W_ax (N:Nat):=V_ax (W_Y N) (W_V N) N
theorem con_ax_ok (N:Nat):(u_ax.con (W_ax N)).ok P0:=Uf.ok mixed (q_ax (W_Y N) (W_V N) N) ⟨con_Y_ok N,con_V_ok N,trivial⟩ Tryz.func121 (by kernel_rfl) fun x y=>by kernel_rfl
def u_a0:Uf:=⟨157,12,Tryz.f157,[.val (.list (.int .i64))],[],
⟨[(2,.val (.int .i64))],[]⟩,[],
[],
[],fun y=>(valW (.int .i64) y,[],[])⟩
def V_a0 (N:Nat) (x:List Int):Option (Int):=
 cnd (decide ((↑(List.length x):Int)<(2:Int))) (some (0:Int)) (cnd (decide ((0:Int)≤wr .i64 ((↑(List.length x):Int)-(2:Int)))&&decide (wr
 .i64 ((↑(List.length x):Int)-(2:Int))<(↑(List.length x):Int))) (some (List.getD x (Int.toNat (wr .i64 ((↑(List.length x):Int)-(2:Int))))
 (0:Int))) none)
theorem q_a0:∀N x,u_a0.F L0 P0 (orcOf []) N x=V_a0 N x:=by intros;kernel_rfl
def W_a0 (N:Nat):=V_a0 N
theorem con_a0_ok (N:Nat):(u_a0.con (W_a0 N)).ok P0:=Uf.ok mixed (q_a0 N) trivial Tryz.func157 (by kernel_rfl) fun x y=>by kernel_rfl
def u_P:Uf:=⟨123,9,Tryz.f123,[.val (.list (.int .i64))],[],
⟨[(2,.val (.int .i64))],[]⟩,[],
[],
[],fun y=>(valW (.int .i64) y,[],[])⟩
def V_P (w_a0:List Int→Option (Int)) (N:Nat) (x:List Int):Option (Int):=
 obind (w_a0 x) fun b=>cnd (decide (b=(0:Int))) (some (1:Int)) (some b)
theorem q_P:∀w_a0 N x,u_P.F L0 P0 (orcOf [u_a0.con w_a0]) N x=V_P w_a0 N x:=by intros;kernel_rfl
def W_P (N:Nat):=V_P (W_a0 N) N
theorem con_P_ok (N:Nat):(u_P.con (W_P N)).ok P0:=Uf.ok mixed (q_P (W_a0 N) N) ⟨con_a0_ok N,trivial⟩ Tryz.func123 (by kernel_rfl) fun x y=>by kernel_rfl
def u_aP:Uf:=⟨122,89,Tryz.f122,[.val (.agg T0_),.val (.agg T_)],[],
⟨[(4,.ptr 600004 0),(5,.val (.list (.agg T_)))],[(600004,.box 31 (.val T0_))]⟩,[],
[],
[(1000003,.reg [(10,[],⟨[(2,.ptr 600002 0),(3,.ptr 600003 0),(4,.ptr 600004 0),(28,.val .bool)],[(600002,.box 31 (.val T0_)),(600003,.box 46 (.val T_)),(600004,.box 31 (.val T0_))]⟩)]),
(5,.cut [] [(.normal,⟨[(2,.ptr 600002 0),(3,.ptr 600003 0),(4,.ptr 600004 0)],[(600002,.box 31 (.val T0_)),(600003,.box 46 (.val T_)),(600004,.box 31 (.val T0_))]⟩),(.ret,⟨[(4,.ptr 600004 0),(5,.val (.list (.agg T_)))],[(600004,.box 31 (.val T0_))]⟩)]),
(3,.cut [] [(.normal,⟨[(2,.ptr 600002 0),(3,.ptr 600003 0),(4,.ptr 600004 0)],[(600002,.box 31 (.val T0_)),(600003,.box 46 (.val T_)),(600004,.box 31 (.val T0_))]⟩),(.ret,⟨[(4,.ptr 600004 0),(5,.val (.list (.agg T_)))],[(600004,.box 31 (.val T0_))]⟩)])],fun y=>(.tup [valW (.agg T0_) y.2,valW (.list (.agg T_)) y.1],[],[])⟩
def V_aP (w_j:A1_×Int×Int→Option (M_)) (w_r:List Int×Int→Option (List Int×Bool)) (w_P:List Int→Option (Int)) (N:Nat) (x:A1_×M_):Option (List (M_)×A1_):=
 obind (cnd (decide (x.1.2.2.2.1≠(0:Int))) (cnd (decide (x.2.2.1=x.1.2.2.2.1)) (some (Sum.inr ([],x.1))) (some (Sum.inl (x.1,x.2,(0:Int),
 (0:Int),(0:Int),(0:Int),(0:Int),(0:Int),[],(0:Int),(0:Int),(0:Int),(0:Int),(0:Int),[])))) (some (Sum.inl (x.1,x.2,(0:Int),(0:Int),
 (0:Int),(0:Int),(0:Int),(0:Int),[],(0:Int),(0:Int),(0:Int),(0:Int),(0:Int),[])))) fun(b:A1_×A2_×Int×Int×Int×Int×Int×Int×List Int×Int×Int×Int×Int×Int×List (Int×Int×Int)⊕List A2_×A1_)=>selim (fun(b:A1_×A2_×A1_)=>obind (obind (cnd (decide
 (b.1.2.2.2.2.2.2.2.2.2.1=(0:Int))) (some (true,b)) (some (decide (b.1.2.2.2.2.2.2.2.2.2.1≠b.2.1.2.1),b))) fun(b:Bool×A1_×A2_×A1_)=>cnd b.1 (obind (w_j
 (b.2.1,(6:Int),b.2.2.1.2.1)) fun b_1=>some (Sum.inr ([b_1],b.2.1))) (cnd (decide (b.2.1.2.2.2.1≠(0:Int))) (obind (w_j (b.2.1,
 (6:Int),b.2.2.1.2.1)) fun b_1=>some (Sum.inr ([b_1],b.2.1))) (some (Sum.inl b.2)))) fun(b:A1_×A2_×Int×Int×Int×Int×Int×Int×List Int×Int×Int×Int×Int×Int×List (Int×Int×Int)⊕List A2_×A1_)=>selim (fun(b:A1_×A2_×A1_)=>obind (w_r
 (b.2.1.2.2.2.2.2.2.1,b.1.1)) fun b_1=>cnd (!b_1.2) (obind (w_j ((b.1.1,b.1.2.1,b.1.2.2.1,b.1.2.2.2.1,b.1.2.2.2.2.1,
 b.1.2.2.2.2.2.1,b.1.2.2.2.2.2.2.1,b.1.2.2.2.2.2.2.2.1,b.1.2.2.2.2.2.2.2.2.1,(0:Int),b.1.2.2.2.2.2.2.2.2.2.2.1,wr .i64
 (b.1.2.2.2.2.2.2.2.2.2.2.2.1+(1:Int)),b.1.2.2.2.2.2.2.2.2.2.2.2.2),(6:Int),b.2.1.2.1)) fun b_2=>some ([b_2],b.1.1,b.1.2.1,b.1.2.2.1,
 b.1.2.2.2.1,b.1.2.2.2.2.1,b.1.2.2.2.2.2.1,b.1.2.2.2.2.2.2.1,b.1.2.2.2.2.2.2.2.1,b.1.2.2.2.2.2.2.2.2.1,(0:Int),b.1.2.2.2.2.2.2.2.2.2.2.1,wr
 .i64 (b.1.2.2.2.2.2.2.2.2.2.2.2.1+(1:Int)),b.1.2.2.2.2.2.2.2.2.2.2.2.2)) (cnd (decide ((20:Int)<b.2.1.2.2.2.2.2.1)) (obind (w_j
 ((b.1.1,b.1.2.1,b.1.2.2.1,b.1.2.2.2.1,b.1.2.2.2.2.1,b.1.2.2.2.2.2.1,b.1.2.2.2.2.2.2.1,b.1.2.2.2.2.2.2.2.1,b.1.2.2.2.2.2.2.2.2.1,(0:Int),
 b.1.2.2.2.2.2.2.2.2.2.2.1,wr .i64 (b.1.2.2.2.2.2.2.2.2.2.2.2.1+(1:Int)),b.1.2.2.2.2.2.2.2.2.2.2.2.2),(6:Int),b.2.1.2.1)) fun b_2=>some
 ([b_2],b.1.1,b.1.2.1,b.1.2.2.1,b.1.2.2.2.1,b.1.2.2.2.2.1,b.1.2.2.2.2.2.1,b.1.2.2.2.2.2.2.1,b.1.2.2.2.2.2.2.2.1,b.1.2.2.2.2.2.2.2.2.1,
 (0:Int),b.1.2.2.2.2.2.2.2.2.2.2.1,wr .i64 (b.1.2.2.2.2.2.2.2.2.2.2.2.1+(1:Int)),b.1.2.2.2.2.2.2.2.2.2.2.2.2)) (obind (w_P
 b.2.1.2.2.2.2.2.2.1) fun b_2=>some ([],b.1.1,b.1.2.1,b.1.2.2.1,b.2.1.2.1,b.2.1.2.2.2.1,b_2,b_1.1,b.2.1.2.2.2.2.1,wr .i64 (b.1.2.2.1 -
 b.2.1.2.2.2.2.2.1),(0:Int),b.1.2.2.2.2.2.2.2.2.2.2.1,(0:Int),b.1.2.2.2.2.2.2.2.2.2.2.2.2)))) (fun(c:List A2_×A1_)=>some c)
 b) (fun(c:List A2_×A1_)=>some c) b
theorem q_aP:∀w_j w_r w_P N x,u_aP.F L0 P0 (orcOf [u_j.con w_j,u_r.con w_r,u_P.con w_P]) N x=V_aP w_j w_r w_P N x:=by intros;kernel_rfl
def W_aP (N:Nat):=V_aP (W_j N) (W_r N) (W_P N) N
theorem con_aP_ok (N:Nat):(u_aP.con (W_aP N)).ok P0:=Uf.ok mixed (q_aP (W_j N) (W_r N) (W_P N) N) ⟨con_j_ok N,con_r_ok N,con_P_ok N,trivial⟩ Tryz.func122 (by kernel_rfl) fun x y=>by kernel_rfl
def u_ae:Uf:=⟨62,246,Tryz.f62,[.val (.agg T0_),.val (.agg T_),.val (.int .i64)],[],
⟨[(6,.ptr 600006 0),(7,.val (.list (.agg T_)))],[(600006,.box 31 (.val T0_))]⟩,[],
[],
[(1000012,.reg [(10,[],⟨[(3,.ptr 600003 0),(4,.ptr 600004 0),(6,.ptr 600006 0),(87,.val .bool)],[(600003,.box 31 (.val T0_)),(600004,.box 46 (.val T_)),(600006,.box 31 (.val T0_))]⟩)]),
(14,.cut [] [(.normal,⟨[(3,.ptr 600003 0),(4,.ptr 600004 0),(6,.ptr 600006 0)],[(600003,.box 31 (.val T0_)),(600004,.box 46 (.val T_)),(600006,.box 31 (.val T0_))]⟩),(.ret,⟨[(6,.ptr 600006 0),(7,.val (.list (.agg T_)))],[(600006,.box 31 (.val T0_))]⟩)]),
(12,.cut [] [(.normal,⟨[(3,.ptr 600003 0),(4,.ptr 600004 0),(6,.ptr 600006 0),(11,.val (.int .i64))],[(600003,.box 31 (.val T0_)),(600004,.box 46 (.val T_)),(600006,.box 31 (.val T0_))]⟩)]),
(23,.cut [] [(.normal,⟨[(3,.ptr 600003 0),(6,.ptr 600006 0)],[(600003,.box 31 (.val T0_)),(600006,.box 31 (.val T0_))]⟩)]),
(6,.cut [] [(.normal,⟨[(3,.ptr 600003 0),(4,.ptr 600004 0),(6,.ptr 600006 0),(8,.val .bool)],[(600003,.box 31 (.val T0_)),(600004,.box 46 (.val T_)),(600006,.box 31 (.val T0_))]⟩)]),
(5,.cut [] [(.normal,⟨[(3,.ptr 600003 0),(4,.ptr 600004 0),(6,.ptr 600006 0)],[(600003,.box 31 (.val T0_)),(600004,.box 46 (.val T_)),(600006,.box 31 (.val T0_))]⟩)]),
(3,.cut [] [(.normal,⟨[(3,.ptr 600003 0),(4,.ptr 600004 0),(6,.ptr 600006 0)],[(600003,.box 31 (.val T0_)),(600004,.box 46 (.val T_)),(600006,.box 31 (.val T0_))]⟩),(.ret,⟨[(6,.ptr 600006 0),(7,.val (.list (.agg T_)))],[(600006,.box 31 (.val T0_))]⟩)])],fun y=>(.tup [valW (.agg T0_) y.2,valW (.list (.agg T_)) y.1],[],[])⟩
def V_ae (w_Y:List (Int×Int×Int)×Int×Int→Option (Bool)) (w_U:A1_×Int→Option A1_) (w_I:List (Int×Int×Int)×Int→Option (Bool×Int×Int×Int)) (w_E:A1_→Option (Bool)) (w_Z:List Int×Int→Option (Bool)) (w_j:A1_×Int×Int→Option (M_)) (w_ax:List (Int×Int×Int)×Int×Int×Int→Option (List (Int×Int×Int)×Bool)) (w_G:A1_×Int×Int→Option (M_)) (w_aP:A1_×M_→Option (List (M_)×A1_)) (w_r:List Int×Int→Option (List Int×Bool)) (w_P:List Int→Option (Int)) (w_V:List (Int×Int×Int)×Int→Option (List (Int×Int×Int))) (N:Nat) (x:A1_×(M_)×Int):Option (List (M_)×A1_):=
 obind (obind (w_Y (x.1.2.2.2.2.2.2.2.2.2.2.2.2,x.2.1.2.1,x.2.1.2.2.2.1)) fun b=>cnd b (some (Sum.inr ([],x.1))) (cnd (decide (x.2.1.2.1
 = x.1.2.2.2.1)) (cnd (decide (x.2.1.2.2.2.1<x.1.2.2.2.2.1)) (some (Sum.inr ([],x.1))) (some (Sum.inl (x.1,x.2.1,(0:Int),(0:Int),(0:Int),
 (0:Int),(0:Int),(0:Int),[],(0:Int),(0:Int),(0:Int),(0:Int),(0:Int),[])))) (some (Sum.inl (x.1,x.2.1,(0:Int),(0:Int),(0:Int),(0:Int),
 (0:Int),(0:Int),[],(0:Int),(0:Int),(0:Int),(0:Int),(0:Int),[]))))) fun(b:A1_×A2_×Int×Int×Int×Int×Int×Int×List Int×Int×Int×Int×Int×Int×List (Int×Int×Int)⊕List A2_×A1_)=>selim (fun(b:A1_×A2_×A1_)=>obind (cnd (decide (b.2.1.2.1=
 b.1.2.2.2.1)) (cnd (decide (b.1.2.2.2.2.1<b.2.1.2.2.2.1)) (obind (w_U (b.1,(0:Int))) fun b_1=>some (b_1,b.2)) (some b)) (some b))
 fun(b:A1_×A2_×A1_)=>obind
 (cnd (decide (b.1.2.2.2.1≠(0:Int))) (some (decide (b.2.1.2.1=b.1.2.2.2.1),b)) (some (false,b))) fun(b:Bool×A1_×A2_×A1_)=>cnd (decide (b.2.2.1.1=(1:Int))) (obind
 (w_I (b.2.1.2.2.2.2.2.2.2.2.2.2.2.2,b.2.2.1.2.1)) fun b_1=>obind (cnd (decide (b.2.1.1=(1:Int))) (some ((8:Int),b.2)) (some
 ((3:Int),b.2))) fun(b:Int×A1_×A2_×A1_)=>obind (obind (obind (w_E b.2.1) fun b_2=>cnd (!b_2) (some (true,b.2)) (obind (w_Z (b.2.1.2.2.2.2.2.2.1,
 b.2.2.1.2.1)) fun b_3=>some (b_3,b.2))) fun(b_2:Bool×A1_×A2_×A1_)=>cnd b_2.1 (obind (w_j (b_2.2.1,(3:Int),b_2.2.2.1.2.1)) fun b=>some (Sum.inr ([b],
 b_2.2.1))) (cnd (!b_1.1) (cnd (decide (b.1≤(↑(List.length b_2.2.1.2.2.2.2.2.2.2.2.2.2.2.2):Int))) (obind (w_j (b_2.2.1,(3:Int),
 b_2.2.2.1.2.1)) fun b=>some (Sum.inr ([b],b_2.2.1))) (some (Sum.inl b_2.2))) (some (Sum.inl b_2.2)))) fun(b:A1_×A2_×Int×Int×Int×Int×Int×Int×List Int×Int×Int×Int×Int×Int×List (Int×Int×Int)⊕List A2_×A1_)=>selim (fun(b:
 A1_×A2_×A1_)=>obind
 (w_ax (b.1.2.2.2.2.2.2.2.2.2.2.2.2,b.2.1.2.1,b.2.1.2.2.2.1,b.1.2.2.1)) fun b_2=>obind (w_G ((b.1.1,b.1.2.1,b.1.2.2.1,
 b.1.2.2.2.1,b.1.2.2.2.2.1,b.1.2.2.2.2.2.1,b.1.2.2.2.2.2.2.1,b.1.2.2.2.2.2.2.2.1,b.1.2.2.2.2.2.2.2.2.1,b.1.2.2.2.2.2.2.2.2.2.1,
 b.1.2.2.2.2.2.2.2.2.2.2.1,b.1.2.2.2.2.2.2.2.2.2.2.2.1,b_2.1),(2:Int),b.2.1.2.1)) fun b_3=>some ([(b_3.1,b_3.2.1,b_3.2.2.1,b_3.2.2.2.1,
 b_3.2.2.2.2.1,b_3.2.2.2.2.2.1,b_3.2.2.2.2.2.2.1,x.2.2,b_3.2.2.2.2.2.2.2.2)],b.1.1,b.1.2.1,b.1.2.2.1,b.1.2.2.2.1,b.1.2.2.2.2.1,
 b.1.2.2.2.2.2.1,b.1.2.2.2.2.2.2.1,b.1.2.2.2.2.2.2.2.1,b.1.2.2.2.2.2.2.2.2.1,b.1.2.2.2.2.2.2.2.2.2.1,b.1.2.2.2.2.2.2.2.2.2.2.1,
 b.1.2.2.2.2.2.2.2.2.2.2.2.1,b_2.1)) (fun(c:List A2_×A1_)=>some c) b) (cnd (decide (b.2.2.1.1=(2:Int))) (obind
 (w_aP (b.2.1,b.2.2.1)) fun b=>some b) (cnd (decide (b.2.2.1.1=(3:Int))) (obind (cnd (decide (b.2.1.2.2.2.2.2.2.2.2.2.1 ≠
 (0:Int))) (cnd (decide (b.2.1.2.2.2.2.2.2.2.2.2.1=b.2.2.1.2.1)) (some ((b.2.1.1,b.2.1.2.1,b.2.1.2.2.1,b.2.1.2.2.2.1,b.2.1.2.2.2.2.1,
 b.2.1.2.2.2.2.2.1,b.2.1.2.2.2.2.2.2.1,b.2.1.2.2.2.2.2.2.2.1,b.2.1.2.2.2.2.2.2.2.2.1,(0:Int),b.2.1.2.2.2.2.2.2.2.2.2.2.1,wr .i64
 (b.2.1.2.2.2.2.2.2.2.2.2.2.2.1+(1:Int)),b.2.1.2.2.2.2.2.2.2.2.2.2.2.2),b.2.2.2)) (some (b.2.1,b.2.2.2))) (some (b.2.1,b.2.2.2))) fun(b_1:
 A1_×A1_)=>cnd b.1 (obind (w_U (b_1.1,(0:Int))) fun b=>some ([],b)) (some ([],
 b_1.1))) (cnd (decide (b.2.2.1.1=(4:Int))) (obind (w_I (b.2.1.2.2.2.2.2.2.2.2.2.2.2.2,b.2.2.1.2.1)) fun b_1=>cnd (!b_1.1) (obind
 (w_j (b.2.1,(3:Int),b.2.2.1.2.1)) fun b_2=>some ([b_2],b.2.1)) (obind (w_ax (b.2.1.2.2.2.2.2.2.2.2.2.2.2.2,b.2.2.1.2.1,
 b.2.2.1.2.2.2.1,b.2.1.2.2.1)) fun b_2=>some ([],b.2.1.1,b.2.1.2.1,b.2.1.2.2.1,b.2.1.2.2.2.1,b.2.1.2.2.2.2.1,b.2.1.2.2.2.2.2.1,
 b.2.1.2.2.2.2.2.2.1,b.2.1.2.2.2.2.2.2.2.1,b.2.1.2.2.2.2.2.2.2.2.1,b.2.1.2.2.2.2.2.2.2.2.2.1,b.2.1.2.2.2.2.2.2.2.2.2.2.1,
 b.2.1.2.2.2.2.2.2.2.2.2.2.2.1,b_2.1))) (cnd (decide (b.2.2.1.1=(5:Int))) (cnd (!b.1) (obind (w_j (b.2.1,(6:Int),b.2.2.1.2.1)) fun
 b_1=>some ([b_1],b.2.1)) (obind (w_r (b.2.2.1.2.2.2.2.2.2.1,b.2.1.1)) fun b_1=>cnd (!b_1.2) (obind (w_U (b.2.1,
 (1:Int))) fun b_2=>obind (w_j (b.2.1,(6:Int),b.2.2.1.2.1)) fun b=>some ([b],b_2)) (obind (w_P b.2.2.1.2.2.2.2.2.2.1)
 fun b_2=>cnd (decide (b.2.1.2.2.2.2.2.2.2.2.1<wr .i64 (b.2.1.2.2.1-b.2.2.1.2.2.2.2.2.1))) (some ([],b.2.1.1,b.2.1.2.1,b.2.1.2.2.1,
 b.2.1.2.2.2.1,b.2.1.2.2.2.2.1,b_2,b_1.1,b.2.2.1.2.2.2.2.1,wr .i64 (b.2.1.2.2.1-b.2.2.1.2.2.2.2.2.1),b.2.1.2.2.2.2.2.2.2.2.2)) (some ([],
 b.2.1.1,b.2.1.2.1,b.2.1.2.2.1,b.2.1.2.2.2.1,b.2.1.2.2.2.2.1,b_2,b_1.1,b.2.1.2.2.2.2.2.2.2))))) (cnd (decide (b.2.2.1.1=(6:Int))) (obind
 (w_V (b.2.1.2.2.2.2.2.2.2.2.2.2.2.2,b.2.2.1.2.1)) fun b_1=>some ([],b.2.1.1,b.2.1.2.1,b.2.1.2.2.1,b.2.1.2.2.2.1,b.2.1.2.2.2.2.1,
 b.2.1.2.2.2.2.2.1,b.2.1.2.2.2.2.2.2.1,b.2.1.2.2.2.2.2.2.2.1,b.2.1.2.2.2.2.2.2.2.2.1,b.2.1.2.2.2.2.2.2.2.2.2.1,b.2.1.2.2.2.2.2.2.2.2.2.2.1,
 b.2.1.2.2.2.2.2.2.2.2.2.2.2.1,b_1)) (some ([],b.2.1)))))))) (fun(c:List A2_×A1_)=>some c) b
theorem q_ae:∀w_Y w_U w_I w_E w_Z w_j w_ax w_G w_aP w_r w_P w_V N x,u_ae.F L0 P0 (orcOf [u_Y.con w_Y,u_U.con w_U,u_I.con w_I,u_E.con w_E,u_Z.con w_Z,u_j.con w_j,u_ax.con w_ax,u_G.con w_G,u_aP.con w_aP,u_r.con w_r,u_P.con w_P,u_V.con w_V]) N x=V_ae w_Y w_U w_I w_E w_Z w_j w_ax w_G w_aP w_r w_P w_V N x:=by intros;kernel_rfl
def W_ae (N:Nat):=V_ae (W_Y N) (W_U N) (W_I N) (W_E N) (W_Z N) (W_j N) (W_ax N) (W_G N) (W_aP N) (W_r N) (W_P N) (W_V N) N
theorem con_ae_ok (N:Nat):(u_ae.con (W_ae N)).ok P0:=Uf.ok mixed (q_ae (W_Y N) (W_U N) (W_I N) (W_E N) (W_Z N) (W_j N) (W_ax N) (W_G N) (W_aP N) (W_r N) (W_P N) (W_V N) N) ⟨con_Y_ok N,con_U_ok N,con_I_ok N,con_E_ok N,con_Z_ok N,con_j_ok N,con_ax_ok N,con_G_ok N,con_aP_ok N,con_r_ok N,con_P_ok N,con_V_ok N,trivial⟩ Tryz.func62 (by kernel_rfl) fun x y=>by kernel_rfl
def u_be:Uf:=⟨33,112,Tryz.f33,[.ptr 0 0,.val (.int .i64),.val (.int .i64)],[.box 72 T6_],
⟨[(0,.ptr 1000000 0),(6,.ptr 600006 0)],[(1000000,.box 72 (.val T6_)),(600006,.box 31 (.val T0_))]⟩,[true],
[(3,.loop [] ⟨[(0,.ptr 1000000 0),(6,.ptr 600006 0),(7,.ptr 600007 0),(8,.val (.int .i64))],[(1000000,.box 72 (.val T6_)),(600006,.box 31 (.val T0_)),(600007,.box 31 (.val T0_))]⟩ [(.exit 0,⟨[(0,.ptr 1000000 0),(6,.ptr 600006 0),(7,.ptr 600007 0)],[(1000000,.box 72 (.val T6_)),(600006,.box 31 (.val T0_)),(600007,.box 31 (.val T0_))]⟩)])],
[(13,.cut [] [(.normal,⟨[(0,.ptr 1000000 0),(6,.ptr 600006 0),(7,.ptr 600007 0),(9,.ptr 600009 0)],[(1000000,.box 72 (.val T6_)),(600006,.box 31 (.val T0_)),(600007,.box 31 (.val T0_)),(600009,.box 46 (.val T_))]⟩)]),
(18,.cut [] [(.normal,⟨[(0,.ptr 1000000 0),(6,.ptr 600006 0),(7,.ptr 600007 0),(10,.ptr 600010 0)],[(1000000,.box 72 (.val T6_)),(600006,.box 31 (.val T0_)),(600007,.box 31 (.val T0_)),(600010,.box 46 (.val T_))]⟩)])],fun y=>(valW (.agg T0_) y.2,[.box 72 (cellsW T6_ y.1)],[])⟩
def V_be (w_a:Int×List Int×Int→Option (Int×List Int×Int)) (w_y:Int×Int×Int×Int→Option A1_) (w_3:List Int×Int→Option (Bool×List Int×Int)) (w_a3:A1_→Option (List (M_)×A1_)) (w_C:Int×List Int×Int→Option ((List Int×Int)×M_)) (w_B:List Int×Int→Option (List Int×List Int×Int)) (w_ae:A1_×(M_)×Int→Option (List (M_)×A1_)) (N:Nat) (x:Int×Int×List Int×Int):Option ((List Int×Int)×A1_):=
 obind (w_a ((5:Int),x.2.2)) fun b=>obind (w_a ((4:Int),b.2)) fun b_1=>obind (w_y (x.1,(2:Int),b.1,b_1.1)) fun
 b_2=>obind (loopN N (fun(v:Int×(List Int×Int)×A1_×A1_)=>cnd (decide (v.1<x.2.1))
 (obind (w_3 v.2.1) fun b_3=>cnd (!b_3.1) (obind (w_a ((4:Int),b_3.2)) fun b_4=>cnd (decide (b_4.1=(0:Int))) (obind
 (w_a3 v.2.2.2) fun b=>some (Sum.inl (wr .i64 (v.1+(1:Int)),b_4.2,v.2.2.1,b.2))) (cnd (decide (b_4.1=(1:Int))) (obind (w_C (x.1,b_4.2)) fun b_5=>obind (cnd (decide (v.2.2.2.2.2.2.2.2.2.2.2.2.1≠(0:Int))) (cnd (decide (v.2.2.2.2.2.2.2.2.2.2.2.2.1≠x.1)) (obind
 (w_a ((2:Int),b_5.1)) fun b_6=>obind (w_a ((9:Int),b_6.2)) fun b_7=>obind (w_a ((22:Int),b_7.2)) fun b_8=>
 obind (w_B b_8.2) fun b_9=>cnd (decide ((0:Int)≤(1:Int))&&decide ((1:Int)≤(↑(List.length b_9.1):Int))) (cnd (decide
 (List.length ([(1:Int)]++List.drop (1:Nat) (List.take (List.length b_9.1) b_9.1))*(8:Nat)≤(140737488355328:Nat))) (obind (w_a
 ((4:Int),b_9.2)) fun b=>some (b.2,v.2.2.1,v.2.2.2,(2:Int),v.2.2.2.2.2.2.2.2.2.2.2.2.1,x.1,wr .i64 ((1:Int)+b_6.1),b_7.1,b_8.1,
 [(1:Int)]++List.drop (1:Nat) (List.take (List.length b_9.1) b_9.1),wr .i64 ((1:Int)+b.1),(0:Int),[])) none) none) (some (b_5.1,v.2.2.1,
 v.2.2.2,b_5.2))) (some (b_5.1,v.2.2.1,v.2.2.2,b_5.2))) fun(b:(List Int×Int)×A1_×A1_×A2_)=>obind (w_ae (b.2.2.1,b.2.2.2,(1:Int))) fun b_6=>some
 (Sum.inl (wr .i64 (v.1+(1:Int)),b.1,b.2.1,b_6.2))) (cnd (decide (b_4.1=(2:Int))) (obind (w_C (x.1,b_4.2)) fun b=>obind (cnd
 (decide (v.2.2.2.2.2.2.1≠(0:Int))) (obind (w_a ((30:Int),b.1)) fun b=>obind (w_a ((20:Int),b.2)) fun b_5=>obind
 (w_B b_5.2) fun b_6=>obind (w_a ((9:Int),b_6.2)) fun b_7=>some (b_7.2,v.2.2.1,v.2.2.2,(5:Int),v.2.2.2.2.2.2.1,x.1,
 v.2.2.2.2.2.2.2.1,b.1,b_5.1,b_6.1,(0:Int),b_7.1,[])) (some (b.1,v.2.2.1,v.2.2.2,b.2))) fun(b:(List Int×Int)×A1_×A1_×A2_)=>obind (w_ae (b.2.2.1,
 b.2.2.2,(1:Int))) fun b_5=>some (Sum.inl (wr .i64 (v.1+(1:Int)),b.1,b.2.1,b_5.2))) (obind (w_C (x.1,b_4.2)) fun b=>obind
 (w_ae (v.2.2.2,b.2,(1:Int))) fun b_5=>some (Sum.inl (wr .i64 (v.1+(1:Int)),b.1,v.2.2.1,b_5.2)))))) (some (Sum.inr (b_3.2,
 v.2.2)))) (some (Sum.inr v.2))) ((0:Int),b_1.2,((0:Int),(0:Int),(0:Int),(0:Int),(0:Int),(0:Int),[],(0:Int),(0:Int),(0:Int),(0:Int),
 (0:Int),[]),b_2)) fun(b:(List Int×Int)×A1_×A1_)=>some (b.1,b.2.2)
theorem q_be:∀w_a w_y w_3 w_a3 w_C w_B w_ae N x,u_be.F L0 P0 (orcOf [u_a.con w_a,u_y.con w_y,u_3.con w_3,u_a3.con w_a3,u_C.con w_C,u_B.con w_B,u_ae.con w_ae]) N x=V_be w_a w_y w_3 w_a3 w_C w_B w_ae N x:=by intros;kernel_rfl
def W_be (N:Nat):=V_be (W_a N) (W_y N) (W_3 N) (W_a3 N) (W_C N) (W_B N) (W_ae N) N
theorem con_be_ok (N:Nat):(u_be.con (W_be N)).ok P0:=Uf.ok mixed (q_be (W_a N) (W_y N) (W_3 N) (W_a3 N) (W_C N) (W_B N) (W_ae N) N) ⟨con_a_ok N,con_y_ok N,con_3_ok N,con_a3_ok N,con_C_ok N,con_B_ok N,con_ae_ok N,trivial⟩ Tryz.func33 (by kernel_rfl) fun x y=>by kernel_rfl
def u_m:Uf:=⟨65,18,Tryz.f65,[.val (.agg T1_),.val (.int .i64)],[],
⟨[(4,.ptr 600004 0)],[(600004,.box 37 (.val T1_))]⟩,[],
[],
[],fun y=>(valW (.agg T1_) y,[],[])⟩
def V_m (N:Nat) (x:A0_×Int):Option A0_:=
 cnd (decide ((0:Int)<x.1.1)) (cnd (decide (x.2≤(1000000:Int))) (some (x.1.1,max x.1.2.1 x.2,x.1.2.2)) (some x.1)) (some x.1)
theorem q_m:∀N x,u_m.F L0 P0 (orcOf []) N x=V_m N x:=by intros;kernel_rfl
def W_m (N:Nat):=V_m N
theorem con_m_ok (N:Nat):(u_m.con (W_m N)).ok P0:=Uf.ok mixed (q_m N) trivial Tryz.func65 (by kernel_rfl) fun x y=>by kernel_rfl
def u_aE:Uf:=⟨63,21,Tryz.f63,[.val (.agg T1_),.val (.int .i64)],[],
⟨[(4,.ptr 600004 0)],[(600004,.box 37 (.val T1_))]⟩,[],
[],
[],fun y=>(valW (.agg T1_) y,[],[])⟩
def V_aE (w_m:A0_×Int→Option A0_) (N:Nat) (x:A0_×Int):Option A0_:=
 cnd (decide ((0:Int)<x.1.1)) (obind (w_m (x.1,wr .i64 (x.2-(1:Int)))) fun b=>some b) (cnd (decide ((1:Int)≤x.2)) (cnd (decide (x.2≤(1000000:Int))) (some (x.2,x.1.2)) (some x.1)) (some x.1))
theorem q_aE:∀w_m N x,u_aE.F L0 P0 (orcOf [u_m.con w_m]) N x=V_aE w_m N x:=by intros;kernel_rfl
def W_aE (N:Nat):=V_aE (W_m N) N
theorem con_aE_ok (N:Nat):(u_aE.con (W_aE N)).ok P0:=Uf.ok mixed (q_aE (W_m N) N) ⟨con_m_ok N,trivial⟩ Tryz.func63 (by kernel_rfl) fun x y=>by kernel_rfl
def u_v:Uf:=⟨90,18,Tryz.f90,[.val (.agg T7_)],[],
⟨[(2,.val .bool)],[]⟩,[],
[],
[(1000001,.reg [(10,[],⟨[(1,.ptr 600001 0),(12,.val .bool)],[(600001,.box 101 (.val T7_))]⟩)])],fun y=>(valW .bool y,[],[])⟩
def V_v (N:Nat) (x:Int×Int):Option (Bool):=
 obind (cnd (decide ((1:Int)≤x.1)) (some (decide (x.1≤x.2),x)) (some (false,x))) fun(b:Bool×Int×Int)=>cnd b.1 (some (decide (b.2.2≤(1000000:Int)))) (some false)
theorem q_v:∀N x,u_v.F L0 P0 (orcOf []) N x=V_v N x:=by intros;kernel_rfl
def W_v (N:Nat):=V_v N
theorem con_v_ok (N:Nat):(u_v.con (W_v N)).ok P0:=Uf.ok mixed (q_v N) trivial Tryz.func90 (by kernel_rfl) fun x y=>by kernel_rfl
def u_F:Uf:=⟨158,10,Tryz.f158,[.val (.list T5_)],[],
⟨[(2,.val (.int .i64))],[]⟩,[],
[],
[],fun y=>(valW (.int .i64) y,[],[])⟩
def V_F (N:Nat) (x:List (Int×List UInt8)):Option (Int):=
 cnd (decide ((↑(List.length x):Int)=(0:Int))) (some (0:Int)) (cnd (decide ((0:Int)≤(0:Int))&&decide ((0:Int)<(↑(List.length x):Int))) (some (Prod.fst (List.getD x (0:Nat) ((0:Int),[])))) none)
theorem q_F:∀N x,u_F.F L0 P0 (orcOf []) N x=V_F N x:=by intros;kernel_rfl
def W_F (N:Nat):=V_F N
theorem con_F_ok (N:Nat):(u_F.con (W_F N)).ok P0:=Uf.ok mixed (q_F N) trivial Tryz.func158 (by kernel_rfl) fun x y=>by kernel_rfl
def u_aG:Uf:=⟨159,18,Tryz.f159,[.val (.list T4_),.val (.int .i64),.val (.int .i64),.val (.int .i64)],[],
⟨[(8,.val (.list T4_))],[]⟩,[],
[],
[],fun y=>(valW (.list T4_) y,[],[])⟩
def V_aG (N:Nat) (x:List A4_×Int×Int×Int):Option (List A4_):=
 cnd (decide (List.length x.1*(48:Nat)≤(140737488355328:Nat))) (cnd (decide ((List.length x.1+(1:Nat))*(48:Nat)≤(140737488355328:Nat))) (some (x.1++[((2:Int),x.2.1,x.2.2.1,[],x.2.2.2)])) none) none
theorem q_aG:∀N x,u_aG.F L0 P0 (orcOf []) N x=V_aG N x:=by intros;kernel_rfl
def W_aG (N:Nat):=V_aG N
theorem con_aG_ok (N:Nat):(u_aG.con (W_aG N)).ok P0:=Uf.ok mixed (q_aG N) trivial Tryz.func159 (by kernel_rfl) fun x y=>by kernel_rfl
def u_9:Uf:=⟨160,27,Tryz.f160,[.val (.list T5_),.val (.int .i64)],[],
⟨[(4,.val (.list T5_)),(5,.ptr 600005 0),(6,.val .bool)],[(600005,.box 69 (.val (.pair (.int .i64) .str)))]⟩,[],
[],
[],fun y=>(.tup [valW (.list T5_) y.1,valW T5_ y.2.2,valW .bool y.2.1],[],[])⟩
def V_9 (N:Nat) (x:List (Int×List UInt8)×Int):Option (List (Int×List UInt8)×Bool×Int×List UInt8):=
 cnd (decide ((↑(List.length x.1):Int)=(0:Int))) (some (x.1,false,(0:Int),[])) (cnd (decide ((0:Int)≤(0:Int))&&decide ((0:Int) <
 (↑(List.length x.1):Int))) (cnd (decide (Prod.fst (List.getD x.1 (0:Nat) ((0:Int),[]))≠x.2)) (some (x.1,false,(0:Int),[])) (cnd (decide
 ((0:Int)≤(1:Int))&&decide ((1:Int)≤(↑(List.length x.1):Int))) (cnd (decide (List.length (List.drop (1:Nat) (List.take (List.length x.1)
 x.1))*(24:Nat)≤(140737488355328:Nat))) (cnd (decide ((0:Int)≤(0:Int))&&decide ((0:Int)<(↑(List.length x.1):Int))) (some (List.drop
 (1:Nat) (List.take (List.length x.1) x.1),true,Prod.fst (List.getD x.1 (0:Nat) ((0:Int),[])),Prod.snd (List.getD x.1 (0:Nat) ((0:Int),[]))))
 none) none) none)) none)
theorem q_9:∀N x,u_9.F L0 P0 (orcOf []) N x=V_9 N x:=by intros;kernel_rfl
def W_9 (N:Nat):=V_9 N
theorem con_9_ok (N:Nat):(u_9.con (W_9 N)).ok P0:=Uf.ok mixed (q_9 N) trivial Tryz.func160 (by kernel_rfl) fun x y=>by kernel_rfl
def u_aZ:Uf:=⟨161,16,Tryz.f161,[.val (.list T4_),.val (.int .i64),.val .str],[],
⟨[(6,.val (.list T4_))],[]⟩,[],
[],
[],fun y=>(valW (.list T4_) y,[],[])⟩
def V_aZ (N:Nat) (x:List A4_×Int×List UInt8):Option (List A4_):=
 cnd (decide (List.length x.1*(48:Nat)≤(140737488355328:Nat))) (cnd (decide ((List.length x.1+List.length [((1:Int),x.2.1,x.2.1,x.2.2,(0:Int))])*(48:Nat)≤(140737488355328:Nat))) (some (x.1++[((1:Int),x.2.1,x.2.1,x.2.2,(0:Int))])) none) none
theorem q_aZ:∀N x,u_aZ.F L0 P0 (orcOf []) N x=V_aZ N x:=by intros;kernel_rfl
def W_aZ (N:Nat):=V_aZ N
theorem con_aZ_ok (N:Nat):(u_aZ.con (W_aZ N)).ok P0:=Uf.ok mixed (q_aZ N) trivial Tryz.func161 (by kernel_rfl) fun x y=>by kernel_rfl
def u_aS:Uf:=⟨162,35,Tryz.f162,[.val (.list T5_),.val T5_],[],
⟨[(4,.val (.list T5_))],[]⟩,[],
[],
[],fun y=>(valW (.list T5_) y,[],[])⟩
def V_aS (N:Nat) (x:List (Int×List UInt8)×Int×List UInt8):Option (List (Int×List UInt8)):=
 cnd (decide (List.length x.1*(24:Nat)≤(140737488355328:Nat))) (cnd (decide ((0:Int)<(↑(List.length x.1):Int))) (cnd (decide ((0:Int)≤wr .i64
 ((↑(List.length x.1):Int)-(1:Int)))&&decide (wr .i64 ((↑(List.length x.1):Int)-(1:Int))<(↑(List.length x.1):Int))) (cnd (decide (x.2.1
 ≤ Prod.fst (List.getD x.1 (Int.toNat (wr .i64 ((↑(List.length x.1):Int)-(1:Int)))) ((0:Int),[])))) (some x.1) (cnd (decide ((List.length x.1 +
 List.length [x.2])*(24:Nat)≤(140737488355328:Nat))) (cnd (decide ((6:Int)<(↑(List.length (x.1++[x.2])):Int))) (cnd (decide (Option.getD
 (some (1:Int)) (0:Int)≤(↑(List.length (x.1++[x.2])):Int))) (some (List.drop ((0:Nat)+Prod.fst (Prod.snd (cutT (0:Nat) (List.length (x.1++
 [x.2])) (List.length (x.1++[x.2])) (some (1:Int)) none))) (List.take ((0:Nat)+Prod.fst (Prod.snd (cutT (0:Nat) (List.length (x.1++[x.2]))
 (List.length (x.1++[x.2])) (some (1:Int)) none))+(Prod.snd (Prod.snd (cutT (0:Nat) (List.length (x.1++[x.2])) (List.length (x.1++[x.2]))
 (some (1:Int)) none))-Prod.fst (Prod.snd (cutT (0:Nat) (List.length (x.1++[x.2])) (List.length (x.1++[x.2])) (some (1:Int)) none)))) (x.1++
 [x.2])))) none) (some (x.1++[x.2]))) none)) none) (cnd (decide ((List.length x.1+List.length [x.2])*(24:Nat)≤(140737488355328:Nat))) (cnd
 (decide ((6:Int)<(↑(List.length (x.1++[x.2])):Int))) (cnd (decide (Option.getD (some (1:Int)) (0:Int)≤(↑(List.length (x.1++[x.2])):
 Int))) (some (List.drop ((0:Nat)+Prod.fst (Prod.snd (cutT (0:Nat) (List.length (x.1++[x.2])) (List.length (x.1++[x.2])) (some (1:Int)) none)))
 (List.take ((0:Nat)+Prod.fst (Prod.snd (cutT (0:Nat) (List.length (x.1++[x.2])) (List.length (x.1++[x.2])) (some (1:Int)) none))+(Prod.snd
 (Prod.snd (cutT (0:Nat) (List.length (x.1++[x.2])) (List.length (x.1++[x.2])) (some (1:Int)) none))-Prod.fst (Prod.snd (cutT (0:Nat)
 (List.length (x.1++[x.2])) (List.length (x.1++[x.2])) (some (1:Int)) none)))) (x.1++[x.2])))) none) (some (x.1++[x.2]))) none)) none
theorem q_aS:∀N x,u_aS.F L0 P0 (orcOf []) N x=V_aS N x:=by intros;kernel_rfl
def W_aS (N:Nat):=V_aS N
theorem con_aS_ok (N:Nat):(u_aS.con (W_aS N)).ok P0:=Uf.ok mixed (q_aS N) trivial Tryz.func162 (by kernel_rfl) fun x y=>by kernel_rfl
def u_l:Uf:=⟨126,46,Tryz.f126,[.val (.agg T1_)],[],
⟨[(2,.ptr 600002 0),(3,.val (.list T5_))],[(600002,.box 37 (.val T1_))]⟩,[],
[(2,.loop [] ⟨[(1,.ptr 600001 0),(2,.ptr 600002 0),(4,.acc 700004)],[(600001,.box 37 (.val T1_)),(600002,.box 37 (.val T1_)),(700004,.nrow 69 T5_ true true)]⟩ [(.ret,⟨[(2,.ptr 600002 0),(3,.val (.list T5_))],[(600002,.box 37 (.val T1_))]⟩)])],
[],fun y=>(.tup [valW (.agg T1_) y.2,valW (.list T5_) y.1],[],[])⟩
def V_l (w_9:List (Int×List UInt8)×Int→Option (List (Int×List UInt8)×Bool×Int×List UInt8)) (w_aZ:List A4_×Int×List UInt8→Option (List A4_)) (w_aS:List (Int×List UInt8)×Int×List UInt8→Option (List (Int×List UInt8))) (N:Nat) (x:A0_):Option A5_:=
 obind (loopN N (fun(v:A0_×A0_×List (Int×List UInt8))
 => obind (w_9 (v.1.2.2.2.1,v.1.1)) fun b=>cnd (!b.2.1) (some (Sum.inr (v.2.2,v.1))) (obind (w_aZ (v.1.2.2.2.2.1,b.2.2))
 fun b_1=>obind (w_aS (v.1.2.2.1,b.2.2)) fun b_2=>cnd (decide ((List.length v.2.2+List.length [b.2.2])*(24:Nat) ≤
 (140737488355328:Nat))) (some (Sum.inl ((wr .i64 (v.1.1+(1:Int)),v.1.2.1,b_2,b.1,b_1,(0:Int),(0:Int)),v.2.1,v.2.2++[b.2.2]))) none)) (x,
 ((0:Int),(0:Int),[],[],[],(0:Int),(0:Int)),[])) fun(b:A5_)=>some b
theorem q_l:∀w_9 w_aZ w_aS N x,u_l.F L0 P0 (orcOf [u_9.con w_9,u_aZ.con w_aZ,u_aS.con w_aS]) N x=V_l w_9 w_aZ w_aS N x:=by intros;kernel_rfl
def W_l (N:Nat):=V_l (W_9 N) (W_aZ N) (W_aS N) N
theorem con_l_ok (N:Nat):(u_l.con (W_l N)).ok P0:=Uf.ok mixed (q_l (W_9 N) (W_aZ N) (W_aS N) N) ⟨con_9_ok N,con_aZ_ok N,con_aS_ok N,trivial⟩ Tryz.func126 (by kernel_rfl) fun x y=>by kernel_rfl
def u_O:Uf:=⟨125,73,Tryz.f125,[.val (.agg T1_),.val (.int .i64),.val (.int .i64)],[],
⟨[(6,.ptr 600006 0),(7,.val (.list (.agg T7_)))],[(600006,.box 37 (.val T1_))]⟩,[],
[(4,.loop [] ⟨[(3,.ptr 600003 0),(6,.ptr 600006 0),(8,.acc 700008)],[(600003,.box 37 (.val T1_)),(600006,.box 37 (.val T1_)),(700008,.nrow 101 (.agg T7_) true true)]⟩ [(.exit 0,⟨[(3,.ptr 600003 0),(6,.ptr 600006 0),(8,.val (.list (.agg T7_)))],[(600003,.box 37 (.val T1_)),(600006,.box 37 (.val T1_))]⟩)])],
[(13,.cut [] [(.normal,⟨[(3,.ptr 600003 0),(6,.ptr 600006 0),(8,.acc 700008)],[(600003,.box 37 (.val T1_)),(600006,.box 37 (.val T1_)),(700008,.nrow 101 (.agg T7_) true true)]⟩)]),
(9,.cut [] [(.normal,⟨[(3,.ptr 600003 0),(6,.ptr 600006 0),(8,.acc 700008),(9,.val (.int .i64))],[(600003,.box 37 (.val T1_)),(600006,.box 37 (.val T1_)),(700008,.nrow 101 (.agg T7_) true true)]⟩)])],fun y=>(.tup [valW (.agg T1_) y.2,valW (.list (.agg T7_)) y.1],[],[])⟩
def V_O (w_F:List (Int×List UInt8)→Option (Int)) (w_aG:List A4_×Int×Int×Int→Option (List A4_)) (w_l:A0_→Option A5_) (N:Nat) (x:A0_×Int×Int):Option (List (Int×Int)×A0_):=
 cnd (decide (x.1.1<(1:Int))) (some ([],x.1)) (cnd (decide ((1000000:Int)<x.2.1)) (some ([],x.1)) (obind (loopN N (fun(v:A0_×A0_×List (Int×Int))=>cnd (decide (v.1.1≤x.2.1)) (obind (cnd (decide
 ((0:Int)<(↑(List.length v.1.2.2.2.1):Int))) (obind (w_F v.1.2.2.2.1) fun b=>cnd (decide (b≤x.2.1)) (obind (w_F
 v.1.2.2.2.1) fun b=>some (wr .i64 (b-(1:Int)),(v.1.1,v.1.2.1,v.1.2.2.1,v.1.2.2.2.1,v.1.2.2.2.2.1,(0:Int),(0:Int)),v.2)) (some (x.2.1,
 (v.1.1,v.1.2.1,v.1.2.2.1,v.1.2.2.2.1,v.1.2.2.2.2.1,(0:Int),(0:Int)),v.2))) (some (x.2.1,(v.1.1,v.1.2.1,v.1.2.2.1,v.1.2.2.2.1,
 v.1.2.2.2.2.1,(0:Int),(0:Int)),v.2))) fun(b:Int×A0_×A0_×List (Int×Int))=>obind (cnd (decide (b.2.1.1≤b.1)) (obind (w_aG (b.2.1.2.2.2.2.1,b.2.1.1,b.1,x.2.2)) fun b_1=>cnd
 (decide ((List.length b.2.2.2+List.length [(b.2.1.1,b.1)])*(16:Nat)≤(140737488355328:Nat))) (some ((wr .i64 (b.1+(1:Int)),b.2.1.2.1,
 b.2.1.2.2.1,b.2.1.2.2.2.1,b_1,b.2.1.2.2.2.2.2),b.2.2.1,b.2.2.2++[(b.2.1.1,b.1)])) none) (some b.2)) fun(b:A0_×A0_×List (Int×Int))=>cnd (decide (b.1.1≤x.2.1)) (obind (w_l b.1) fun
 b_1=>some (Sum.inl (b_1.2,b.2))) (some (Sum.inl b))) (some (Sum.inr (v.2.2,v.1,v.2.1)))) (x.1,((0:Int),(0:Int),[],[],[],(0:Int),
 (0:Int)),[])) fun(b:List (Int×Int)×A0_×A0_)=>some
 (b.1,b.2.1)))
theorem q_O:∀w_F w_aG w_l N x,u_O.F L0 P0 (orcOf [u_F.con w_F,u_aG.con w_aG,u_l.con w_l]) N x=V_O w_F w_aG w_l N x:=by intros;kernel_rfl
def W_O (N:Nat):=V_O (W_F N) (W_aG N) (W_l N) N
theorem con_O_ok (N:Nat):(u_O.con (W_O N)).ok P0:=Uf.ok mixed (q_O (W_F N) (W_aG N) (W_l N) N) ⟨con_F_ok N,con_aG_ok N,con_l_ok N,trivial⟩ Tryz.func125 (by kernel_rfl) fun x y=>by kernel_rfl
def u_aD:Uf:=⟨64,44,Tryz.f64,[.val (.agg T1_),.val (.int .i64),.val (.int .i64)],[],
⟨[(6,.ptr 600006 0)],[(600006,.box 37 (.val T1_))]⟩,[],
[],
[],fun y=>(valW (.agg T1_) y,[],[])⟩
def V_aD (w_v:Int×Int→Option (Bool)) (w_m:A0_×Int→Option A0_) (w_O:A0_×Int×Int→Option (List (Int×Int)×A0_)) (w_l:A0_→Option A5_) (N:Nat) (x:A0_×Int×Int):Option A0_:=
 cnd (decide (x.1.1=(0:Int))) (some x.1) (obind (w_v x.2) fun b=>cnd (!b) (some x.1) (obind (w_m (x.1,x.2.2)) fun b=>
 cnd (decide (b.1<x.2.1)) (some b) (cnd (decide (x.2.2<b.1)) (some b) (obind (w_O (b,x.2.2,(1:Int))) fun b=>obind (w_l
 b.2) fun b=>some b.2))))
theorem q_aD:∀w_v w_m w_O w_l N x,u_aD.F L0 P0 (orcOf [u_v.con w_v,u_m.con w_m,u_O.con w_O,u_l.con w_l]) N x=V_aD w_v w_m w_O w_l N x:=by intros;kernel_rfl
def W_aD (N:Nat):=V_aD (W_v N) (W_m N) (W_O N) (W_l N) N
theorem con_aD_ok (N:Nat):(u_aD.con (W_aD N)).ok P0:=Uf.ok mixed (q_aD (W_v N) (W_m N) (W_O N) (W_l N) N) ⟨con_v_ok N,con_m_ok N,con_O_ok N,con_l_ok N,trivial⟩ Tryz.func64 (by kernel_rfl) fun x y=>by kernel_rfl
def u_aW:Uf:=⟨127,29,Tryz.f127,[.val (.agg T1_)],[],
⟨[(2,.ptr 600002 0),(3,.val .bool)],[(600002,.box 101 (.val T7_))]⟩,[],
[],
[(4,.cut [] [(.normal,⟨[(1,.ptr 600001 0),(2,.ptr 600002 0),(4,.val (.int .i64))],[(600001,.box 37 (.val T1_)),(600002,.box 101 (.val T7_))]⟩)])],fun y=>(.tup [valW (.agg T7_) y.2,valW .bool y.1],[],[])⟩
def V_aW (w_F:List (Int×List UInt8)→Option (Int)) (N:Nat) (x:A0_):Option (Bool×Int×Int):=
 obind (cnd (decide ((0:Int)<(↑(List.length x.2.2.2.1):Int))) (obind (w_F x.2.2.2.1) fun b=>some (wr .i64 (b-(1:Int)),x,(0:Int),
 (0:Int))) (some (x.2.1,x,(0:Int),(0:Int)))) fun(b:Int×A0_×Int×Int)=>cnd (decide (b.2.1.1=(0:Int))) (some (false,(0:Int),(0:Int))) (cnd (decide (b.1<b.2.1.1))
 (some (false,(0:Int),(0:Int))) (some (true,b.2.1.1,b.1)))
theorem q_aW:∀w_F N x,u_aW.F L0 P0 (orcOf [u_F.con w_F]) N x=V_aW w_F N x:=by intros;kernel_rfl
def W_aW (N:Nat):=V_aW (W_F N) N
theorem con_aW_ok (N:Nat):(u_aW.con (W_aW N)).ok P0:=Uf.ok mixed (q_aW (W_F N) N) ⟨con_F_ok N,trivial⟩ Tryz.func127 (by kernel_rfl) fun x y=>by kernel_rfl
def u_bm:Uf:=⟨128,14,Tryz.f128,[.val (.agg T7_),.val (.int .i64)],[],
⟨[(4,.val .bool)],[]⟩,[],
[],
[],fun y=>(valW .bool y,[],[])⟩
def V_bm (N:Nat) (x:(Int×Int)×Int):Option (Bool):=
 cnd (decide (x.1.1=(0:Int))) (some true) (some (decide (x.1.2≤x.2)))
theorem q_bm:∀N x,u_bm.F L0 P0 (orcOf []) N x=V_bm N x:=by intros;kernel_rfl
def W_bm (N:Nat):=V_bm N
theorem con_bm_ok (N:Nat):(u_bm.con (W_bm N)).ok P0:=Uf.ok mixed (q_bm N) trivial Tryz.func128 (by kernel_rfl) fun x y=>by kernel_rfl
def u_a1:Uf:=⟨129,26,Tryz.f129,[.val (.agg T7_),.val (.int .i64)],[],
⟨[(4,.ptr 600004 0)],[(600004,.box 35 (.val T7_))]⟩,[],
[(3,.loop [] ⟨[(2,.ptr 600002 0),(4,.ptr 600004 0),(5,.val (.int .i64)),(6,.val (.int .i64))],[(600002,.box 35 (.val T7_)),(600004,.box 35 (.val T7_))]⟩ [(.exit 0,⟨[(2,.ptr 600002 0),(4,.ptr 600004 0),(5,.val (.int .i64))],[(600002,.box 35 (.val T7_)),(600004,.box 35 (.val T7_))]⟩)])],
[],fun y=>(valW (.agg T7_) y,[],[])⟩
def V_a1 (N:Nat) (x:(Int×Int)×Int):Option (Int×Int):=
 obind (loopN N (fun(v:Int×Int×(Int×Int)×Int×Int)=>cnd (decide (v.2.1<v.2.2.1.1)) (cnd (decide (v.2.1<(3:Int))) (some (Sum.inl (wr
 .i64 (v.1*(2:Int)),wr .i64 (v.2.1+(1:Int)),v.2.2))) (some (Sum.inr (v.1,v.2.2)))) (some (Sum.inr (v.1,v.2.2)))) ((2:Int),(0:Int),x.1,
 (0:Int),(0:Int))) fun(b:Int×(Int×Int)×Int×Int)=>some (wr .i64 (b.2.1.1+(1:Int)),wr .i64 (x.2+b.1))
theorem q_a1:∀N x,u_a1.F L0 P0 (orcOf []) N x=V_a1 N x:=by intros;kernel_rfl
def W_a1 (N:Nat):=V_a1 N
theorem con_a1_ok (N:Nat):(u_a1.con (W_a1 N)).ok P0:=Uf.ok mixed (q_a1 N) trivial Tryz.func129 (by kernel_rfl) fun x y=>by kernel_rfl
def u_aI:Uf:=⟨66,50,Tryz.f66,[.val (.agg T1_),.val (.int .i64)],[],
⟨[(4,.ptr 600004 0),(5,.ptr 600005 0),(6,.val .bool)],[(600004,.box 37 (.val T1_)),(600005,.box 101 (.val T7_))]⟩,[],
[],
[],fun y=>(.tup [valW (.agg T1_) y.2.1,valW (.agg T7_) y.2.2,valW .bool y.1],[],[])⟩
def V_aI (w_aW:A0_→Option (Bool×Int×Int)) (w_bm:(Int×Int)×Int→Option (Bool)) (w_O:A0_×Int×Int→Option (List (Int×Int)×A0_)) (w_l:A0_→Option A5_) (w_a1:(Int×Int)×Int→Option (Int×Int)) (N:Nat) (x:A0_×Int):Option (Bool×A0_×Int×Int):=
 obind (w_aW x.1) fun b=>cnd (!b.1) (some (false,x.1,(0:Int),(0:Int))) (obind (w_bm (x.1.2.2.2.2.2,x.2)) fun b_1=>cnd (!b_1)
 (some (false,x.1,(0:Int),(0:Int))) (cnd (decide ((3:Int)≤x.1.2.2.2.2.2.1)) (obind (w_O (x.1,b.2.2,(2:Int))) fun b=>obind
 (w_l b.2) fun b=>some (false,b.2,(0:Int),(0:Int))) (obind (w_a1 (x.1.2.2.2.2.2,x.2)) fun b_2=>some (true,(x.1.1,
 x.1.2.1,x.1.2.2.1,x.1.2.2.2.1,x.1.2.2.2.2.1,b_2),b.2))))
theorem q_aI:∀w_aW w_bm w_O w_l w_a1 N x,u_aI.F L0 P0 (orcOf [u_aW.con w_aW,u_bm.con w_bm,u_O.con w_O,u_l.con w_l,u_a1.con w_a1]) N x=V_aI w_aW w_bm w_O w_l w_a1 N x:=by intros;kernel_rfl
def W_aI (N:Nat):=V_aI (W_aW N) (W_bm N) (W_O N) (W_l N) (W_a1 N) N
theorem con_aI_ok (N:Nat):(u_aI.con (W_aI N)).ok P0:=Uf.ok mixed (q_aI (W_aW N) (W_bm N) (W_O N) (W_l N) (W_a1 N) N) ⟨con_aW_ok N,con_bm_ok N,con_O_ok N,con_l_ok N,con_a1_ok N,trivial⟩ Tryz.func66 (by kernel_rfl) fun x y=>by kernel_rfl
def u_a9:Uf:=⟨163,25,Tryz.f163,[.val (.list T5_),.val (.int .i64)],[],
⟨[(4,.val .str),(5,.val .bool)],[]⟩,[],
[(2,.loop [] ⟨[(6,.val (.int .i64))],[]⟩ [(.exit 0,⟨[],[]⟩),(.ret,⟨[(4,.val .str),(5,.val .bool)],[]⟩)])],
[],fun y=>(.tup [valW .str y.1,valW .bool y.2],[],[])⟩
def V_a9 (N:Nat) (x:List (Int×List UInt8)×Int):Option (List UInt8×Bool):=
 obind (loopN N (fun(v:Int)=>cnd (decide (v<(↑(List.length x.1):Int))) (cnd (decide ((0:Int)≤v)&&decide (v<(↑(List.length x.1):Int)))
 (cnd (decide (Prod.fst (List.getD x.1 (Int.toNat v) ((0:Int),[]))=x.2)) (cnd (decide ((0:Int)≤v)&&decide (v<(↑(List.length x.1):Int)))
 (some (Sum.inr (Sum.inr (Prod.snd (List.getD x.1 (Int.toNat v) ((0:Int),[])),true)))) none) (some (Sum.inl (wr .i64 (v+(1:Int)))))) none) (some
 (Sum.inr (Sum.inl ())))) (Int.ofNat (0:Nat))) fun(b:PUnit⊕List UInt8×Bool)=>selim (fun(b:PUnit)=>some ([],false)) (fun(c:List UInt8×Bool)=>some c) b
theorem q_a9:∀N x,u_a9.F L0 P0 (orcOf []) N x=V_a9 N x:=by intros;kernel_rfl
def W_a9 (N:Nat):=V_a9 N
theorem con_a9_ok (N:Nat):(u_a9.con (W_a9 N)).ok P0:=Uf.ok mixed (q_a9 N) trivial Tryz.func163 (by kernel_rfl) fun x y=>by kernel_rfl
def u_aC:Uf:=⟨130,71,Tryz.f130,[.val (.list T5_),.val (.int .i64),.val T5_],[],
⟨[(6,.val (.list T5_)),(7,.val .bool)],[]⟩,[],
[(7,.loop [] ⟨[(5,.ptr 600005 0),(10,.acc 700010),(11,.val .bool),(12,.val (.int .i64))],[(600005,.box 69 (.val (.pair (.int .i64) .str))),(700010,.nrow 69 T5_ true true)]⟩ [(.exit 0,⟨[(5,.ptr 600005 0),(10,.acc 700010),(11,.val .bool)],[(600005,.box 69 (.val (.pair (.int .i64) .str))),(700010,.nrow 69 T5_ true true)]⟩)])],
[(11,.cut [] [(.normal,⟨[(5,.ptr 600005 0),(10,.acc 700010),(11,.val .bool)],[(600005,.box 69 (.val (.pair (.int .i64) .str))),(700010,.nrow 69 T5_ true true)]⟩)])],fun y=>(.tup [valW (.list T5_) y.1,valW .bool y.2],[],[])⟩
def V_aC (w_a9:List (Int×List UInt8)×Int→Option (List UInt8×Bool)) (N:Nat) (x:List (Int×List UInt8)×Int×Int×List UInt8):Option (List (Int×List UInt8)×Bool):=
 obind (w_a9 (x.1,x.2.2.1)) fun b=>cnd (decide (x.2.2.1<x.2.1)) (some (x.1,false)) (cnd (decide ((8:Int)≤wr .i64 (x.2.2.1-x.2.1)))
 (some (x.1,false)) (cnd b.2 (some (x.1,false)) (obind (loopN N (fun(v:Bool×Int×(Int×List UInt8)×List (Int×List UInt8))=>cnd (decide
 (v.2.1<(↑(List.length x.1):Int))) (obind (cnd (!v.1) (cnd (decide ((0:Int)≤v.2.1)&&decide (v.2.1<(↑(List.length x.1):Int))) (cnd (decide
 (v.2.2.1.1<Prod.fst (List.getD x.1 (Int.toNat v.2.1) ((0:Int),[])))) (cnd (decide ((List.length v.2.2.2+List.length [v.2.2.1])*(24:Nat) ≤
 (140737488355328:Nat))) (some (true,v.2.2.1,v.2.2.2++[v.2.2.1])) none) (some (v.1,v.2.2))) none) (some (v.1,v.2.2))) fun(b:Bool×(Int×List UInt8)×List (Int×List UInt8))=>cnd (decide ((0:Int)≤v.2.1)&&decide (v.2.1<(↑(List.length x.1):Int))) (cnd (decide ((List.length
 b.2.2+(1:Nat))*(24:Nat)≤(140737488355328:Nat))) (some (Sum.inl (b.1,wr .i64 (v.2.1+(1:Int)),b.2.1,b.2.2++[(Prod.fst (List.getD x.1
 (Int.toNat v.2.1) ((0:Int),[])),Prod.snd (List.getD x.1 (Int.toNat v.2.1) ((0:Int),[])))]))) none) none) (some (Sum.inr (v.1,v.2.2)))) (false,
 (0:Int),x.2.2,[])) fun(b:Bool×(Int×List UInt8)×List (Int×List UInt8))=>cnd (!b.1) (cnd (decide ((List.length b.2.2+List.length
 [b.2.1])*(24:Nat)≤(140737488355328:Nat))) (some (b.2.2++[b.2.1],true)) none) (some (b.2.2,true)))))
theorem q_aC:∀w_a9 N x,u_aC.F L0 P0 (orcOf [u_a9.con w_a9]) N x=V_aC w_a9 N x:=by intros;kernel_rfl
def W_aC (N:Nat):=V_aC (W_a9 N) N
theorem con_aC_ok (N:Nat):(u_aC.con (W_aC N)).ok P0:=Uf.ok mixed (q_aC (W_a9 N) N) ⟨con_a9_ok N,trivial⟩ Tryz.func130 (by kernel_rfl) fun x y=>by kernel_rfl
def u_aF:Uf:=⟨67,45,Tryz.f67,[.val (.agg T1_),.val T5_],[],
⟨[(4,.ptr 600004 0)],[(600004,.box 37 (.val T1_))]⟩,[],
[],
[(1000001,.reg [(8,[],⟨[(2,.ptr 600002 0),(3,.ptr 600003 0),(4,.ptr 600004 0),(12,.val .bool)],[(600002,.box 37 (.val T1_)),(600003,.box 69 (.val (.pair (.int .i64) .str))),(600004,.box 37 (.val T1_))]⟩),(5,[],⟨[(2,.ptr 600002 0),(3,.ptr 600003 0),(4,.ptr 600004 0),(17,.val .bool)],[(600002,.box 37 (.val T1_)),(600003,.box 69 (.val (.pair (.int .i64) .str))),(600004,.box 37 (.val T1_))]⟩)])],fun y=>(valW (.agg T1_) y,[],[])⟩
def V_aF (w_m:A0_×Int→Option A0_) (w_aC:List (Int×List UInt8)×Int×Int×List UInt8→Option (List (Int×List UInt8)×Bool)) (w_l:A0_→Option A5_) (N:Nat) (x:A0_×Int×List UInt8):Option A0_:=
 obind (cnd (decide (x.1.1=(0:Int))) (some (true,x.1,x.2,(0:Int),(0:Int),[],[],[],(0:Int),(0:Int))) (some (decide (x.2.1<(1:Int)),x.1,
 x.2,(0:Int),(0:Int),[],[],[],(0:Int),(0:Int)))) fun(b:Bool×A0_×(Int×List UInt8)×A0_)=>obind (cnd b.1 (some (true,b.2)) (some (decide ((1000000:Int)<b.2.2.1.1),b.2))) fun(b:Bool×A0_×(Int×List UInt8)×A0_)=>cnd b.1 (some b.2.1) (cnd (decide
 ((12:Int)<(↑(List.length b.2.2.1.2):Int))) (some b.2.1) (obind (w_m (b.2.1,b.2.2.1.1)) fun b_1=>obind (w_aC
 (b_1.2.2.2.1,b_1.1,b.2.2.1)) fun b=>obind (w_l (b_1.1,b_1.2.1,b_1.2.2.1,b.1,b_1.2.2.2.2)) fun b=>some b.2))
theorem q_aF:∀w_m w_aC w_l N x,u_aF.F L0 P0 (orcOf [u_m.con w_m,u_aC.con w_aC,u_l.con w_l]) N x=V_aF w_m w_aC w_l N x:=by intros;kernel_rfl
def W_aF (N:Nat):=V_aF (W_m N) (W_aC N) (W_l N) N
theorem con_aF_ok (N:Nat):(u_aF.con (W_aF N)).ok P0:=Uf.ok mixed (q_aF (W_m N) (W_aC N) (W_l N) N) ⟨con_m_ok N,con_aC_ok N,con_l_ok N,trivial⟩ Tryz.func67 (by kernel_rfl) fun x y=>by kernel_rfl
end
end Go.Proofs.YtgpgmncgbebgdaaGreat.nodeDownX
