/- NodeJoins: for all arguments the call returns true. The law is brought to a function of Lean's own (W_..) by the machine of the texts beside it, and that is reckoned; no condition. -/
import Derived.Test.YtgpgmncgbebgdaaGreatExtIn
import Derived.Test.YtgpgmncgbebgdaaGreatExtDl
import Derived.Test.YtgpgmncgbebgdaaGreatExtCm
import Derived.Test.YtgpgmncgbebgdaaGreatRows
import Derived.WalkKit
import Derived.ProofKit
import Derived.OpenShut
import Derived.ShutString
import Derived.ChangeOld
import Derived.Below
import Derived.Shelf.RegionOpenPlain
import Derived.Deep.RegionLaw
import Derived.Lib.Walk
namespace Go.Proofs.YtgpgmncgbebgdaaGreat.nodeJoinsX
open Go.Abs Go.RowKit Go.ChangeShapes Go.WideShapes Go.ChangeAt
set_option maxRecDepth 100000
set_option linter.unusedVariables false
set_option linter.unusedSimpArgs false
noncomputable section
abbrev T_:Ty:=(.pair (.int .i64) (.pair (.int .i64) (.pair (.int .i64) (.pair (.int .i64) (.pair (.int .i64) (.pair (.int .i64) (.pair (.list (.int .i64)) (.pair (.int .i64) (.pair (.int .i64) .str)))))))))
abbrev M_:Type:=Int×Int×Int×Int×Int×Int×(List Int)×Int×Int×List UInt8
abbrev A0_:Type:=Bool×Int×List UInt8×(Int×Int×Int×Int×Int×Int×List Int×Int×Int×Int×Int×Int×List (Int×Int×Int))×(Int×Int×List (Int×List UInt8)×List (Int×List UInt8)×List (Int×Int×Int×List UInt8×Int)×Int×Int)×Int
abbrev A1_:Type:=Int×Int×List (Int×List UInt8)×List (Int×List UInt8)×List (Int×Int×Int×List UInt8×Int)×Int×Int
abbrev A2_:Type:=Int×Int×Int×Int×Int×Int×List Int×Int×Int×Int×Int×Int×List (Int×Int×Int)
abbrev A3_:Type:=Int×Int×Int×Int×Int×Int×List Int×Int×Int×List UInt8
abbrev A4_:Type:=Int×Int×Int×List UInt8×Int
abbrev T0_:Ty:=.pair .bool (.pair (.int .i64) (.pair .str (.pair (.agg (.pair (.int .i64) (.pair (.int .i64) (.pair (.int .i64) (.pair (.int .i64) (.pair (.int .i64) (.pair (.int .i64) (.pair (.list (.int .i64)) (.pair (.int .i64) (.pair (.int .i64) (.pair (.int .i64) (.pair (.int .i64) (.pair (.int .i64) (.list (.agg (.pair (.int .i64) (.pair (.int .i64) (.int .i64)))))))))))))))))) (.pair (.agg (.pair (.int .i64) (.pair (.int .i64) (.pair (.list (.agg (.pair (.int .i64) .str))) (.pair (.list (.agg (.pair (.int .i64) .str))) (.pair (.list (.agg (.pair (.int .i64) (.pair (.int .i64) (.pair (.int .i64) (.pair .str (.int .i64))))))) (.agg (.pair (.int .i64) (.int .i64))))))))) (.int .i64)))))
abbrev T1_:Ty:=.pair (.int .i64) (.pair (.int .i64) (.pair (.int .i64) (.pair (.int .i64) (.pair (.int .i64) (.pair (.int .i64) (.pair (.list (.int .i64)) (.pair (.int .i64) (.pair (.int .i64) (.pair (.int .i64) (.pair (.int .i64) (.pair (.int .i64) (.list (.agg (.pair (.int .i64) (.pair (.int .i64) (.int .i64))))))))))))))))
abbrev T2_:Ty:=.pair (.int .i64) (.pair (.int .i64) (.pair (.list (.agg (.pair (.int .i64) .str))) (.pair (.list (.agg (.pair (.int .i64) .str))) (.pair (.list (.agg (.pair (.int .i64) (.pair (.int .i64) (.pair (.int .i64) (.pair .str (.int .i64))))))) (.agg (.pair (.int .i64) (.int .i64)))))))
abbrev T3_:Ty:=.agg (.pair (.int .i64) (.pair (.int .i64) (.int .i64)))
abbrev T4_:Ty:=.agg (.pair (.int .i64) (.pair (.int .i64) (.pair (.int .i64) (.pair .str (.int .i64)))))
abbrev T5_:Ty:=.agg (.pair (.int .i64) .str)
abbrev T6_:Ty:=.agg (.pair (.int .i64) (.int .i64))
abbrev T7_:Ty:=.pair (.list (.int .u8)) (.int .i64)
abbrev P0:Program:=Tryz.prog
def bodyOf (fn:Func):Code:=fn.body.getD .skip
def L0:Lend:=fun f=>aget [] [(142,[0]),(155,[0]),(171,[0]),(177,[0])] f
def kpL (l:List Bool):Nat→Bool:=fun j=>l.getD j true
theorem own:ownKnob Tryz.prog.godebug=none:=by kernel_rfl
theorem laidOut:laidOutB Tryz.prog=true:=by kernel_rfl
theorem mixed:P0.follows .mixedOrders=true:=by decide +kernel
theorem progOk_:progOk P0=true:=by decide +kernel

theorem delU155:Tryz.prog.underlying 32=some (.slice 69):=by kernel_rfl
theorem delE155:∃(inf:TypeInfo) (z:Value),Tryz.prog.info? 69=some inf∧inf.size=2∧inf.zero=some z∧z.cells.size=2∧(∀u∈z.cells.toList,u.oneCell'=true):=delE_of (by kernel_rfl)
set_option maxHeartbeats 4000000 in
theorem delW155 {inf:TypeInfo} {z:Value} (hinf:Tryz.prog.info? 69=some inf) (hsz:inf.size=2) (hzz:inf.zero=some z) (hzs:z.cells.size=2) (hz1:∀u∈z.cells.toList,u.oneCell'=true) (w:World) (b i k c:Nat) (arr:Array Value) (tb:Nat) (fz:Nat×Nat) (cs:List Value) (hmem:w.heap[b]? = some (.cells arr tb fz)) (hf:∀j,j<arr.size→¬(fz.1≤j∧j<fz.2))
    (hi:i<k+1) (hnc:k+1≤c) (hn:k+1≤140737488355328) (hsize:arr.size=c*2) (hcs:cs=(arr.toList.take ((k+1)*2)).drop ((i+1)*2)) (h1c:∀u∈cs,u.oneCell'=true) (A1 A2:Array Value)
    (hA1:A1=(arr.toList.take (i*2)++(cs++arr.toList.drop (i*2+cs.length))).toArray) (hA2:A2=(A1.toList.take (k*2)++(z.cells.toList++A1.toList.drop (k*2+z.cells.toList.length))).toArray):
    Calls Tryz.prog 155 #[.slice (some ⟨b,0,none⟩) (k+1) c,.int .i64 (i:Nat),.int .i64 ((i:Int)+1)] w fun e w'=>e=.returned (.slice (some ⟨b,0,none⟩) k c)∧w'=(w.drew.setRow b A1).setRow b A2:=by
  have mixed:=mixed
  have hz2:¬((i:Int)=(i:Int)+1):=by omega
  have hcl:cs.length=(k-i)*2:=by rw[hcs];simp;omega
  have hA1s:A1.size=arr.size:=by rw[hA1];simp[hcl];omega
  obtain⟨Ad,hA,hsrc⟩:∃Ad:Addr,(if c=i+1 then(some ⟨b,0,none⟩:Option Addr) else some ⟨b,(i+1)*2,none⟩)=some Ad∧(∀(t:Nat) (u:Value),cs[t]? = some u→w.drew.cell? (Ad.add t)=some u):=by
    by_cases h:c=i+1
    · refine⟨⟨b,0,none⟩,by simp[h],fun t u hu=>?_⟩
      have h0:cs=[]:=List.eq_nil_of_length_eq_zero (by rw[hcl,show k-i=0 by omega,Nat.zero_mul])
      rw[h0] at hu;simp at hu
    · refine⟨⟨b,(i+1)*2,none⟩,by simp[h],fun t u hu=>?_⟩
      rw[hcs,List.getElem?_drop,List.getElem?_take] at hu
      split at hu
      · rw[Addr.add_lit]
        have e:w.drew.cell? ⟨b,(i+1)*2+t,none⟩=arr[(i+1)*2+t]?:=by simp[World.cell?,show w.drew.heap=w.heap from rfl,hmem]
        rw[e];simpa using hu
      · cases hu
  obtain⟨W1,hW1⟩:∃W1,W1=w.drew.setRow b A1:=⟨_,rfl⟩
  have hm1:W1.heap[b]? = some (.cells A1 tb fz):=by rw[hW1];exact setRow_heap w.drew b arr A1 tb fz hmem
  have hap:∀ty m' c',m'=k-i→(Builtin.append_ #[32,32] ty #[.slice (some ⟨b,0,none⟩) i c,.slice (some Ad) m' c']).run Tryz.prog w.drew=.ok (.slice (some ⟨b,0,none⟩) k c) W1:=fun ty m' c' hm=>by
    subst hm
    have h:=run_appendR (P:=Tryz.prog) delU155 hinf w.drew hmem hf i c ty Ad (k-i) c' cs (by rw[hsz];exact hcl) hsrc h1c (by omega) (by rw[hsize,hsz])
    rw[hsz] at h
    rw[h,hW1,hA1,show i+(k-i)=k by omega]
  have hclr:∀ty m' c',m'=1→(Builtin.clear_ #[32] ty #[.slice (some ⟨b,k*2,none⟩) m' c']).run Tryz.prog W1=.ok (.tuple #[]) (W1.setRow b A2):=fun ty m' c' hm=>by
    subst hm
    rw[hA2]
    exact run_clearR (P:=Tryz.prog) delU155 hinf hzz W1 hm1 (by rw[hA1s];exact hf) (k*2) c' ty hz1 (by simp[hzs];rw[hA1s,hsize];omega)
  have hic:i≤c:=by omega
  have hjc:i+1≤c:=by omega
  have hb3:¬(c=k):=by omega
  have hb1:(0:Int)≤(i:Int)+1:=by omega
  have hb4:((k+1:Nat):Int)=(k:Int)+1:=by omega
  have hb5:(0:Int)≤(k:Int):=by omega
  have hb6:(k:Int)≤(k:Int)+1:=by omega
  have hb7:(k:Int)+1≤(c:Int):=by omega
  have hb8:(i:Int)+1≤(k:Int)+1:=by omega
  have hb2:(i:Int)+1≤((k+1:Nat):Int):=by omega
  rw[←hW1]
  clear hcs hA1 hA2 hW1 hm1 hsrc hcl
  go_enter Tryz.func155,Tryz.ntmps155
  go_wp2_with fail
  go_region_law_o (refine step_append_runR rfl _ _ 32 32 rfl (.slice (some ⟨b,0,none⟩) i c) (.slice (some Ad) (k-i) (c-(i+1))) (by simp[Act.eval,Act.put]) (by simp[Act.eval,Act.put]) (hap _ _ _ rfl) ?_)
  go_wp2
  go_ret
  exact⟨rfl,rfl⟩
theorem delF155:DelF Tryz.prog 155 2:=by
  intro w b i n c arr tb fz hmem hsize hf h1c hi hnc hn
  obtain⟨inf,z,hinf,hsz,hzz,hzs,hz1⟩:=delE155
  obtain⟨k,rfl⟩:∃k,n=k+1:=⟨n-1,by omega⟩
  simp only[Nat.add_sub_cancel]
  obtain⟨cs,hcs⟩:∃cs,cs=(arr.toList.take ((k+1)*2)).drop ((i+1)*2):=⟨_,rfl⟩
  have hsl:arr.toList.length=arr.size:=Array.length_toList
  have hcl:cs.length=(k-i)*2:=by rw[hcs,List.length_drop,List.length_take,hsl,hsize];omega
  have hzl:z.cells.toList.length=2:=by rw[Array.length_toList,hzs]
  refine(delW155 hinf hsz hzz hzs hz1 w b i k c arr tb fz cs hmem hf hi hnc hn hsize hcs (fun u hu=>h1c u (by rw[hcs] at hu;exact List.mem_of_mem_drop hu)) _ _ rfl rfl).mono fun x w'=>?_
  rintro⟨rfl,rfl⟩
  have hA1s:(arr.toList.take (i*2)++(cs++arr.toList.drop (i*2+cs.length))).toArray.size=arr.size:=by simp[hcl];omega
  have hm1:=setRow_heap w.drew b arr (arr.toList.take (i*2)++(cs++arr.toList.drop (i*2+cs.length))).toArray tb fz hmem
  have hA1t:(arr.toList.take (i*2)++(cs++arr.toList.drop (i*2+cs.length))).toArray.toList.take (k*2)=arr.toList.take (i*2)++cs:=by
    rw[List.toList_toArray,←List.append_assoc]
    exact List.take_left' (by rw[List.length_append,List.length_take,hcl,hsl,hsize];omega)
  generalize hA1:(arr.toList.take (i*2)++(cs++arr.toList.drop (i*2+cs.length))).toArray=A1 at *
  have hA1l:A1.toList.length=A1.size:=Array.length_toList
  have hA2s:(A1.toList.take (k*2)++(z.cells.toList++A1.toList.drop (k*2+z.cells.toList.length))).toArray.size=A1.size:=by simp only[List.size_toArray,List.length_append,List.length_take,List.length_drop,hzl,hA1l,hA1s,hsize];omega
  have hm2:=setRow_heap (w.drew.setRow b A1) b A1 (A1.toList.take (k*2)++(z.cells.toList++A1.toList.drop (k*2+z.cells.toList.length))).toArray tb fz hm1
  refine⟨rfl,rfl,rfl,rfl,_,hm2,by rw[hA2s,hA1s],?_,by simp[World.setRow],fun j hj=>?_⟩
  · rw[List.toList_toArray,List.take_left' (by rw[List.length_take,hA1l,hA1s,hsize];omega),hA1t,hcs]
  · rw[setRow_other _ _ _ _ hj,setRow_other _ _ _ _ hj];rfl

set_option linter.unusedSimpArgs false
set_option linter.unusedVariables false

theorem iqU171:Tryz.prog.underlying 29=some (.slice 53):=by kernel_rfl
theorem iqI171:Tryz.prog.underlying 3=some (.int .i64):=by kernel_rfl
theorem iqE171:∃(inf:TypeInfo) (z:Value),Tryz.prog.info? 53=some inf∧inf.size=3∧inf.zero=some z∧z.cells.size=3∧inf.bytes=24:=insE_of (by kernel_rfl)
set_option maxHeartbeats 4000000 in
theorem iqShift171 {inf:TypeInfo} (hinf:Tryz.prog.info? 53=some inf) (hsz:inf.size=3) (w:World) (b i n c vb vo vc:Nat) (arr:Array Value) (tb:Nat) (fz:Nat×Nat) (cs vs:List Value) (hmem:w.heap[b]? = some (.cells arr tb fz)) (hf:∀j,j<arr.size→¬(fz.1≤j∧j<fz.2))
    (hi:i<n) (hroom:n+1≤c) (hsize:arr.size=c*3) (hby:(n+1)*24≤140737488355328) (hbn:vb≠b)
    (hcs:cs=(arr.toList.take (n*3)).drop (i*3)) (hvl:vs.length=3) (hvs:∀(j:Nat) (u:Value),vs[j]? = some u→w.cell? ⟨vb,vo+j,none⟩=some u) (h1c:∀u∈cs,u.oneCell'=true) (h1v:∀u∈vs,u.oneCell'=true)
    (hov:∀y,(callFunc 189 #[.slice (some ⟨vb,vo,none⟩) 1 vc,.slice (some ⟨b,(i+1)*3,none⟩) (n-i) y]).run Tryz.prog w=.ok (.value (.bool false)) w) (A1 A2:Array Value)
    (hA1:A1=(arr.toList.take ((i+1)*3)++(cs++arr.toList.drop ((i+1)*3+cs.length))).toArray) (hA2:A2=(A1.toList.take (i*3)++(vs++A1.toList.drop (i*3+vs.length))).toArray):
    Calls Tryz.prog 171 #[.slice (some ⟨b,0,none⟩) n c,.int .i64 (i:Nat),.slice (some ⟨vb,vo,none⟩) 1 vc] w fun e w'=>e=.returned (.slice (some ⟨b,0,none⟩) (n+1) c)∧w'=(w.drew.setRow b A1).setRow b A2:=by
  have mixed:=mixed
  have hz2:¬((i:Int)=(n:Int)):=by omega
  have hw1:IntKind.i64.wrap ((i:Int)+(1:Int))=(i:Int)+(1:Int):=by rw[IntKind.wrap_i64];omega
  have hw2:IntKind.i64.wrap ((n:Int)+(1:Int))=(n:Int)+(1:Int):=by rw[IntKind.wrap_i64];omega
  have hcl:cs.length=(n-i)*3:=by rw[hcs];simp;omega
  have hA1s:A1.size=arr.size:=by rw[hA1];simp[hcl];omega
  have hcp1:∀ty dc sc,(Builtin.copy_ #[29,29] ty #[.slice (some ⟨b,(i+1)*3,none⟩) (n-i) dc,.slice (some ⟨b,i*3,none⟩) (n+1-i) sc]).run Tryz.prog w.drew=.ok (.int .i64 ((n-i:Nat):Int)) (w.drew.setRow b A1):=fun ty dc sc=>by
    rw[hA1]
    refine run_copyR iqU171 hinf w.drew (fz:=fz) hmem hf _ _ _ (m:=n+1-i) (k:=n-i) (by omega) (lenOf_slice _ _ _ _) (run_firstCells_some w.drew _ _ _ _ _ _ (by rw[hsz];exact hcl) (fun j v hj=>?_)) (by omega) h1c
    rw[hcs,List.getElem?_drop,List.getElem?_take] at hj
    split at hj
    · have:(⟨b,i*3,none⟩:Addr).add j=⟨b,i*3+j,none⟩:=by unfold Addr.add;split<;>simp_all
      rw[this]
      have e:w.drew.cell? ⟨b,i*3+j,none⟩=arr[i*3+j]?:=by simp[World.cell?,show w.drew.heap=w.heap from rfl,hmem]
      rw[e];simpa using hj
    · cases hj
  have hcp2:∀(W:World),W.heap=(w.drew.setRow b A1).heap→∀ty dc,(Builtin.copy_ #[29,29] ty #[.slice (some ⟨b,i*3,none⟩) (n+1-i) dc,.slice (some ⟨vb,vo,none⟩) 1 vc]).run Tryz.prog W=.ok (.int .i64 ((1:Nat):Int)) (W.setRow b A2):=fun W hW ty dc=>by
    rw[hA2]
    have hm1:W.heap[b]? = some (.cells A1 tb fz):=by rw[hW];exact setRow_heap w.drew b arr A1 tb fz hmem
    refine run_copyR iqU171 hinf W (fz:=fz) hm1 (by rw[hA1s];exact hf) _ _ _ (m:=1) (k:=1) (by omega) (lenOf_slice _ _ _ _) (run_firstCells_some W _ _ _ _ _ _ (by rw[hsz];exact hvl) (fun j v hj=>?_)) (by omega) h1v
    have:(⟨vb,vo,none⟩:Addr).add j=⟨vb,vo+j,none⟩:=by unfold Addr.add;split<;>simp_all
    rw[this]
    have e:W.cell? ⟨vb,vo+j,none⟩=w.cell? ⟨vb,vo+j,none⟩:=cell_congr (by rw[hW];exact setRow_other w.drew b vb A1 hbn)
    rw[e];exact hvs j v hj
  have hb1:(0:Int)≤(i:Int)+1:=by omega
  have hin:i≤n:=by omega
  have hb2:¬(c=i+1):=by omega
  have hb4:¬(c=i):=by omega
  have hb3:(i:Int)≤(n:Int)+1:=by omega
  clear hcs hA1 hA2
  go_enter Tryz.func171,Tryz.ntmps171
  go_wp2_with (simp only[hov])
  go_region_law_o (refine step_copy_runR rfl _ _ 29 29 rfl _ _ (by simp[Act.eval,Act.put]) (by simp[Act.eval,Act.put]) (hcp1 _ _ _) ?_)
  go_wp2_with (at_builtin;refine wpList_copy_runR _ rfl _ _ 29 29 rfl _ _ rfl rfl (hcp2 _ rfl _ _) ?_)
  go_ret
  exact⟨rfl,rfl⟩
set_option maxHeartbeats 4000000 in
theorem iqGrow171 {inf:TypeInfo} {z:Value} (hinf:Tryz.prog.info? 53=some inf) (hsz:inf.size=3) (hzz:inf.zero=some z) (hzs:z.cells.size=3) (hbb:inf.bytes=24) (w:World) (b i n c vb vo vc:Nat) (arr:Array Value) (tb:Nat) (fz:Nat×Nat) (cs vs:List Value) (hmem:w.heap[b]? = some (.cells arr tb fz))
    (hi:i<n) (hnc:n≤c) (hroom:¬(n+1≤c)) (hsize:arr.size=c*3) (hby:(n+1)*24≤140737488355328) (va:Array Value) (tv:Nat) (fv:Nat×Nat) (hmemv:w.heap[vb]? = some (.cells va tv fv))
    (hcs:cs=(arr.toList.take (n*3)).drop (i*3)) (hvl:vs.length=3) (hvs:∀(j:Nat) (u:Value),vs[j]? = some u→va[vo+j]? = some u) (h1c:∀u∈cs,u.oneCell'=true) (h1v:∀u∈vs,u.oneCell'=true)
    (G:Nat) (hG:G=grownCap w (n+1) c 53) (ROW A1 A2:Array Value)
    (hROW:ROW=(arr.toList.take (i*3)).toArray++Builtin.zeroCells z.cells (n+1-i)++Builtin.zeroCells z.cells (G-(n+1)))
    (hA1:A1=(ROW.toList.take (i*3)++(vs++ROW.toList.drop (i*3+vs.length))).toArray) (hA2:A2=(A1.toList.take ((i+1)*3)++(cs++A1.toList.drop ((i+1)*3+cs.length))).toArray):
    Calls Tryz.prog 171 #[.slice (some ⟨b,0,none⟩) n c,.int .i64 (i:Nat),.slice (some ⟨vb,vo,none⟩) 1 vc] w fun e w'=>e=.returned (.slice (some ⟨w.heap.size,0,none⟩) (n+1) G)∧w'=(((w.drew.alloc (.cells ROW 53)).setRow w.heap.size A1).drew).setRow w.heap.size A2:=by
  have mixed:=mixed
  have hz2:¬((i:Int)=(n:Int)):=by omega
  have hw1:IntKind.i64.wrap ((i:Int)+(1:Int))=(i:Int)+(1:Int):=by rw[IntKind.wrap_i64];omega
  have hw2:IntKind.i64.wrap ((n:Int)+(1:Int))=(n:Int)+(1:Int):=by rw[IntKind.wrap_i64];omega
  have hw3:IntKind.i64.wrap ((n:Int)+(1:Int)-(i:Int))=(n:Int)+(1:Int)-(i:Int):=by rw[IntKind.wrap_i64];omega
  have hcl:cs.length=(n-i)*3:=by rw[hcs];simp;omega
  have hGn:n+1≤G:=by rw[hG];exact grownCap_ge w _ _ _
  have hbw:b<w.heap.size:=(Array.getElem?_eq_some_iff.1 hmem).1
  have hvw:vb<w.heap.size:=(Array.getElem?_eq_some_iff.1 hmemv).1
  have hzc:∀k,(Builtin.zeroCells z.cells k).size=k*3:=fun k=>by rw[size_zeroCells,hzs]
  have hRs:ROW.size=G*3:=by
    rw[hROW];simp only[Array.size_append,hzc,List.size_toArray,List.length_take,Array.length_toList];omega
  have hA1s:A1.size=ROW.size:=by rw[hA1];simp[hvl];omega
  have hold:(Builtin.firstCells inf.size i (.slice (some ⟨b,0,none⟩) i c)).run Tryz.prog w.drew=.ok (arr.toList.take (i*3)).toArray w.drew:=by
    rw[hsz]
    refine run_firstCells_some w.drew 3 i ⟨b,0,none⟩ i c (arr.toList.take (i*3)) (by rw[List.length_take];simp;omega) (fun j v hj=>?_)
    rw[List.getElem?_take] at hj
    split at hj
    · have:(⟨b,0,none⟩:Addr).add j=⟨b,j,none⟩:=by unfold Addr.add;split<;>simp_all
      rw[this]
      have e:w.drew.cell? ⟨b,j,none⟩=arr[j]?:=by simp[World.cell?,show w.drew.heap=w.heap from rfl,hmem]
      rw[e];simpa using hj
    · cases hj
  have hik:i+(n+1-i)=n+1:=by omega
  have hkk:(n:Int)+1-(i:Int)=((n+1-i:Nat):Int):=by omega
  obtain⟨W1,hW1⟩:∃W1,W1=w.drew.alloc (.cells ROW 53):=⟨_,rfl⟩
  have hrz:∀ty,(Builtin.append_ #[29,3] ty #[.slice (some ⟨b,0,none⟩) i c,.int .i64 ((n:Int)+1-(i:Int))]).run Tryz.prog w=.ok (.slice (some ⟨w.heap.size,0,none⟩) (n+1) G) W1:=fun ty=>by
    have hnx:=nextslicecap_le (need:=n+1) (old:=c) (by omega)
    have h:=Lib.run_append_grow_zeros w 29 3 ty 53 inf z .i64 .i64 iqU171 iqI171 hinf hzz (some ⟨b,0,none⟩) i c (arr.toList.take (i*3)) hold (n+1-i) (by omega) (by omega) (by omega) (by omega) (by rw[hbb];omega) (by rw[hbb,hik];omega)
    rw[hik,←hG,←hROW,←hW1] at h
    rw[hkk]
    exact h
  have hWn:W1.heap[w.heap.size]? = some (.cells ROW 53 (0,0)):=by rw[hW1];exact heap_alloc_new w.drew _
  have hWo:∀j,j<w.heap.size→W1.heap[j]? = w.heap[j]?:=fun j hj=>by rw[hW1];exact heap_alloc_old w.drew _ hj
  have hcp1:∀(W:World),W.heap=W1.heap→∀ty dc,(Builtin.copy_ #[29,29] ty #[.slice (some ⟨w.heap.size,i*3,none⟩) (n+1-i) dc,.slice (some ⟨vb,vo,none⟩) 1 vc]).run Tryz.prog W=.ok (.int .i64 ((1:Nat):Int)) (W.setRow w.heap.size A1):=fun W hW ty dc=>by
    rw[hA1]
    refine run_copyR iqU171 hinf W (fz:=(0,0)) (by rw[hW];exact hWn) (fun j _ hj=>by simp at hj) _ _ _ (m:=1) (k:=1) (by omega) (lenOf_slice _ _ _ _) (run_firstCells_some W _ _ _ _ _ _ (by rw[hsz];exact hvl) (fun j v hj=>?_)) (by omega) h1v
    have:(⟨vb,vo,none⟩:Addr).add j=⟨vb,vo+j,none⟩:=by unfold Addr.add;split<;>simp_all
    rw[this]
    have e:W.cell? ⟨vb,vo+j,none⟩=va[vo+j]?:=by simp[World.cell?,hW,hWo vb hvw,hmemv]
    rw[e];exact hvs j v hj
  have hcp2:∀(W:World),W.heap=(W1.setRow w.heap.size A1).heap→∀ty dc sc,(Builtin.copy_ #[29,29] ty #[.slice (some ⟨w.heap.size,(i+1)*3,none⟩) (n-i) dc,.slice (some ⟨b,i*3,none⟩) (n-i) sc]).run Tryz.prog W=.ok (.int .i64 ((n-i:Nat):Int)) (W.setRow w.heap.size A2):=fun W hW ty dc sc=>by
    rw[hA2]
    have hm1:W.heap[w.heap.size]? = some (.cells A1 53 (0,0)):=by rw[hW];exact setRow_heap W1 w.heap.size ROW A1 53 (0,0) hWn
    refine run_copyR iqU171 hinf W (fz:=(0,0)) hm1 (fun j _ hj=>by simp at hj) _ _ _ (m:=n-i) (k:=n-i) (by omega) (lenOf_slice _ _ _ _) (run_firstCells_some W _ _ _ _ _ _ (by rw[hsz];exact hcl) (fun j v hj=>?_)) (by omega) h1c
    rw[hcs,List.getElem?_drop,List.getElem?_take] at hj
    split at hj
    · have:(⟨b,i*3,none⟩:Addr).add j=⟨b,i*3+j,none⟩:=by unfold Addr.add;split<;>simp_all
      rw[this]
      have e:W.cell? ⟨b,i*3+j,none⟩=arr[i*3+j]?:=by
        have e1:W.heap[b]? = w.heap[b]?:=by rw[hW,setRow_other W1 w.heap.size b A1 (by omega)];exact hWo b hbw
        simp[World.cell?,e1,hmem]
      rw[e];simpa using hj
    · cases hj
  have hb1:(0:Int)≤(i:Int)+1:=by omega
  have hin:i≤n:=by omega
  have hb2:¬(G=i+1):=by omega
  have hb4:¬(c=i):=by omega
  have hb5:¬(G=i):=by omega
  have hb3:(i:Int)≤(n:Int)+1:=by omega
  have hb6:(c:Int)<(n:Int)+1:=by omega
  have hb7:i≤c:=by omega
  rw[←hW1]
  clear hG hcs hA1 hA2 hW1 hold hROW hWn hWo hik hkk
  go_enter Tryz.func171,Tryz.ntmps171
  go_wp2_with (first
    | (at_builtin;refine Lib.wpList_append_run _ rfl _ _ _ _ rfl _ _ rfl rfl _ _ (hrz _) ?_)
    | (at_builtin;refine wpList_copy_runR _ rfl _ _ 29 29 rfl _ _ rfl rfl (hcp1 _ (by exact rfl) _ _) ?_))
  have hF:((W1.setRow w.heap.size A1).drew).heap=(W1.setRow w.heap.size A1).heap:=rfl
  go_region_law_o (refine step_copy_runR rfl _ _ 29 29 rfl (.slice (some ⟨w.heap.size,(i+1)*3,none⟩) (n-i) (G-(i+1))) (.slice (some ⟨b,i*3,none⟩) (n-i) (c-i)) (by simp[Act.eval,Act.put]) (by simp[Act.eval,Act.put]) (hcp2 _ hF 3 (G-(i+1)) (c-i)) ?_)
  go_wp2
  go_ret
  exact⟨rfl,rfl⟩
theorem insP171:InsP Tryz.prog 171 53 3 24:=by
  intro w b i n c vb vo vc arr va tb tv fz fv vs hmem hsize hf hmemv hbn hvl hvs h1v h1c hi hnc hby
  obtain⟨inf,z,hinf,hsz,hzz,hzs,hbb⟩:=iqE171
  obtain⟨cs,hcs⟩:∃cs,cs=(arr.toList.take (n*3)).drop (i*3):=⟨_,rfl⟩
  have h1:∀u∈cs,u.oneCell'=true:=fun u hu=>h1c u (by rw[hcs] at hu;exact List.mem_of_mem_drop hu)
  have hcl:cs.length=(n-i)*3:=by rw[hcs];simp;omega
  by_cases hroom:n+1≤c
  · have hvo:vo<va.size:=by
      have:=hvs 0 vs[0] (List.getElem?_eq_getElem (by omega))
      have:=(Array.getElem?_eq_some_iff.1 this).1
      omega
    have hov:∀y,(callFunc 189 #[.slice (some ⟨vb,vo,none⟩) 1 vc,.slice (some ⟨b,(i+1)*3,none⟩) (n-i) y]).run Tryz.prog w=.ok (.value (.bool false)) w:=fun y=>by
      rw[run_callFunc_extern Tryz.func189 (by kernel_rfl) (by kernel_rfl) (by kernel_rfl) (e:=Extern.SlicesOverlaps.overlaps #[29,29] #[4]) (by kernel_rfl),
        overlaps_apart2 w 29 4 53 iqU171 3 (fun w=>by rw[run_size hinf,hsz]) ⟨vb,vo,none⟩ ⟨b,(i+1)*3,none⟩ 1 vc (n-i) y hbn tv tb va.size arr.size (by simp[World.shape?,hmemv]) (by simp[World.shape?,hmem]) (by omega)
          (by have:=hf ((i+1)*3) (by omega);simp only[World.frozen?,hmem];simp;omega) (by have:=hf arr.size (Nat.le_refl _);simp only[World.frozen?,hmem];simp;omega)]
      rfl
    refine(iqShift171 hinf hsz w b i n c vb vo vc arr tb fz cs vs hmem (fun j hj=>hf j (by omega)) hi hroom hsize hby hbn hcs hvl (fun j u hj=>by simpa [World.cell?,hmemv] using hvs j u hj) h1 h1v hov _ _ rfl rfl).mono fun x w'=>?_
    rintro⟨rfl,rfl⟩
    have hA1s:(arr.toList.take ((i+1)*3)++(cs++arr.toList.drop ((i+1)*3+cs.length))).toArray.size=arr.size:=by simp[hcl];omega
    have hm1:=setRow_heap w.drew b arr (arr.toList.take ((i+1)*3)++(cs++arr.toList.drop ((i+1)*3+cs.length))).toArray tb fz hmem
    generalize hA1:(arr.toList.take ((i+1)*3)++(cs++arr.toList.drop ((i+1)*3+cs.length))).toArray=A1 at *
    have hA2s:(A1.toList.take (i*3)++(vs++A1.toList.drop (i*3+vs.length))).toArray.size=A1.size:=by simp[hvl];omega
    have hm2:=setRow_heap (w.drew.setRow b A1) b A1 (A1.toList.take (i*3)++(vs++A1.toList.drop (i*3+vs.length))).toArray tb fz hm1
    refine⟨b,c,tb,_,fz,rfl,rfl,rfl,rfl,hm2,fun j hj=>hf j (by rw[hA2s,hA1s] at hj;exact hj),by rw[hA2s,hA1s];exact hsize,hroom,?_,.inl ⟨rfl,rfl,by rw[hA2s,hA1s],by rw[setRow_size,setRow_size];rfl,fun j hj=>?_⟩⟩
    · subst hA1
      exact insShiftL arr.toList vs cs (i*3) (n*3) 3 ((i+1)*3) ((n+1)*3) (by omega) (by omega) (by omega) (by simp;omega) hvl hcs
    · rw[setRow_other _ _ _ _ hj,setRow_other _ _ _ _ hj];rfl
  · refine(iqGrow171 hinf hsz hzz hzs hbb w b i n c vb vo vc arr tb fz cs vs hmem hi hnc hroom hsize hby va tv fv hmemv hcs hvl hvs h1 h1v _ rfl _ _ _ rfl rfl rfl).mono fun x w'=>?_
    rintro⟨rfl,rfl⟩
    have hGn:n+1≤grownCap w (n+1) c 53:=grownCap_ge w _ _ _
    have hzc:∀k,(Builtin.zeroCells z.cells k).size=k*3:=fun k=>by rw[size_zeroCells,hzs]
    have hRs:((arr.toList.take (i*3)).toArray++Builtin.zeroCells z.cells (n+1-i)++Builtin.zeroCells z.cells (grownCap w (n+1) c 53-(n+1))).size=grownCap w (n+1) c 53*3:=by
      simp only[Array.size_append,hzc,List.size_toArray,List.length_take,Array.length_toList];omega
    have hRt:((arr.toList.take (i*3)).toArray++Builtin.zeroCells z.cells (n+1-i)++Builtin.zeroCells z.cells (grownCap w (n+1) c 53-(n+1))).toList.take (i*3)=arr.toList.take (i*3):=by
      simp only[Array.toList_append,List.append_assoc]
      exact List.take_left' (by simp;omega)
    generalize hG:grownCap w (n+1) c 53=G at *
    generalize hR:(arr.toList.take (i*3)).toArray++Builtin.zeroCells z.cells (n+1-i)++Builtin.zeroCells z.cells (G-(n+1))=ROW at *
    have hm0:(w.drew.alloc (.cells ROW 53)).heap[w.heap.size]? = some (.cells ROW 53 (0,0)):=heap_alloc_new w.drew _
    have hA1s:(ROW.toList.take (i*3)++(vs++ROW.toList.drop (i*3+vs.length))).toArray.size=ROW.size:=by simp[hvl];omega
    have hm1:=setRow_heap (w.drew.alloc (.cells ROW 53)) w.heap.size ROW (ROW.toList.take (i*3)++(vs++ROW.toList.drop (i*3+vs.length))).toArray 53 (0,0) hm0
    generalize hA1:(ROW.toList.take (i*3)++(vs++ROW.toList.drop (i*3+vs.length))).toArray=A1 at *
    have hA2s:(A1.toList.take ((i+1)*3)++(cs++A1.toList.drop ((i+1)*3+cs.length))).toArray.size=A1.size:=by simp[hcl];omega
    have hm2:=setRow_heap ((w.drew.alloc (.cells ROW 53)).setRow w.heap.size A1).drew w.heap.size A1 (A1.toList.take ((i+1)*3)++(cs++A1.toList.drop ((i+1)*3+cs.length))).toArray 53 (0,0) hm1
    refine⟨w.heap.size,G,53,_,(0,0),rfl,rfl,rfl,rfl,hm2,fun j _ hj=>by simp at hj,by rw[hA2s,hA1s];exact hRs,hGn,?_,.inr ⟨rfl,rfl,?_,fun j hj=>?_⟩⟩
    · subst hA1
      exact insGrowL arr.toList ROW.toList vs cs (i*3) (n*3) 3 ((i+1)*3) ((n+1)*3) (by omega) (by omega) (by omega) (by simp;omega) hvl hcs hRt
    · rw[setRow_size]
      show ((w.drew.alloc (.cells ROW 53)).setRow w.heap.size A1).heap.size=_
      rw[setRow_size]
      simp
    · rw[setRow_other _ _ _ _ (by omega)]
      show ((w.drew.alloc (.cells ROW 53)).setRow w.heap.size A1).heap[j]? = _
      rw[setRow_other _ _ _ _ (by omega)]
      exact heap_alloc_old w.drew _ hj


theorem iqU177:Tryz.prog.underlying 32=some (.slice 69):=by kernel_rfl
theorem iqI177:Tryz.prog.underlying 3=some (.int .i64):=by kernel_rfl
theorem iqE177:∃(inf:TypeInfo) (z:Value),Tryz.prog.info? 69=some inf∧inf.size=2∧inf.zero=some z∧z.cells.size=2∧inf.bytes=24:=insE_of (by kernel_rfl)
set_option maxHeartbeats 4000000 in
theorem iqShift177 {inf:TypeInfo} (hinf:Tryz.prog.info? 69=some inf) (hsz:inf.size=2) (w:World) (b i n c vb vo vc:Nat) (arr:Array Value) (tb:Nat) (fz:Nat×Nat) (cs vs:List Value) (hmem:w.heap[b]? = some (.cells arr tb fz)) (hf:∀j,j<arr.size→¬(fz.1≤j∧j<fz.2))
    (hi:i<n) (hroom:n+1≤c) (hsize:arr.size=c*2) (hby:(n+1)*24≤140737488355328) (hbn:vb≠b)
    (hcs:cs=(arr.toList.take (n*2)).drop (i*2)) (hvl:vs.length=2) (hvs:∀(j:Nat) (u:Value),vs[j]? = some u→w.cell? ⟨vb,vo+j,none⟩=some u) (h1c:∀u∈cs,u.oneCell'=true) (h1v:∀u∈vs,u.oneCell'=true)
    (hov:∀y,(callFunc 191 #[.slice (some ⟨vb,vo,none⟩) 1 vc,.slice (some ⟨b,(i+1)*2,none⟩) (n-i) y]).run Tryz.prog w=.ok (.value (.bool false)) w) (A1 A2:Array Value)
    (hA1:A1=(arr.toList.take ((i+1)*2)++(cs++arr.toList.drop ((i+1)*2+cs.length))).toArray) (hA2:A2=(A1.toList.take (i*2)++(vs++A1.toList.drop (i*2+vs.length))).toArray):
    Calls Tryz.prog 177 #[.slice (some ⟨b,0,none⟩) n c,.int .i64 (i:Nat),.slice (some ⟨vb,vo,none⟩) 1 vc] w fun e w'=>e=.returned (.slice (some ⟨b,0,none⟩) (n+1) c)∧w'=(w.drew.setRow b A1).setRow b A2:=by
  have mixed:=mixed
  have hz2:¬((i:Int)=(n:Int)):=by omega
  have hw1:IntKind.i64.wrap ((i:Int)+(1:Int))=(i:Int)+(1:Int):=by rw[IntKind.wrap_i64];omega
  have hw2:IntKind.i64.wrap ((n:Int)+(1:Int))=(n:Int)+(1:Int):=by rw[IntKind.wrap_i64];omega
  have hcl:cs.length=(n-i)*2:=by rw[hcs];simp;omega
  have hA1s:A1.size=arr.size:=by rw[hA1];simp[hcl];omega
  have hcp1:∀ty dc sc,(Builtin.copy_ #[32,32] ty #[.slice (some ⟨b,(i+1)*2,none⟩) (n-i) dc,.slice (some ⟨b,i*2,none⟩) (n+1-i) sc]).run Tryz.prog w.drew=.ok (.int .i64 ((n-i:Nat):Int)) (w.drew.setRow b A1):=fun ty dc sc=>by
    rw[hA1]
    refine run_copyR iqU177 hinf w.drew (fz:=fz) hmem hf _ _ _ (m:=n+1-i) (k:=n-i) (by omega) (lenOf_slice _ _ _ _) (run_firstCells_some w.drew _ _ _ _ _ _ (by rw[hsz];exact hcl) (fun j v hj=>?_)) (by omega) h1c
    rw[hcs,List.getElem?_drop,List.getElem?_take] at hj
    split at hj
    · have:(⟨b,i*2,none⟩:Addr).add j=⟨b,i*2+j,none⟩:=by unfold Addr.add;split<;>simp_all
      rw[this]
      have e:w.drew.cell? ⟨b,i*2+j,none⟩=arr[i*2+j]?:=by simp[World.cell?,show w.drew.heap=w.heap from rfl,hmem]
      rw[e];simpa using hj
    · cases hj
  have hcp2:∀(W:World),W.heap=(w.drew.setRow b A1).heap→∀ty dc,(Builtin.copy_ #[32,32] ty #[.slice (some ⟨b,i*2,none⟩) (n+1-i) dc,.slice (some ⟨vb,vo,none⟩) 1 vc]).run Tryz.prog W=.ok (.int .i64 ((1:Nat):Int)) (W.setRow b A2):=fun W hW ty dc=>by
    rw[hA2]
    have hm1:W.heap[b]? = some (.cells A1 tb fz):=by rw[hW];exact setRow_heap w.drew b arr A1 tb fz hmem
    refine run_copyR iqU177 hinf W (fz:=fz) hm1 (by rw[hA1s];exact hf) _ _ _ (m:=1) (k:=1) (by omega) (lenOf_slice _ _ _ _) (run_firstCells_some W _ _ _ _ _ _ (by rw[hsz];exact hvl) (fun j v hj=>?_)) (by omega) h1v
    have:(⟨vb,vo,none⟩:Addr).add j=⟨vb,vo+j,none⟩:=by unfold Addr.add;split<;>simp_all
    rw[this]
    have e:W.cell? ⟨vb,vo+j,none⟩=w.cell? ⟨vb,vo+j,none⟩:=cell_congr (by rw[hW];exact setRow_other w.drew b vb A1 hbn)
    rw[e];exact hvs j v hj
  have hb1:(0:Int)≤(i:Int)+1:=by omega
  have hin:i≤n:=by omega
  have hb2:¬(c=i+1):=by omega
  have hb4:¬(c=i):=by omega
  have hb3:(i:Int)≤(n:Int)+1:=by omega
  clear hcs hA1 hA2
  go_enter Tryz.func177,Tryz.ntmps177
  go_wp2_with (simp only[hov])
  go_region_law_o (refine step_copy_runR rfl _ _ 32 32 rfl _ _ (by simp[Act.eval,Act.put]) (by simp[Act.eval,Act.put]) (hcp1 _ _ _) ?_)
  go_wp2_with (at_builtin;refine wpList_copy_runR _ rfl _ _ 32 32 rfl _ _ rfl rfl (hcp2 _ rfl _ _) ?_)
  go_ret
  exact⟨rfl,rfl⟩
set_option maxHeartbeats 4000000 in
theorem iqGrow177 {inf:TypeInfo} {z:Value} (hinf:Tryz.prog.info? 69=some inf) (hsz:inf.size=2) (hzz:inf.zero=some z) (hzs:z.cells.size=2) (hbb:inf.bytes=24) (w:World) (b i n c vb vo vc:Nat) (arr:Array Value) (tb:Nat) (fz:Nat×Nat) (cs vs:List Value) (hmem:w.heap[b]? = some (.cells arr tb fz))
    (hi:i<n) (hnc:n≤c) (hroom:¬(n+1≤c)) (hsize:arr.size=c*2) (hby:(n+1)*24≤140737488355328) (va:Array Value) (tv:Nat) (fv:Nat×Nat) (hmemv:w.heap[vb]? = some (.cells va tv fv))
    (hcs:cs=(arr.toList.take (n*2)).drop (i*2)) (hvl:vs.length=2) (hvs:∀(j:Nat) (u:Value),vs[j]? = some u→va[vo+j]? = some u) (h1c:∀u∈cs,u.oneCell'=true) (h1v:∀u∈vs,u.oneCell'=true)
    (G:Nat) (hG:G=grownCap w (n+1) c 69) (ROW A1 A2:Array Value)
    (hROW:ROW=(arr.toList.take (i*2)).toArray++Builtin.zeroCells z.cells (n+1-i)++Builtin.zeroCells z.cells (G-(n+1)))
    (hA1:A1=(ROW.toList.take (i*2)++(vs++ROW.toList.drop (i*2+vs.length))).toArray) (hA2:A2=(A1.toList.take ((i+1)*2)++(cs++A1.toList.drop ((i+1)*2+cs.length))).toArray):
    Calls Tryz.prog 177 #[.slice (some ⟨b,0,none⟩) n c,.int .i64 (i:Nat),.slice (some ⟨vb,vo,none⟩) 1 vc] w fun e w'=>e=.returned (.slice (some ⟨w.heap.size,0,none⟩) (n+1) G)∧w'=(((w.drew.alloc (.cells ROW 69)).setRow w.heap.size A1).drew).setRow w.heap.size A2:=by
  have mixed:=mixed
  have hz2:¬((i:Int)=(n:Int)):=by omega
  have hw1:IntKind.i64.wrap ((i:Int)+(1:Int))=(i:Int)+(1:Int):=by rw[IntKind.wrap_i64];omega
  have hw2:IntKind.i64.wrap ((n:Int)+(1:Int))=(n:Int)+(1:Int):=by rw[IntKind.wrap_i64];omega
  have hw3:IntKind.i64.wrap ((n:Int)+(1:Int)-(i:Int))=(n:Int)+(1:Int)-(i:Int):=by rw[IntKind.wrap_i64];omega
  have hcl:cs.length=(n-i)*2:=by rw[hcs];simp;omega
  have hGn:n+1≤G:=by rw[hG];exact grownCap_ge w _ _ _
  have hbw:b<w.heap.size:=(Array.getElem?_eq_some_iff.1 hmem).1
  have hvw:vb<w.heap.size:=(Array.getElem?_eq_some_iff.1 hmemv).1
  have hzc:∀k,(Builtin.zeroCells z.cells k).size=k*2:=fun k=>by rw[size_zeroCells,hzs]
  have hRs:ROW.size=G*2:=by
    rw[hROW];simp only[Array.size_append,hzc,List.size_toArray,List.length_take,Array.length_toList];omega
  have hA1s:A1.size=ROW.size:=by rw[hA1];simp[hvl];omega
  have hold:(Builtin.firstCells inf.size i (.slice (some ⟨b,0,none⟩) i c)).run Tryz.prog w.drew=.ok (arr.toList.take (i*2)).toArray w.drew:=by
    rw[hsz]
    refine run_firstCells_some w.drew 2 i ⟨b,0,none⟩ i c (arr.toList.take (i*2)) (by rw[List.length_take];simp;omega) (fun j v hj=>?_)
    rw[List.getElem?_take] at hj
    split at hj
    · have:(⟨b,0,none⟩:Addr).add j=⟨b,j,none⟩:=by unfold Addr.add;split<;>simp_all
      rw[this]
      have e:w.drew.cell? ⟨b,j,none⟩=arr[j]?:=by simp[World.cell?,show w.drew.heap=w.heap from rfl,hmem]
      rw[e];simpa using hj
    · cases hj
  have hik:i+(n+1-i)=n+1:=by omega
  have hkk:(n:Int)+1-(i:Int)=((n+1-i:Nat):Int):=by omega
  obtain⟨W1,hW1⟩:∃W1,W1=w.drew.alloc (.cells ROW 69):=⟨_,rfl⟩
  have hrz:∀ty,(Builtin.append_ #[32,3] ty #[.slice (some ⟨b,0,none⟩) i c,.int .i64 ((n:Int)+1-(i:Int))]).run Tryz.prog w=.ok (.slice (some ⟨w.heap.size,0,none⟩) (n+1) G) W1:=fun ty=>by
    have hnx:=nextslicecap_le (need:=n+1) (old:=c) (by omega)
    have h:=Lib.run_append_grow_zeros w 32 3 ty 69 inf z .i64 .i64 iqU177 iqI177 hinf hzz (some ⟨b,0,none⟩) i c (arr.toList.take (i*2)) hold (n+1-i) (by omega) (by omega) (by omega) (by omega) (by rw[hbb];omega) (by rw[hbb,hik];omega)
    rw[hik,←hG,←hROW,←hW1] at h
    rw[hkk]
    exact h
  have hWn:W1.heap[w.heap.size]? = some (.cells ROW 69 (0,0)):=by rw[hW1];exact heap_alloc_new w.drew _
  have hWo:∀j,j<w.heap.size→W1.heap[j]? = w.heap[j]?:=fun j hj=>by rw[hW1];exact heap_alloc_old w.drew _ hj
  have hcp1:∀(W:World),W.heap=W1.heap→∀ty dc,(Builtin.copy_ #[32,32] ty #[.slice (some ⟨w.heap.size,i*2,none⟩) (n+1-i) dc,.slice (some ⟨vb,vo,none⟩) 1 vc]).run Tryz.prog W=.ok (.int .i64 ((1:Nat):Int)) (W.setRow w.heap.size A1):=fun W hW ty dc=>by
    rw[hA1]
    refine run_copyR iqU177 hinf W (fz:=(0,0)) (by rw[hW];exact hWn) (fun j _ hj=>by simp at hj) _ _ _ (m:=1) (k:=1) (by omega) (lenOf_slice _ _ _ _) (run_firstCells_some W _ _ _ _ _ _ (by rw[hsz];exact hvl) (fun j v hj=>?_)) (by omega) h1v
    have:(⟨vb,vo,none⟩:Addr).add j=⟨vb,vo+j,none⟩:=by unfold Addr.add;split<;>simp_all
    rw[this]
    have e:W.cell? ⟨vb,vo+j,none⟩=va[vo+j]?:=by simp[World.cell?,hW,hWo vb hvw,hmemv]
    rw[e];exact hvs j v hj
  have hcp2:∀(W:World),W.heap=(W1.setRow w.heap.size A1).heap→∀ty dc sc,(Builtin.copy_ #[32,32] ty #[.slice (some ⟨w.heap.size,(i+1)*2,none⟩) (n-i) dc,.slice (some ⟨b,i*2,none⟩) (n-i) sc]).run Tryz.prog W=.ok (.int .i64 ((n-i:Nat):Int)) (W.setRow w.heap.size A2):=fun W hW ty dc sc=>by
    rw[hA2]
    have hm1:W.heap[w.heap.size]? = some (.cells A1 69 (0,0)):=by rw[hW];exact setRow_heap W1 w.heap.size ROW A1 69 (0,0) hWn
    refine run_copyR iqU177 hinf W (fz:=(0,0)) hm1 (fun j _ hj=>by simp at hj) _ _ _ (m:=n-i) (k:=n-i) (by omega) (lenOf_slice _ _ _ _) (run_firstCells_some W _ _ _ _ _ _ (by rw[hsz];exact hcl) (fun j v hj=>?_)) (by omega) h1c
    rw[hcs,List.getElem?_drop,List.getElem?_take] at hj
    split at hj
    · have:(⟨b,i*2,none⟩:Addr).add j=⟨b,i*2+j,none⟩:=by unfold Addr.add;split<;>simp_all
      rw[this]
      have e:W.cell? ⟨b,i*2+j,none⟩=arr[i*2+j]?:=by
        have e1:W.heap[b]? = w.heap[b]?:=by rw[hW,setRow_other W1 w.heap.size b A1 (by omega)];exact hWo b hbw
        simp[World.cell?,e1,hmem]
      rw[e];simpa using hj
    · cases hj
  have hb1:(0:Int)≤(i:Int)+1:=by omega
  have hin:i≤n:=by omega
  have hb2:¬(G=i+1):=by omega
  have hb4:¬(c=i):=by omega
  have hb5:¬(G=i):=by omega
  have hb3:(i:Int)≤(n:Int)+1:=by omega
  have hb6:(c:Int)<(n:Int)+1:=by omega
  have hb7:i≤c:=by omega
  rw[←hW1]
  clear hG hcs hA1 hA2 hW1 hold hROW hWn hWo hik hkk
  go_enter Tryz.func177,Tryz.ntmps177
  go_wp2_with (first
    | (at_builtin;refine Lib.wpList_append_run _ rfl _ _ _ _ rfl _ _ rfl rfl _ _ (hrz _) ?_)
    | (at_builtin;refine wpList_copy_runR _ rfl _ _ 32 32 rfl _ _ rfl rfl (hcp1 _ (by exact rfl) _ _) ?_))
  have hF:((W1.setRow w.heap.size A1).drew).heap=(W1.setRow w.heap.size A1).heap:=rfl
  go_region_law_o (refine step_copy_runR rfl _ _ 32 32 rfl (.slice (some ⟨w.heap.size,(i+1)*2,none⟩) (n-i) (G-(i+1))) (.slice (some ⟨b,i*2,none⟩) (n-i) (c-i)) (by simp[Act.eval,Act.put]) (by simp[Act.eval,Act.put]) (hcp2 _ hF 3 (G-(i+1)) (c-i)) ?_)
  go_wp2
  go_ret
  exact⟨rfl,rfl⟩
theorem insP177:InsP Tryz.prog 177 69 2 24:=by
  intro w b i n c vb vo vc arr va tb tv fz fv vs hmem hsize hf hmemv hbn hvl hvs h1v h1c hi hnc hby
  obtain⟨inf,z,hinf,hsz,hzz,hzs,hbb⟩:=iqE177
  obtain⟨cs,hcs⟩:∃cs,cs=(arr.toList.take (n*2)).drop (i*2):=⟨_,rfl⟩
  have h1:∀u∈cs,u.oneCell'=true:=fun u hu=>h1c u (by rw[hcs] at hu;exact List.mem_of_mem_drop hu)
  have hcl:cs.length=(n-i)*2:=by rw[hcs];simp;omega
  by_cases hroom:n+1≤c
  · have hvo:vo<va.size:=by
      have:=hvs 0 vs[0] (List.getElem?_eq_getElem (by omega))
      have:=(Array.getElem?_eq_some_iff.1 this).1
      omega
    have hov:∀y,(callFunc 191 #[.slice (some ⟨vb,vo,none⟩) 1 vc,.slice (some ⟨b,(i+1)*2,none⟩) (n-i) y]).run Tryz.prog w=.ok (.value (.bool false)) w:=fun y=>by
      rw[run_callFunc_extern Tryz.func191 (by kernel_rfl) (by kernel_rfl) (by kernel_rfl) (e:=Extern.SlicesOverlaps.overlaps #[32,32] #[4]) (by kernel_rfl),
        overlaps_apart2 w 32 4 69 iqU177 2 (fun w=>by rw[run_size hinf,hsz]) ⟨vb,vo,none⟩ ⟨b,(i+1)*2,none⟩ 1 vc (n-i) y hbn tv tb va.size arr.size (by simp[World.shape?,hmemv]) (by simp[World.shape?,hmem]) (by omega)
          (by have:=hf ((i+1)*2) (by omega);simp only[World.frozen?,hmem];simp;omega) (by have:=hf arr.size (Nat.le_refl _);simp only[World.frozen?,hmem];simp;omega)]
      rfl
    refine(iqShift177 hinf hsz w b i n c vb vo vc arr tb fz cs vs hmem (fun j hj=>hf j (by omega)) hi hroom hsize hby hbn hcs hvl (fun j u hj=>by simpa [World.cell?,hmemv] using hvs j u hj) h1 h1v hov _ _ rfl rfl).mono fun x w'=>?_
    rintro⟨rfl,rfl⟩
    have hA1s:(arr.toList.take ((i+1)*2)++(cs++arr.toList.drop ((i+1)*2+cs.length))).toArray.size=arr.size:=by simp[hcl];omega
    have hm1:=setRow_heap w.drew b arr (arr.toList.take ((i+1)*2)++(cs++arr.toList.drop ((i+1)*2+cs.length))).toArray tb fz hmem
    generalize hA1:(arr.toList.take ((i+1)*2)++(cs++arr.toList.drop ((i+1)*2+cs.length))).toArray=A1 at *
    have hA2s:(A1.toList.take (i*2)++(vs++A1.toList.drop (i*2+vs.length))).toArray.size=A1.size:=by simp[hvl];omega
    have hm2:=setRow_heap (w.drew.setRow b A1) b A1 (A1.toList.take (i*2)++(vs++A1.toList.drop (i*2+vs.length))).toArray tb fz hm1
    refine⟨b,c,tb,_,fz,rfl,rfl,rfl,rfl,hm2,fun j hj=>hf j (by rw[hA2s,hA1s] at hj;exact hj),by rw[hA2s,hA1s];exact hsize,hroom,?_,.inl ⟨rfl,rfl,by rw[hA2s,hA1s],by rw[setRow_size,setRow_size];rfl,fun j hj=>?_⟩⟩
    · subst hA1
      exact insShiftL arr.toList vs cs (i*2) (n*2) 2 ((i+1)*2) ((n+1)*2) (by omega) (by omega) (by omega) (by simp;omega) hvl hcs
    · rw[setRow_other _ _ _ _ hj,setRow_other _ _ _ _ hj];rfl
  · refine(iqGrow177 hinf hsz hzz hzs hbb w b i n c vb vo vc arr tb fz cs vs hmem hi hnc hroom hsize hby va tv fv hmemv hcs hvl hvs h1 h1v _ rfl _ _ _ rfl rfl rfl).mono fun x w'=>?_
    rintro⟨rfl,rfl⟩
    have hGn:n+1≤grownCap w (n+1) c 69:=grownCap_ge w _ _ _
    have hzc:∀k,(Builtin.zeroCells z.cells k).size=k*2:=fun k=>by rw[size_zeroCells,hzs]
    have hRs:((arr.toList.take (i*2)).toArray++Builtin.zeroCells z.cells (n+1-i)++Builtin.zeroCells z.cells (grownCap w (n+1) c 69-(n+1))).size=grownCap w (n+1) c 69*2:=by
      simp only[Array.size_append,hzc,List.size_toArray,List.length_take,Array.length_toList];omega
    have hRt:((arr.toList.take (i*2)).toArray++Builtin.zeroCells z.cells (n+1-i)++Builtin.zeroCells z.cells (grownCap w (n+1) c 69-(n+1))).toList.take (i*2)=arr.toList.take (i*2):=by
      simp only[Array.toList_append,List.append_assoc]
      exact List.take_left' (by simp;omega)
    generalize hG:grownCap w (n+1) c 69=G at *
    generalize hR:(arr.toList.take (i*2)).toArray++Builtin.zeroCells z.cells (n+1-i)++Builtin.zeroCells z.cells (G-(n+1))=ROW at *
    have hm0:(w.drew.alloc (.cells ROW 69)).heap[w.heap.size]? = some (.cells ROW 69 (0,0)):=heap_alloc_new w.drew _
    have hA1s:(ROW.toList.take (i*2)++(vs++ROW.toList.drop (i*2+vs.length))).toArray.size=ROW.size:=by simp[hvl];omega
    have hm1:=setRow_heap (w.drew.alloc (.cells ROW 69)) w.heap.size ROW (ROW.toList.take (i*2)++(vs++ROW.toList.drop (i*2+vs.length))).toArray 69 (0,0) hm0
    generalize hA1:(ROW.toList.take (i*2)++(vs++ROW.toList.drop (i*2+vs.length))).toArray=A1 at *
    have hA2s:(A1.toList.take ((i+1)*2)++(cs++A1.toList.drop ((i+1)*2+cs.length))).toArray.size=A1.size:=by simp[hcl];omega
    have hm2:=setRow_heap ((w.drew.alloc (.cells ROW 69)).setRow w.heap.size A1).drew w.heap.size A1 (A1.toList.take ((i+1)*2)++(cs++A1.toList.drop ((i+1)*2+cs.length))).toArray 69 (0,0) hm1
    refine⟨w.heap.size,G,69,_,(0,0),rfl,rfl,rfl,rfl,hm2,fun j _ hj=>by simp at hj,by rw[hA2s,hA1s];exact hRs,hGn,?_,.inr ⟨rfl,rfl,?_,fun j hj=>?_⟩⟩
    · subst hA1
      exact insGrowL arr.toList ROW.toList vs cs (i*2) (n*2) 2 ((i+1)*2) ((n+1)*2) (by omega) (by omega) (by omega) (by simp;omega) hvl hcs hRt
    · rw[setRow_size]
      show ((w.drew.alloc (.cells ROW 69)).setRow w.heap.size A1).heap.size=_
      rw[setRow_size]
      simp
    · rw[setRow_other _ _ _ _ (by omega)]
      show ((w.drew.alloc (.cells ROW 69)).setRow w.heap.size A1).heap[j]? = _
      rw[setRow_other _ _ _ _ (by omega)]
      exact heap_alloc_old w.drew _ hj


set_option maxHeartbeats 4000000 in
theorem insEndN171 (w:World) (n c:Nat) (a:Addr) (vc:Nat) (hnc:n≤c) (hc0:c=0) (hn:n≤140737488355328) (x:Option Addr) (m k:Nat) {w1:World}
    (hap:∀ty,(Builtin.append_ #[29,29] ty #[.slice none n c,.slice (some a) 1 vc]).run Tryz.prog w=.ok (.slice x m k) w1):
    Calls Tryz.prog 171 #[.slice none n c,.int .i64 (n:Nat),.slice (some a) 1 vc] w fun e w'=>e=.returned (.slice x m k)∧w'=w1:=by
  have mixed:=mixed
  have hb1:(0:Int)≤(n:Int):=by omega
  have hb2:(n:Int)≤(n:Int):=Int.le_refl _
  have hb7:(n:Int)≤(c:Int):=by omega
  have hn0:n=0:=by omega
  subst hc0 hn0
  all_goals
    go_enter Tryz.func171,Tryz.ntmps171
    go_wp2_with (at_builtin;refine Lib.wpList_append_run _ rfl _ _ _ _ rfl _ _ rfl rfl _ _ (hap _) ?_)
    all_goals
      go_ret
      exact⟨rfl,rfl⟩


set_option maxHeartbeats 4000000 in
theorem insEndS171 (w:World) (b:Addr) (n c:Nat) (a:Addr) (vc:Nat) (hnc:n≤c) (hn:n≤140737488355328) (x:Option Addr) (m k:Nat) {w1:World}
    (hap:∀ty,(Builtin.append_ #[29,29] ty #[.slice (some b) n c,.slice (some a) 1 vc]).run Tryz.prog w=.ok (.slice x m k) w1):
    Calls Tryz.prog 171 #[.slice (some b) n c,.int .i64 (n:Nat),.slice (some a) 1 vc] w fun e w'=>e=.returned (.slice x m k)∧w'=w1:=by
  have mixed:=mixed
  have hb1:(0:Int)≤(n:Int):=by omega
  have hb2:(n:Int)≤(n:Int):=Int.le_refl _
  have hb7:(n:Int)≤(c:Int):=by omega
  have hb8:True:=trivial
  by_cases hcn:c=n
  all_goals
    go_enter Tryz.func171,Tryz.ntmps171
    go_wp2_with (at_builtin;refine Lib.wpList_append_run _ rfl _ _ _ _ rfl _ _ rfl rfl _ _ (hap _) ?_)
    all_goals
      go_ret
      exact⟨rfl,rfl⟩


set_option maxHeartbeats 4000000 in
theorem insEndN177 (w:World) (n c:Nat) (a:Addr) (vc:Nat) (hnc:n≤c) (hc0:c=0) (hn:n≤140737488355328) (x:Option Addr) (m k:Nat) {w1:World}
    (hap:∀ty,(Builtin.append_ #[32,32] ty #[.slice none n c,.slice (some a) 1 vc]).run Tryz.prog w=.ok (.slice x m k) w1):
    Calls Tryz.prog 177 #[.slice none n c,.int .i64 (n:Nat),.slice (some a) 1 vc] w fun e w'=>e=.returned (.slice x m k)∧w'=w1:=by
  have mixed:=mixed
  have hb1:(0:Int)≤(n:Int):=by omega
  have hb2:(n:Int)≤(n:Int):=Int.le_refl _
  have hb7:(n:Int)≤(c:Int):=by omega
  have hn0:n=0:=by omega
  subst hc0 hn0
  all_goals
    go_enter Tryz.func177,Tryz.ntmps177
    go_wp2_with (at_builtin;refine Lib.wpList_append_run _ rfl _ _ _ _ rfl _ _ rfl rfl _ _ (hap _) ?_)
    all_goals
      go_ret
      exact⟨rfl,rfl⟩


set_option maxHeartbeats 4000000 in
theorem insEndS177 (w:World) (b:Addr) (n c:Nat) (a:Addr) (vc:Nat) (hnc:n≤c) (hn:n≤140737488355328) (x:Option Addr) (m k:Nat) {w1:World}
    (hap:∀ty,(Builtin.append_ #[32,32] ty #[.slice (some b) n c,.slice (some a) 1 vc]).run Tryz.prog w=.ok (.slice x m k) w1):
    Calls Tryz.prog 177 #[.slice (some b) n c,.int .i64 (n:Nat),.slice (some a) 1 vc] w fun e w'=>e=.returned (.slice x m k)∧w'=w1:=by
  have mixed:=mixed
  have hb1:(0:Int)≤(n:Int):=by omega
  have hb2:(n:Int)≤(n:Int):=Int.le_refl _
  have hb7:(n:Int)≤(c:Int):=by omega
  have hb8:True:=trivial
  by_cases hcn:c=n
  all_goals
    go_enter Tryz.func177,Tryz.ntmps177
    go_wp2_with (at_builtin;refine Lib.wpList_append_run _ rfl _ _ _ _ rfl _ _ rfl rfl _ _ (hap _) ?_)
    all_goals
      go_ret
      exact⟨rfl,rfl⟩


theorem insN171:InsE Tryz.prog 171 29 53 3 24:=by
  refine⟨iqU171,?_,fun w base n c a vc hnc hbn hn x m k w1 hap=>?_⟩
  · obtain⟨inf,z,h1,h2,h3,h4,h5⟩:=iqE171
    exact⟨inf,z,h1,h2,h3,h4,h5⟩
  · cases base with
    | none=>exact insEndN171 w n c a vc hnc (hbn rfl) hn x m k hap
    | some b=>exact insEndS171 w b n c a vc hnc hn x m k hap

theorem insN177:InsE Tryz.prog 177 32 69 2 24:=by
  refine⟨iqU177,?_,fun w base n c a vc hnc hbn hn x m k w1 hap=>?_⟩
  · obtain⟨inf,z,h1,h2,h3,h4,h5⟩:=iqE177
    exact⟨inf,z,h1,h2,h3,h4,h5⟩
  · cases base with
    | none=>exact insEndN177 w n c a vc hnc (hbn rfl) hn x m k hap
    | some b=>exact insEndS177 w b n c a vc hnc hn x m k hap

def u_2:Uf:=⟨156,18,Tryz.f156,[.val .str,.val .str],[],
⟨[(4,.val .bool)],[]⟩,[],
[],
[],fun y=>(valW .bool y,[],[])⟩
def V_2 (N:Nat) (x:List UInt8×List UInt8):Option (Bool):=
 cnd (decide ((↑(List.length x.2):Int)≤(↑(List.length x.1):Int))) (cnd (decide ((0:Int)≤(↑(List.length x.2):Int))&&decide ((↑(List.length x.2):Int)≤(↑(List.length x.1):Int))) (some (List.drop (0:Nat) (List.take (Int.toNat (↑(List.length x.2):Int)) x.1)==x.2)) none) (some false)
theorem q_2:∀N x,u_2.F L0 P0 (orcOf []) N x=V_2 N x:=by intros;kernel_rfl
def W_2 (N:Nat):=V_2 N
theorem con_2_ok (N:Nat):(u_2.con (W_2 N)).ok P0:=Uf.ok mixed (q_2 N) trivial Tryz.func156 (by kernel_rfl) fun x y=>by kernel_rfl
def u_Q:Uf:=⟨107,8,Tryz.f107,[.val .str,.val .str],[],
⟨[(4,.val .bool)],[]⟩,[],
[],
[],fun y=>(valW .bool y,[],[])⟩
def V_Q (w_2:List UInt8×List UInt8→Option (Bool)) (N:Nat) (x:List UInt8×List UInt8):Option (Bool):=
 obind (w_2 x) fun b=>some b
theorem q_Q:∀w_2 N x,u_Q.F L0 P0 (orcOf [u_2.con w_2]) N x=V_Q w_2 N x:=by intros;kernel_rfl
def W_Q (N:Nat):=V_Q (W_2 N) N
theorem con_Q_ok (N:Nat):(u_Q.con (W_Q N)).ok P0:=Uf.ok mixed (q_Q (W_2 N) N) ⟨con_2_ok N,trivial⟩ Tryz.func107 (by kernel_rfl) fun x y=>by kernel_rfl
def u_T:Uf:=⟨52,14,Tryz.f52,[.val .str,.val (.int .i32)],[],
⟨[(4,.val (.int .i64))],[]⟩,[],
[],
[],fun y=>(valW (.int .i64) y,[],[])⟩
def V_T (w_Q:List UInt8×List UInt8→Option (Bool)) (N:Nat) (x:List UInt8×Int):Option (Int):=
 cnd (decide (x.2=(65533:Int))) (obind (w_Q (x.1,[(239:UInt8),(191:UInt8),(189:UInt8)])) fun b=>cnd (!b) (some (-1:Int)) (some (wr .i64 x.2))) (some (wr .i64 x.2))
theorem q_T:∀w_Q N x,u_T.F L0 P0 (orcOf [u_Q.con w_Q]) N x=V_T w_Q N x:=by intros;kernel_rfl
def W_T (N:Nat):=V_T (W_Q N) N
theorem con_T_ok (N:Nat):(u_T.con (W_T N)).ok P0:=Uf.ok mixed (q_T (W_Q N) N) ⟨con_Q_ok N,trivial⟩ Tryz.func52 (by kernel_rfl) fun x y=>by kernel_rfl
def u_0:Uf:=⟨26,36,Tryz.f26,[.val .str],[],
⟨[(2,.val .bool)],[]⟩,[],
[(3,.loop [] ⟨[(3,.val (.int .i64)),(8,.ptr 600008 0)],[(600008,.iter)]⟩ [(.exit 0,⟨[(3,.val (.int .i64))],[]⟩),(.ret,⟨[(2,.val .bool)],[]⟩)])],
[],fun y=>(valW .bool y,[],[])⟩
def V_0 (w_T:List UInt8×Int→Option (Int)) (N:Nat) (x:List UInt8):Option (Bool):=
 obind (loopN N (fun(v:Int×List UInt8×Int)=>cnd (decide (Int.toNat v.2.2<List.length v.2.1)) (cnd (decide ((0:Int)≤(↑(Int.toNat v.2.2):
 Int))&&decide ((↑(Int.toNat v.2.2):Int)≤(↑(List.length x):Int))) (obind (w_T (List.drop (Int.toNat (↑(Int.toNat v.2.2):Int))
 (List.take (List.length x) x),(↑(Prod.fst (Utf8.decode { data:={ toList:=v.2.1 } } (Int.toNat v.2.2))):Int))) fun b=>cnd (decide (b <
 (33:Int))) (some (Sum.inr (Sum.inr false))) (cnd (decide ((127:Int)≤b)) (cnd (decide (b≤(159:Int))) (some (Sum.inr (Sum.inr false))) (some
 (Sum.inl (wr .i64 (v.1+(1:Int)),v.2.1,(↑(Int.toNat v.2.2+Prod.snd (Utf8.decode { data:={ toList:=v.2.1 } } (Int.toNat v.2.2))):Int)))))
 (some (Sum.inl (wr .i64 (v.1+(1:Int)),v.2.1,(↑(Int.toNat v.2.2+Prod.snd (Utf8.decode { data:={ toList:=v.2.1 } } (Int.toNat v.2.2))):
 Int)))))) none) (some (Sum.inr (Sum.inl v.1)))) ((0:Int),x,(↑(0:Nat):Int))) fun(b:Int⊕Bool)=>selim (fun(b:Int)=>cnd (decide ((1:Int)
 ≤ b)) (some (decide (b≤(8:Int)))) (some false)) (fun(c:Bool)=>some c) b
theorem q_0:∀w_T N x,u_0.F L0 P0 (orcOf [u_T.con w_T]) N x=V_0 w_T N x:=by intros;kernel_rfl
def W_0 (N:Nat):=V_0 (W_T N) N
theorem con_0_ok (N:Nat):(u_0.con (W_0 N)).ok P0:=Uf.ok mixed (q_0 (W_T N) N) ⟨con_T_ok N,trivial⟩ Tryz.func26 (by kernel_rfl) fun x y=>by kernel_rfl
def as_d:List AS:=[.val (.list (.int .i64))]
def bs_d:List BS:=[]
def pout_d:Pat:=⟨[(2,.acc 700005)],[(700005,.nrow 3 (.int .i64) false true)]⟩
def G_d  (N:Nat):OrcT:=orcOf []
def F_d  (N:Nat) (x:List Int):Option (List Int):=
  (evT (G_d  N) L0 P0 []
    [] N 400 (bodyOf Tryz.f108) ⟨8,slots 0 [.nl ⟨(.int .i64),x⟩],tabU (lbOf as_d bs_d x) [],[]⟩).elim (kRet 8 pout_d (kpL []) (lbOf as_d bs_d x))
def out_d (y:List Int):V×List OK×List OK:=(.acc 2000000 0,[],[.nrow 3 false true ⟨(.int .i64),y⟩])
def V_d  (N:Nat) (x:List Int):Option (List Int):=
 cnd (decide (List.length x*(8:Nat)≤(140737488355328:Nat))) (some x) none
theorem FV_d_eq  (N:Nat) (x:List Int):F_d  N x=V_d  N x:=by kernel_rfl
def W_d (N:Nat) (x:List Int):Option (List Int):=V_d  N x
theorem F_d_eq (N:Nat) (x:List Int):F_d  N x=W_d N x:=(FV_d_eq  N x).trans (by kernel_rfl)
def conw_d (w:List Int→Option (List Int)):Con:=⟨108,as_d,bs_d,List Int,w,out_d⟩
def con_d (N:Nat):Con:=conw_d (W_d N)
theorem R_d_eq (x:List Int) (y:List Int):retOf2 P0 Tryz.f108 (kpL []) (lbOf as_d bs_d x) (patS ⟨8,[],[],[]⟩ pout_d y)=some (out_d y):=by kernel_rfl
def FA_slices_Clone_int:Option (List Int):=(evT (G_d 1) L0 P0 [] [] 1 400 (bodyOf Tryz.f108) ⟨8,slots 0 [.snil],tabU [] [],[]⟩).elim (kRet 8 pout_d (kpL []) [])
theorem FA_slices_Clone_int_eq:FA_slices_Clone_int=some []:=by kernel_rfl
theorem WN_slices_Clone_int (N:Nat) (r:List Int) (h:W_d N []=some r):r=[]:=by
  have e:W_d N []=some []:=by kernel_rfl
  rw[e] at h;injection h with h;exact h.symm
theorem con_d_ok (N:Nat):Con.ok P0 (con_d N):=⟨⟨Tryz.f108,Tryz.func108,by kernel_rfl,by kernel_rfl⟩,fun(x:List Int) (r:List Int) (hr:W_d N x=some r)=>
  clone_split (e:=(.int .i64)) (ty:=3) (l:=x) (r:=r)
    (spec2_evT (Γ:=G_d 1) (Λ:=L0) (lb:=[]) (pout:=pout_d) (kp:=kpL []) mixed (orcOf_ok [] (by simp)) Tryz.func108 (c:=bodyOf Tryz.f108) (by kernel_rfl) (by kernel_rfl) (of_decide_eq_true (by kernel_rfl)) FA_slices_Clone_int_eq (R_d_eq x []))
    (spec2_evT (Γ:=G_d N) (Λ:=L0) (lb:=[]) (pout:=pout_d) (kp:=kpL []) mixed (orcOf_ok [] (by simp)) Tryz.func108 (c:=bodyOf Tryz.f108) (by kernel_rfl) (by kernel_rfl) (of_decide_eq_true (by kernel_rfl)) ((F_d_eq N x).trans hr) (R_d_eq x r))
    (fun h=>by subst h;exact WN_slices_Clone_int N r hr)⟩
def as_e:List AS:=[.val (.list T3_)]
def bs_e:List BS:=[]
def pout_e:Pat:=⟨[(2,.acc 700005)],[(700005,.nrow 53 T3_ false true)]⟩
def G_e  (N:Nat):OrcT:=orcOf []
def F_e  (N:Nat) (x:List (Int×Int×Int)):Option (List (Int×Int×Int)):=
  (evT (G_e  N) L0 P0 []
    [] N 400 (bodyOf Tryz.f109) ⟨8,slots 0 [.nl ⟨T3_,x⟩],tabU (lbOf as_e bs_e x) [],[]⟩).elim (kRet 8 pout_e (kpL []) (lbOf as_e bs_e x))
def out_e (y:List (Int×Int×Int)):V×List OK×List OK:=(.acc 2000000 0,[],[.nrow 53 false true ⟨T3_,y⟩])
def V_e  (N:Nat) (x:List (Int×Int×Int)):Option (List (Int×Int×Int)):=
 cnd (decide (List.length x*(24:Nat)≤(140737488355328:Nat))) (some x) none
theorem FV_e_eq  (N:Nat) (x:List (Int×Int×Int)):F_e  N x=V_e  N x:=by kernel_rfl
def W_e (N:Nat) (x:List (Int×Int×Int)):Option (List (Int×Int×Int)):=V_e  N x
theorem F_e_eq (N:Nat) (x:List (Int×Int×Int)):F_e  N x=W_e N x:=(FV_e_eq  N x).trans (by kernel_rfl)
def conw_e (w:List (Int×Int×Int)→Option (List (Int×Int×Int))):Con:=⟨109,as_e,bs_e,List (Int×Int×Int),w,out_e⟩
def con_e (N:Nat):Con:=conw_e (W_e N)
theorem R_e_eq (x:List (Int×Int×Int)) (y:List (Int×Int×Int)):retOf2 P0 Tryz.f109 (kpL []) (lbOf as_e bs_e x) (patS ⟨8,[],[],[]⟩ pout_e y)=some (out_e y):=by kernel_rfl
def FA_slices_Clone_api_Kid:Option (List (Int×Int×Int)):=(evT (G_e 1) L0 P0 [] [] 1 400 (bodyOf Tryz.f109) ⟨8,slots 0 [.snil],tabU [] [],[]⟩).elim (kRet 8 pout_e (kpL []) [])
theorem FA_slices_Clone_api_Kid_eq:FA_slices_Clone_api_Kid=some []:=by kernel_rfl
theorem WN_slices_Clone_api_Kid (N:Nat) (r:List (Int×Int×Int)) (h:W_e N []=some r):r=[]:=by
  have e:W_e N []=some []:=by kernel_rfl
  rw[e] at h;injection h with h;exact h.symm
theorem con_e_ok (N:Nat):Con.ok P0 (con_e N):=⟨⟨Tryz.f109,Tryz.func109,by kernel_rfl,by kernel_rfl⟩,fun(x:List (Int×Int×Int)) (r:List (Int×Int×Int)) (hr:W_e N x=some r)=>
  clone_split (e:=T3_) (ty:=53) (l:=x) (r:=r)
    (spec2_evT (Γ:=G_e 1) (Λ:=L0) (lb:=[]) (pout:=pout_e) (kp:=kpL []) mixed (orcOf_ok [] (by simp)) Tryz.func109 (c:=bodyOf Tryz.f109) (by kernel_rfl) (by kernel_rfl) (of_decide_eq_true (by kernel_rfl)) FA_slices_Clone_api_Kid_eq (R_e_eq x []))
    (spec2_evT (Γ:=G_e N) (Λ:=L0) (lb:=[]) (pout:=pout_e) (kp:=kpL []) mixed (orcOf_ok [] (by simp)) Tryz.func109 (c:=bodyOf Tryz.f109) (by kernel_rfl) (by kernel_rfl) (of_decide_eq_true (by kernel_rfl)) ((F_e_eq N x).trans hr) (R_e_eq x r))
    (fun h=>by subst h;exact WN_slices_Clone_api_Kid N r hr)⟩
def u_t:Uf:=⟨53,12,Tryz.f53,[.val (.agg T1_)],[],
⟨[(2,.ptr 600002 0)],[(600002,.box 31 (.val T1_))]⟩,[],
[],
[],fun y=>(valW (.agg T1_) y,[],[])⟩
def V_t (w_d:List Int→Option (List Int)) (w_e:List (Int×Int×Int)→Option (List (Int×Int×Int))) (N:Nat) (x:A2_):Option A2_:=
 obind (w_d x.2.2.2.2.2.2.1) fun b=>obind (w_e x.2.2.2.2.2.2.2.2.2.2.2.2) fun b_1=>some (x.1,x.2.1,x.2.2.1,
 x.2.2.2.1,x.2.2.2.2.1,x.2.2.2.2.2.1,b,x.2.2.2.2.2.2.2.1,x.2.2.2.2.2.2.2.2.1,x.2.2.2.2.2.2.2.2.2.1,x.2.2.2.2.2.2.2.2.2.2.1,
 x.2.2.2.2.2.2.2.2.2.2.2.1,b_1)
theorem q_t:∀w_d w_e N x,u_t.F L0 P0 (orcOf [conw_d w_d,conw_e w_e]) N x=V_t w_d w_e N x:=by intros;kernel_rfl
def W_t (N:Nat):=V_t (W_d N) (W_e N) N
theorem con_t_ok (N:Nat):(u_t.con (W_t N)).ok P0:=Uf.ok mixed (q_t (W_d N) (W_e N) N) ⟨con_d_ok N,con_e_ok N,trivial⟩ Tryz.func53 (by kernel_rfl) fun x y=>by kernel_rfl
def as_b:List AS:=[.val (.list T5_)]
def bs_b:List BS:=[]
def pout_b:Pat:=⟨[(2,.acc 700005)],[(700005,.nrow 69 T5_ false true)]⟩
def G_b  (N:Nat):OrcT:=orcOf []
def F_b  (N:Nat) (x:List (Int×List UInt8)):Option (List (Int×List UInt8)):=
  (evT (G_b  N) L0 P0 []
    [] N 400 (bodyOf Tryz.f110) ⟨8,slots 0 [.nl ⟨T5_,x⟩],tabU (lbOf as_b bs_b x) [],[]⟩).elim (kRet 8 pout_b (kpL []) (lbOf as_b bs_b x))
def out_b (y:List (Int×List UInt8)):V×List OK×List OK:=(.acc 2000000 0,[],[.nrow 69 false true ⟨T5_,y⟩])
def V_b  (N:Nat) (x:List (Int×List UInt8)):Option (List (Int×List UInt8)):=
 cnd (decide (List.length x*(24:Nat)≤(140737488355328:Nat))) (some x) none
theorem FV_b_eq  (N:Nat) (x:List (Int×List UInt8)):F_b  N x=V_b  N x:=by kernel_rfl
def W_b (N:Nat) (x:List (Int×List UInt8)):Option (List (Int×List UInt8)):=V_b  N x
theorem F_b_eq (N:Nat) (x:List (Int×List UInt8)):F_b  N x=W_b N x:=(FV_b_eq  N x).trans (by kernel_rfl)
def conw_b (w:List (Int×List UInt8)→Option (List (Int×List UInt8))):Con:=⟨110,as_b,bs_b,List (Int×List UInt8),w,out_b⟩
def con_b (N:Nat):Con:=conw_b (W_b N)
theorem R_b_eq (x:List (Int×List UInt8)) (y:List (Int×List UInt8)):retOf2 P0 Tryz.f110 (kpL []) (lbOf as_b bs_b x) (patS ⟨8,[],[],[]⟩ pout_b y)=some (out_b y):=by kernel_rfl
def FA_slices_Clone_api_Item:Option (List (Int×List UInt8)):=(evT (G_b 1) L0 P0 [] [] 1 400 (bodyOf Tryz.f110) ⟨8,slots 0 [.snil],tabU [] [],[]⟩).elim (kRet 8 pout_b (kpL []) [])
theorem FA_slices_Clone_api_Item_eq:FA_slices_Clone_api_Item=some []:=by kernel_rfl
theorem WN_slices_Clone_api_Item (N:Nat) (r:List (Int×List UInt8)) (h:W_b N []=some r):r=[]:=by
  have e:W_b N []=some []:=by kernel_rfl
  rw[e] at h;injection h with h;exact h.symm
theorem con_b_ok (N:Nat):Con.ok P0 (con_b N):=⟨⟨Tryz.f110,Tryz.func110,by kernel_rfl,by kernel_rfl⟩,fun(x:List (Int×List UInt8)) (r:List (Int×List UInt8)) (hr:W_b N x=some r)=>
  clone_split (e:=T5_) (ty:=69) (l:=x) (r:=r)
    (spec2_evT (Γ:=G_b 1) (Λ:=L0) (lb:=[]) (pout:=pout_b) (kp:=kpL []) mixed (orcOf_ok [] (by simp)) Tryz.func110 (c:=bodyOf Tryz.f110) (by kernel_rfl) (by kernel_rfl) (of_decide_eq_true (by kernel_rfl)) FA_slices_Clone_api_Item_eq (R_b_eq x []))
    (spec2_evT (Γ:=G_b N) (Λ:=L0) (lb:=[]) (pout:=pout_b) (kp:=kpL []) mixed (orcOf_ok [] (by simp)) Tryz.func110 (c:=bodyOf Tryz.f110) (by kernel_rfl) (by kernel_rfl) (of_decide_eq_true (by kernel_rfl)) ((F_b_eq N x).trans hr) (R_b_eq x r))
    (fun h=>by subst h;exact WN_slices_Clone_api_Item N r hr)⟩
def as_c:List AS:=[.val (.list T4_)]
def bs_c:List BS:=[]
def pout_c:Pat:=⟨[(2,.acc 700005)],[(700005,.nrow 55 T4_ false true)]⟩
def G_c  (N:Nat):OrcT:=orcOf []
def F_c  (N:Nat) (x:List A4_):Option (List A4_):=
  (evT (G_c  N) L0 P0 []
    [] N 400 (bodyOf Tryz.f111) ⟨8,slots 0 [.nl ⟨T4_,x⟩],tabU (lbOf as_c bs_c x) [],[]⟩).elim (kRet 8 pout_c (kpL []) (lbOf as_c bs_c x))
def out_c (y:List A4_):V×List OK×List OK:=(.acc 2000000 0,[],[.nrow 55 false true ⟨T4_,y⟩])
def V_c  (N:Nat) (x:List A4_):Option (List A4_):=
 cnd (decide (List.length x*(48:Nat)≤(140737488355328:Nat))) (some x) none
theorem FV_c_eq  (N:Nat) (x:List A4_):F_c  N x=V_c  N x:=by kernel_rfl
def W_c (N:Nat) (x:List A4_):Option (List A4_):=V_c  N x
theorem F_c_eq (N:Nat) (x:List A4_):F_c  N x=W_c N x:=(FV_c_eq  N x).trans (by kernel_rfl)
def conw_c (w:List A4_→Option (List A4_)):Con:=⟨111,as_c,bs_c,List A4_,w,out_c⟩
def con_c (N:Nat):Con:=conw_c (W_c N)
theorem R_c_eq (x:List A4_) (y:List A4_):retOf2 P0 Tryz.f111 (kpL []) (lbOf as_c bs_c x) (patS ⟨8,[],[],[]⟩ pout_c y)=some (out_c y):=by kernel_rfl
def FA_slices_Clone_api_Event:Option (List A4_):=(evT (G_c 1) L0 P0 [] [] 1 400 (bodyOf Tryz.f111) ⟨8,slots 0 [.snil],tabU [] [],[]⟩).elim (kRet 8 pout_c (kpL []) [])
theorem FA_slices_Clone_api_Event_eq:FA_slices_Clone_api_Event=some []:=by kernel_rfl
theorem WN_slices_Clone_api_Event (N:Nat) (r:List A4_) (h:W_c N []=some r):r=[]:=by
  have e:W_c N []=some []:=by kernel_rfl
  rw[e] at h;injection h with h;exact h.symm
theorem con_c_ok (N:Nat):Con.ok P0 (con_c N):=⟨⟨Tryz.f111,Tryz.func111,by kernel_rfl,by kernel_rfl⟩,fun(x:List A4_) (r:List A4_) (hr:W_c N x=some r)=>
  clone_split (e:=T4_) (ty:=55) (l:=x) (r:=r)
    (spec2_evT (Γ:=G_c 1) (Λ:=L0) (lb:=[]) (pout:=pout_c) (kp:=kpL []) mixed (orcOf_ok [] (by simp)) Tryz.func111 (c:=bodyOf Tryz.f111) (by kernel_rfl) (by kernel_rfl) (of_decide_eq_true (by kernel_rfl)) FA_slices_Clone_api_Event_eq (R_c_eq x []))
    (spec2_evT (Γ:=G_c N) (Λ:=L0) (lb:=[]) (pout:=pout_c) (kp:=kpL []) mixed (orcOf_ok [] (by simp)) Tryz.func111 (c:=bodyOf Tryz.f111) (by kernel_rfl) (by kernel_rfl) (of_decide_eq_true (by kernel_rfl)) ((F_c_eq N x).trans hr) (R_c_eq x r))
    (fun h=>by subst h;exact WN_slices_Clone_api_Event N r hr)⟩
def u_a:Uf:=⟨54,16,Tryz.f54,[.val (.agg T2_)],[],
⟨[(2,.ptr 600002 0)],[(600002,.box 37 (.val T2_))]⟩,[],
[],
[],fun y=>(valW (.agg T2_) y,[],[])⟩
def V_a (w_b:List (Int×List UInt8)→Option (List (Int×List UInt8))) (w_c:List A4_→Option (List A4_)) (N:Nat) (x:A1_):Option A1_:=
 obind (w_b x.2.2.1) fun b=>obind (w_b x.2.2.2.1) fun b_1=>obind (w_c x.2.2.2.2.1) fun b_2=>some (x.1,x.2.1,b,b_1,b_2,x.2.2.2.2.2)
theorem q_a:∀w_b w_c N x,u_a.F L0 P0 (orcOf [conw_b w_b,conw_c w_c]) N x=V_a w_b w_c N x:=by intros;kernel_rfl
def W_a (N:Nat):=V_a (W_b N) (W_c N) N
theorem con_a_ok (N:Nat):(u_a.con (W_a N)).ok P0:=Uf.ok mixed (q_a (W_b N) (W_c N) N) ⟨con_b_ok N,con_c_ok N,trivial⟩ Tryz.func54 (by kernel_rfl) fun x y=>by kernel_rfl
def u_j:Uf:=⟨27,12,Tryz.f27,[.val (.agg T0_)],[],
⟨[(2,.ptr 600002 0)],[(600002,.box 39 (.val T0_))]⟩,[],
[],
[],fun y=>(valW (.agg T0_) y,[],[])⟩
def V_j (w_t:A2_→Option A2_) (w_a:A1_→Option A1_) (N:Nat) (x:A0_):Option A0_:=
 obind (w_t x.2.2.2.1) fun b=>obind (w_a x.2.2.2.2.1) fun b_1=>some (x.1,x.2.1,x.2.2.1,b,b_1,x.2.2.2.2.2)
theorem q_j:∀w_t w_a N x,u_j.F L0 P0 (orcOf [u_t.con w_t,u_a.con w_a]) N x=V_j w_t w_a N x:=by intros;kernel_rfl
def W_j (N:Nat):=V_j (W_t N) (W_a N) N
theorem con_j_ok (N:Nat):(u_j.con (W_j N)).ok P0:=Uf.ok mixed (q_j (W_t N) (W_a N) N) ⟨con_t_ok N,con_a_ok N,trivial⟩ Tryz.func27 (by kernel_rfl) fun x y=>by kernel_rfl
def u_1:Uf:=⟨28,22,Tryz.f28,[.val (.int .i64),.val (.int .i64),.val (.int .i64),.val (.int .i64)],[],
⟨[(8,.ptr 600008 0)],[(600008,.box 31 (.val T1_))]⟩,[],
[],
[],fun y=>(valW (.agg T1_) y,[],[])⟩
def V_1 (N:Nat) (x:Int×Int×Int×Int):Option A2_:=
 cnd (decide (x.1=(1:Int))) (some (x.1,x.2.1,x.2.2.1,(0:Int),(0:Int),x.2.2.2,[(1:Int)],(0:Int),x.2.2.1,(0:Int),(0:Int),(0:Int),[])) (some (x.1,x.2.1,x.2.2.1,(0:Int),(0:Int),x.2.2.2,[],(0:Int),(0:Int),(0:Int),(0:Int),(0:Int),[]))
theorem q_1:∀N x,u_1.F L0 P0 (orcOf []) N x=V_1 N x:=by intros;kernel_rfl
def W_1 (N:Nat):=V_1 N
theorem con_1_ok (N:Nat):(u_1.con (W_1 N)).ok P0:=Uf.ok mixed (q_1 N) trivial Tryz.func28 (by kernel_rfl) fun x y=>by kernel_rfl
def u_m:Uf:=⟨12,43,Tryz.f12,[.val (.agg T0_),.val (.int .i64),.val .str,.val (.int .i64)],[],
⟨[(8,.ptr 600008 0),(9,.val .bool)],[(600008,.box 39 (.val T0_))]⟩,[],
[],
[(1000001,.reg [(7,[],⟨[(4,.ptr 600004 0),(8,.ptr 600008 0),(17,.val .bool)],[(600004,.box 39 (.val T0_)),(600008,.box 39 (.val T0_))]⟩),(4,[],⟨[(4,.ptr 600004 0),(8,.ptr 600008 0),(21,.val .bool)],[(600004,.box 39 (.val T0_)),(600008,.box 39 (.val T0_))]⟩),(4,[],⟨[(4,.ptr 600004 0),(8,.ptr 600008 0),(25,.val .bool)],[(600004,.box 39 (.val T0_)),(600008,.box 39 (.val T0_))]⟩)])],fun y=>(.tup [valW (.agg T0_) y.2,valW .bool y.1],[],[])⟩
def V_m (w_0:List UInt8→Option (Bool)) (w_j:A0_→Option A0_) (w_1:Int×Int×Int×Int→Option A2_) (N:Nat) (x:A0_×Int×List UInt8×Int):Option (Bool×A0_):=
 obind (cnd x.1.1 (some (true,x.1,false,(0:Int),[],((0:Int),(0:Int),(0:Int),(0:Int),(0:Int),(0:Int),[],(0:Int),(0:Int),(0:Int),(0:Int),
 (0:Int),[]),((0:Int),(0:Int),[],[],[],(0:Int),(0:Int)),(0:Int))) (obind (w_0 x.2.2.1) fun b=>some (!b,x.1,false,(0:Int),[],
 ((0:Int),(0:Int),(0:Int),(0:Int),(0:Int),(0:Int),[],(0:Int),(0:Int),(0:Int),(0:Int),(0:Int),[]),((0:Int),(0:Int),[],[],[],(0:Int),
 (0:Int)),(0:Int)))) fun(b:Bool×A0_×A0_)=>obind (cnd b.1 (some (true,
 b.2)) (some (decide (x.2.1<(1:Int)),b.2))) fun(b:Bool×A0_×A0_)=>obind (cnd
 b.1 (some (true,b.2)) (some (decide ((8:Int)<x.2.1),b.2))) fun(b:Bool×A0_×A0_)=>cnd b.1 (obind (w_j b.2.1) fun b=>some (false,b)) (cnd (decide ((1073741824:Int)≤b.2.1.2.1)) (obind (w_j b.2.1) fun
 b=>some (false,b)) (obind (w_1 (x.2.1,wr .i64 (b.2.1.2.1+(1:Int)),(0:Int),x.2.2.2)) fun b_1=>some (true,true,wr .i64 (b.2.1.2.1
 + (1:Int)),x.2.2.1,b_1,((0:Int),(0:Int),[],[],[],(0:Int),(0:Int)),(0:Int))))
theorem q_m:∀w_0 w_j w_1 N x,u_m.F L0 P0 (orcOf [u_0.con w_0,u_j.con w_j,u_1.con w_1]) N x=V_m w_0 w_j w_1 N x:=by intros;kernel_rfl
def W_m (N:Nat):=V_m (W_0 N) (W_j N) (W_1 N) N
theorem con_m_ok (N:Nat):(u_m.con (W_m N)).ok P0:=Uf.ok mixed (q_m (W_0 N) (W_j N) (W_1 N) N) ⟨con_0_ok N,con_j_ok N,con_1_ok N,trivial⟩ Tryz.func12 (by kernel_rfl) fun x y=>by kernel_rfl
def u_h:Uf:=⟨104,12,Tryz.f104,[.val (.agg T2_)],[],
⟨[(2,.val (.alt 158 (.agg (.int .i64)) (.alt1 209 (.agg .unit))))],[]⟩,[],
[],
[],fun y=>(valW (.alt 158 (.agg (.int .i64)) (.alt1 209 (.agg .unit))) y,[],[])⟩
def V_h (N:Nat) (x:A1_):Option (Int⊕Unit):=
 cnd (decide (x.1<(1:Int))) (some (Sum.inr ())) (some (Sum.inl x.1))
theorem q_h:∀N x,u_h.F L0 P0 (orcOf []) N x=V_h N x:=by intros;kernel_rfl
def W_h (N:Nat):=V_h N
theorem con_h_ok (N:Nat):(u_h.con (W_h N)).ok P0:=Uf.ok mixed (q_h N) trivial Tryz.func104 (by kernel_rfl) fun x y=>by kernel_rfl
def u_H:Uf:=⟨105,15,Tryz.f105,[.val (.list T4_),.val (.int .i64),.val .str],[],
⟨[(6,.val (.list T4_))],[]⟩,[],
[],
[],fun y=>(valW (.list T4_) y,[],[])⟩
def V_H (w_c:List A4_→Option (List A4_)) (N:Nat) (x:List A4_×Int×List UInt8):Option (List A4_):=
 obind (w_c x.1) fun b=>cnd (decide ((List.length b+List.length [((1:Int),x.2.1,x.2.1,x.2.2,(0:Int))])*(48:Nat)≤(140737488355328:Nat))) (some (b++[((1:Int),x.2.1,x.2.1,x.2.2,(0:Int))])) none
theorem q_H:∀w_c N x,u_H.F L0 P0 (orcOf [conw_c w_c]) N x=V_H w_c N x:=by intros;kernel_rfl
def W_H (N:Nat):=V_H (W_c N) N
theorem con_H_ok (N:Nat):(u_H.con (W_H N)).ok P0:=Uf.ok mixed (q_H (W_c N) N) ⟨con_c_ok N,trivial⟩ Tryz.func105 (by kernel_rfl) fun x y=>by kernel_rfl
def as_N:List AS:=[.acc 0,.val (.int .i64),.val (.int .i64)]
def bs_N:List BS:=[.nrow 69 T5_ true]
def out_N (y:List (Int×List UInt8)):V×List OK×List OK:=(.acc 2000000 0,[.dead],[.nrow 69 false true ⟨T5_,y⟩])
def W_N (N:Nat) (x:Int×Int×List (Int×List UInt8)):Option (List (Int×List UInt8)):=
  cnd (decide ((0:Int)≤x.1)&&decide (x.1<((↑(List.length x.2.2):Int):Int))&&decide (x.2.1=x.1+(1:Int))&&decide (List.length x.2.2 ≤
    (140737488355328:Nat))&&decide ((2:Nat)≤List.length x.2.2)) (some (List.take (Int.toNat x.1) x.2.2++List.drop (Int.toNat x.1+(1:Nat))
    x.2.2)) none
def conw_N (w:Int×Int×List (Int×List UInt8)→Option (List (Int×List UInt8))):Con:=⟨155,as_N,bs_N,List (Int×List UInt8),w,out_N⟩
def con_N (N:Nat):Con:=conw_N (W_N N)
theorem con_N_ok (N:Nat):Con.ok P0 (con_N N):=⟨⟨Tryz.f155,Tryz.func155,by kernel_rfl,by kernel_rfl⟩,fun(x:Int×Int×List (Int×List UInt8)) (r:List (Int×List UInt8)) (hr:W_N N x=some r)=>by
  obtain⟨i,j,l⟩:=x
  exact del_con2 (e:=T5_) (ty:=69) (nl:=true) (l:=l) (r:=r) (i:=i) (j:=j) delF155 rfl (by decide) hr⟩
def u_I:Uf:=⟨106,34,Tryz.f106,[.val (.list T5_),.val T5_],[],
⟨[(4,.val (.list T5_))],[]⟩,[],
[],
[],fun y=>(valW (.list T5_) y,[],[])⟩
def V_I (w_b:List (Int×List UInt8)→Option (List (Int×List UInt8))) (w_N:Int×Int×List (Int×List UInt8)→Option (List (Int×List UInt8))) (N:Nat) (x:List (Int×List UInt8)×Int×List UInt8):Option (List (Int×List UInt8)):=
 obind (w_b x.1) fun b=>cnd (decide ((0:Int)<(↑(List.length x.1):Int))) (cnd (decide ((0:Int)≤wr .i64 ((↑(List.length
 x.1):Int)-(1:Int)))&&decide (wr .i64 ((↑(List.length x.1):Int)-(1:Int))<(↑(List.length x.1):Int))) (cnd (decide (x.2.1≤Prod.fst
 (List.getD x.1 (Int.toNat (wr .i64 ((↑(List.length x.1):Int)-(1:Int)))) ((0:Int),[])))) (some b) (cnd (decide ((List.length b+List.length
 [x.2])*(24:Nat)≤(140737488355328:Nat))) (cnd (decide ((6:Int)<(↑(List.length (b++[x.2])):Int))) (obind (w_N
 ((0:Int),(1:Int),b++[x.2])) fun b=>some b) (some (b++[x.2]))) none)) none) (cnd (decide ((List.length b+List.length [x.2])*(24:Nat) ≤
 (140737488355328:Nat))) (cnd (decide ((6:Int)<(↑(List.length (b++[x.2])):Int))) (obind (w_N ((0:Int),(1:Int),b++
 [x.2])) fun b=>some b) (some (b++[x.2]))) none)
theorem q_I:∀w_b w_N N x,u_I.F L0 P0 (orcOf [conw_b w_b,conw_N w_N]) N x=V_I w_b w_N N x:=by intros;kernel_rfl
def W_I (N:Nat):=V_I (W_b N) (W_N N) N
theorem con_I_ok (N:Nat):(u_I.con (W_I N)).ok P0:=Uf.ok mixed (q_I (W_b N) (W_N N) N) ⟨con_b_ok N,con_N_ok N,trivial⟩ Tryz.func106 (by kernel_rfl) fun x y=>by kernel_rfl
def u_aS:Uf:=⟨51,48,Tryz.f51,[.val (.agg T2_),.val .str],[],
⟨[(4,.ptr 600004 0),(5,.val .bool)],[(600004,.box 37 (.val T2_))]⟩,[],
[],
[(6,.cut [] [(.normal,⟨[(4,.ptr 600004 0),(6,.ptr 600006 0),(7,.val (.int .i64))],[(600004,.box 37 (.val T2_)),(600006,.box 37 (.val T2_))]⟩)])],fun y=>(.tup [valW (.agg T2_) y.2,valW .bool y.1],[],[])⟩
def V_aS (w_a:A1_→Option A1_) (w_h:A1_→Option (Int⊕Unit)) (w_H:List A4_×Int×List UInt8→Option (List A4_)) (w_I:List (Int×List UInt8)×Int×List UInt8→Option (List (Int×List UInt8))) (N:Nat) (x:A1_×List UInt8):Option (Bool×A1_):=
 obind (w_a x.1) fun b=>obind (obind (w_h x.1) fun b_1=>selim (fun(b_2:Int)=>some (b_2,((0:Int),(0:Int),[],[],[],
 (0:Int),(0:Int)),b)) (fun(c:PUnit)=>some ((1:Int),((0:Int),(0:Int),[],[],[],(0:Int),(0:Int)),b)) b_1) fun(b:Int×A1_×A1_)=>cnd (decide ((12:Int)<(↑(List.length x.2):Int))) (some
 (false,b.2.2)) (cnd (decide ((1000000:Int)<b.1)) (some (false,b.2.2)) (obind (w_H (b.2.2.2.2.2.2.1,b.1,x.2)) fun b_1=>obind
 (w_I (b.2.2.2.2.1,b.1,x.2)) fun b_2=>some (true,wr .i64 (b.1+(1:Int)),b.1,b_2,b.2.2.2.2.2.1,b_1,b.2.2.2.2.2.2.2)))
theorem q_aS:∀w_a w_h w_H w_I N x,u_aS.F L0 P0 (orcOf [u_a.con w_a,u_h.con w_h,u_H.con w_H,u_I.con w_I]) N x=V_aS w_a w_h w_H w_I N x:=by intros;kernel_rfl
def W_aS (N:Nat):=V_aS (W_a N) (W_h N) (W_H N) (W_I N) N
theorem con_aS_ok (N:Nat):(u_aS.con (W_aS N)).ok P0:=Uf.ok mixed (q_aS (W_a N) (W_h N) (W_H N) (W_I N) N) ⟨con_a_ok N,con_h_ok N,con_H_ok N,con_I_ok N,trivial⟩ Tryz.func51 (by kernel_rfl) fun x y=>by kernel_rfl
def u_aw:Uf:=⟨87,19,Tryz.f87,[.val (.agg T2_),.val (.agg T2_)],[],
⟨[(4,.val (.list T4_))],[]⟩,[],
[],
[],fun y=>(valW (.list T4_) y,[],[])⟩
def V_aw (w_c:List A4_→Option (List A4_)) (N:Nat) (x:A1_×A1_):Option (List A4_):=
 cnd (decide ((↑(List.length x.1.2.2.2.2.1):Int)≤(↑(List.length x.2.2.2.2.2.1):Int))) (some []) (cnd (decide ((0:Int)≤(↑(List.length
 x.2.2.2.2.2.1):Int))&&decide ((↑(List.length x.2.2.2.2.2.1):Int)≤(↑(List.length x.1.2.2.2.2.1):Int))) (obind (w_c
 (List.drop (Int.toNat (↑(List.length x.2.2.2.2.2.1):Int)) (List.take (List.length x.1.2.2.2.2.1) x.1.2.2.2.2.1))) fun b=>some b) none)
theorem q_aw:∀w_c N x,u_aw.F L0 P0 (orcOf [conw_c w_c]) N x=V_aw w_c N x:=by intros;kernel_rfl
def W_aw (N:Nat):=V_aw (W_c N) N
theorem con_aw_ok (N:Nat):(u_aw.con (W_aw N)).ok P0:=Uf.ok mixed (q_aw (W_c N) N) ⟨con_c_ok N,trivial⟩ Tryz.func87 (by kernel_rfl) fun x y=>by kernel_rfl
def u_F:Uf:=⟨50,16,Tryz.f50,[.val (.agg T0_),.val (.int .i64),.val (.int .i64)],[],
⟨[(6,.ptr 600006 0)],[(600006,.box 46 (.val T_))]⟩,[],
[],
[],fun y=>(valW (.agg T_) y,[],[])⟩
def V_F (N:Nat) (x:A0_×Int×Int):Option (M_):=
 some (x.2.1,x.1.2.2.2.1.1,x.2.2,x.1.2.2.2.1.2.1,(0:Int),(0:Int),[],(0:Int),(0:Int),[])
theorem q_F:∀N x,u_F.F L0 P0 (orcOf []) N x=V_F N x:=by intros;kernel_rfl
def W_F (N:Nat):=V_F N
theorem con_F_ok (N:Nat):(u_F.con (W_F N)).ok P0:=Uf.ok mixed (q_F N) trivial Tryz.func50 (by kernel_rfl) fun x y=>by kernel_rfl
def u_z:Uf:=⟨81,18,Tryz.f81,[.val (.agg T0_),.val (.int .i64),.val (.int .i64),.val .str],[],
⟨[(8,.ptr 600008 0)],[(600008,.box 46 (.val T_))]⟩,[],
[],
[],fun y=>(valW (.agg T_) y,[],[])⟩
def V_z (w_F:A0_×Int×Int→Option (M_)) (N:Nat) (x:A0_×Int×Int×List UInt8):Option (M_):=
 obind (w_F (x.1,(7:Int),x.2.1)) fun b=>some (b.1,b.2.1,b.2.2.1,b.2.2.2.1,b.2.2.2.2.1,b.2.2.2.2.2.1,b.2.2.2.2.2.2.1,x.2.2.1,b.2.2.2.2.2.2.2.2.1,x.2.2.2)
theorem q_z:∀w_F N x,u_z.F L0 P0 (orcOf [u_F.con w_F]) N x=V_z w_F N x:=by intros;kernel_rfl
def W_z (N:Nat):=V_z (W_F N) N
theorem con_z_ok (N:Nat):(u_z.con (W_z N)).ok P0:=Uf.ok mixed (q_z (W_F N) N) ⟨con_F_ok N,trivial⟩ Tryz.func81 (by kernel_rfl) fun x y=>by kernel_rfl
def u_A:Uf:=⟨82,18,Tryz.f82,[.val (.agg T0_),.val (.int .i64),.val (.int .i64),.val (.int .i64)],[],
⟨[(8,.ptr 600008 0)],[(600008,.box 46 (.val T_))]⟩,[],
[],
[],fun y=>(valW (.agg T_) y,[],[])⟩
def V_A (w_F:A0_×Int×Int→Option (M_)) (N:Nat) (x:A0_×Int×Int×Int):Option (M_):=
 obind (w_F (x.1,(9:Int),x.2.1)) fun b=>some (b.1,b.2.1,b.2.2.1,b.2.2.2.1,b.2.2.2.2.1,b.2.2.2.2.2.1,b.2.2.2.2.2.2.1,x.2.2.1,x.2.2.2,b.2.2.2.2.2.2.2.2.2)
theorem q_A:∀w_F N x,u_A.F L0 P0 (orcOf [u_F.con w_F]) N x=V_A w_F N x:=by intros;kernel_rfl
def W_A (N:Nat):=V_A (W_F N) N
theorem con_A_ok (N:Nat):(u_A.con (W_A N)).ok P0:=Uf.ok mixed (q_A (W_F N) N) ⟨con_F_ok N,trivial⟩ Tryz.func82 (by kernel_rfl) fun x y=>by kernel_rfl
def u_y:Uf:=⟨41,55,Tryz.f41,[.val (.agg T0_),.val (.agg T2_)],[],
⟨[(4,.val (.list (.agg T_)))],[]⟩,[],
[(6,.loop [13,21] ⟨[(2,.ptr 600002 0),(5,.acc 700005),(7,.ptr 600007 0),(23,.val (.int .i64))],[(600002,.box 39 (.val T0_)),(700005,.nrow 46 (.agg T_) true true),(600007,.box 55 (.val (.pair (.int .i64) (.pair (.int .i64) (.pair (.int .i64) (.pair .str (.int .i64)))))))]⟩ [(.exit 2,⟨[(2,.ptr 600002 0),(5,.acc 700005)],[(600002,.box 39 (.val T0_)),(700005,.nrow 46 (.agg T_) true true)]⟩)]),
(3,.loop [13] ⟨[(2,.ptr 600002 0),(5,.acc 700005),(15,.val (.int .i64))],[(600002,.box 39 (.val T0_)),(700005,.nrow 46 (.agg T_) true true)]⟩ [(.exit 0,⟨[(5,.val (.list (.agg T_)))],[]⟩)])],
[],fun y=>(valW (.list (.agg T_)) y,[],[])⟩
def V_y (w_aw:A1_×A1_→Option (List A4_)) (w_z:A0_×Int×Int×List UInt8→Option (M_)) (w_A:A0_×Int×Int×Int→Option (M_)) (N:Nat) (x:A0_×A1_):Option (List (M_)):=
 obind (w_aw (x.1.2.2.2.2.1,x.2)) fun b=>obind (loopN N (fun(v:Int×A0_×List A3_)=>cnd (decide (v.1 <
 (↑(List.length b):Int))) (cnd (decide ((0:Int)≤v.1)&&decide (v.1<(↑(List.length b):Int))) (obind (loopN N (fun(v_1:Int×A0_×List A3_×A4_)=>cnd (decide (v_1.1<(↑(List.length v.2.1.2.2.2.1.2.2.2.2.2.2.2.2.2.2.2.2):
 Int))) (cnd (decide ((0:Int)≤v_1.1)&&decide (v_1.1<(↑(List.length v.2.1.2.2.2.1.2.2.2.2.2.2.2.2.2.2.2.2):Int))) (cnd (decide (v_1.2.2.2.1=
 (1:Int))) (obind (w_z (v_1.2.1,Prod.fst (List.getD v.2.1.2.2.2.1.2.2.2.2.2.2.2.2.2.2.2.2 (Int.toNat v_1.1) ((0:Int),(0:Int),
 (0:Int))),v_1.2.2.2.2.1,v_1.2.2.2.2.2.2.1)) fun b=>cnd (decide ((List.length v_1.2.2.1+List.length [b])*(104:Nat)≤(140737488355328:Nat)))
 (some (Sum.inl (wr .i64 (v_1.1+(1:Int)),v_1.2.1,v_1.2.2.1++[b],v_1.2.2.2))) none) (obind (w_A (v_1.2.1,Prod.fst (List.getD
 v.2.1.2.2.2.1.2.2.2.2.2.2.2.2.2.2.2.2 (Int.toNat v_1.1) ((0:Int),(0:Int),(0:Int))),v_1.2.2.2.2.1,v_1.2.2.2.2.2.1)) fun b=>cnd (decide
 ((List.length v_1.2.2.1+List.length [b])*(104:Nat)≤(140737488355328:Nat))) (some (Sum.inl (wr .i64 (v_1.1+(1:Int)),v_1.2.1,v_1.2.2.1++
 [b],v_1.2.2.2))) none)) none) (some (Sum.inr (v_1.2.1,v_1.2.2.1)))) ((0:Int),v.2.1,v.2.2,Prod.fst (List.getD b (Int.toNat v.1) ((0:Int),
 (0:Int),(0:Int),[],(0:Int))),Prod.fst (Prod.snd (List.getD b (Int.toNat v.1) ((0:Int),(0:Int),(0:Int),[],(0:Int)))),Prod.fst (Prod.snd
 (Prod.snd (List.getD b (Int.toNat v.1) ((0:Int),(0:Int),(0:Int),[],(0:Int))))),Prod.fst (Prod.snd (Prod.snd (Prod.snd (List.getD b (Int.toNat
 v.1) ((0:Int),(0:Int),(0:Int),[],(0:Int)))))),Prod.snd (Prod.snd (Prod.snd (Prod.snd (List.getD b (Int.toNat v.1) ((0:Int),(0:Int),(0:Int),
 [],(0:Int)))))))) fun(b:A0_×List A3_)=>some (Sum.inl (wr .i64 (v.1+(1:Int)),b))) none) (some (Sum.inr v.2.2)))
 ((0:Int),x.1,[])) fun(b:List A3_)=>some b
theorem q_y:∀w_aw w_z w_A N x,u_y.F L0 P0 (orcOf [u_aw.con w_aw,u_z.con w_z,u_A.con w_A]) N x=V_y w_aw w_z w_A N x:=by intros;kernel_rfl
def W_y (N:Nat):=V_y (W_aw N) (W_z N) (W_A N) N
theorem con_y_ok (N:Nat):(u_y.con (W_y N)).ok P0:=Uf.ok mixed (q_y (W_aw N) (W_z N) (W_A N) N) ⟨con_aw_ok N,con_z_ok N,con_A_ok N,trivial⟩ Tryz.func41 (by kernel_rfl) fun x y=>by kernel_rfl
def u_aR:Uf:=⟨22,39,Tryz.f22,[.val (.agg T0_),.val .str],[],
⟨[(4,.ptr 600004 0),(5,.val (.list (.agg T_))),(6,.val .bool)],[(600004,.box 39 (.val T0_))]⟩,[],
[],
[],fun y=>(.tup [valW (.agg T0_) y.2.2,valW (.list (.agg T_)) y.1,valW .bool y.2.1],[],[])⟩
def V_aR (w_j:A0_→Option A0_) (w_aS:A1_×List UInt8→Option (Bool×A1_)) (w_y:A0_×A1_→Option (List (M_))) (N:Nat) (x:A0_×List UInt8):Option (List (M_)×Bool×A0_):=
 obind (w_j x.1) fun b=>cnd (!x.1.1) (some ([],false,b)) (cnd (decide (x.1.2.2.2.1.1≠(1:Int))) (some ([],false,b)) (obind (w_aS (x.1.2.2.2.2.1,x.2)) fun b_1=>cnd (!b_1.1) (some ([],false,b)) (obind (w_y ((b.1,b.2.1,b.2.2.1,b.2.2.2.1,b_1.2,
 b.2.2.2.2.2),x.1.2.2.2.2.1)) fun b_2=>some (b_2,true,b.1,b.2.1,b.2.2.1,b.2.2.2.1,b_1.2,b.2.2.2.2.2))))
theorem q_aR:∀w_j w_aS w_y N x,u_aR.F L0 P0 (orcOf [u_j.con w_j,u_aS.con w_aS,u_y.con w_y]) N x=V_aR w_j w_aS w_y N x:=by intros;kernel_rfl
def W_aR (N:Nat):=V_aR (W_j N) (W_aS N) (W_y N) N
theorem con_aR_ok (N:Nat):(u_aR.con (W_aR N)).ok P0:=Uf.ok mixed (q_aR (W_j N) (W_aS N) (W_y N) N) ⟨con_j_ok N,con_aS_ok N,con_y_ok N,trivial⟩ Tryz.func22 (by kernel_rfl) fun x y=>by kernel_rfl
def u_G:Uf:=⟨193,47,Tryz.f193,[.val (.list (.int .u8))],[],
⟨[(2,.val (.alt 243 T6_ (.alt1 247 (.agg .unit))))],[]⟩,[],
[(3,.loop [7] ⟨[(3,.val (.int .i64)),(4,.val (.int .i64)),(9,.val (.int .i64))],[]⟩ [(.exit 0,⟨[],[]⟩),(.ret,⟨[(2,.val (.alt 243 T6_ (.alt1 247 (.agg .unit))))],[]⟩)])],
[(1000007,.reg [(6,[7],⟨[(28,.val .bool)],[]⟩)])],fun y=>(valW (.alt 243 T6_ (.alt1 247 (.agg .unit))) y,[],[])⟩
def V_G (N:Nat) (x:List Int):Option ((Int×Int)⊕Unit):=
 obind (loopN N (fun(v:Int×Int×Int)=>cnd (decide (v.2.2<(↑(List.length x):Int))) (cnd (decide ((0:Int)≤v.2.2)&&decide (v.2.2 <
 (↑(List.length x):Int))) (obind (cnd (decide (v.2.2=(5:Int))) (some true) (some (decide ((1073741824:Int)<wr .i64 (v.1+wr .i64 (wr .i64
 (Int.tmod (List.getD x (Int.toNat v.2.2) (0:Int)) (128:Int))*v.2.1)))))) fun(b:Bool)=>cnd b (some (Sum.inr (Sum.inl ()))) (cnd (decide
 (List.getD x (Int.toNat v.2.2) (0:Int)=(0:Int))) (cnd (decide ((0:Int)<v.2.2)) (some (Sum.inr (Sum.inl ()))) (cnd (decide (List.getD x
 (Int.toNat v.2.2) (0:Int)<(128:Int))) (some (Sum.inr (Sum.inr (Sum.inl (wr .i64 (v.1+wr .i64 (wr .i64 (Int.tmod (List.getD x (Int.toNat v.2.2)
 (0:Int)) (128:Int))*v.2.1)),wr .i64 (v.2.2+(1:Int))))))) (some (Sum.inl (wr .i64 (v.1+wr .i64 (wr .i64 (Int.tmod (List.getD x (Int.toNat
 v.2.2) (0:Int)) (128:Int))*v.2.1)),wr .i64 (v.2.1*(128:Int)),wr .i64 (v.2.2+(1:Int))))))) (cnd (decide (List.getD x (Int.toNat v.2.2)
 (0:Int)<(128:Int))) (some (Sum.inr (Sum.inr (Sum.inl (wr .i64 (v.1+wr .i64 (wr .i64 (Int.tmod (List.getD x (Int.toNat v.2.2) (0:Int)) (128:Int))
 * v.2.1)),wr .i64 (v.2.2+(1:Int))))))) (some (Sum.inl (wr .i64 (v.1+wr .i64 (wr .i64 (Int.tmod (List.getD x (Int.toNat v.2.2) (0:Int))
 (128:Int))*v.2.1)),wr .i64 (v.2.1*(128:Int)),wr .i64 (v.2.2+(1:Int)))))))) none) (some (Sum.inr (Sum.inl ())))) ((0:Int),(1:Int),(0:Int)))
 fun(b:PUnit⊕Int×Int⊕PUnit)=>selim (fun(b:PUnit)=>some (Sum.inr ())) (fun(c:Int×Int⊕PUnit)=>some c) b
theorem q_G:∀N x,u_G.F L0 P0 (orcOf []) N x=V_G N x:=by intros;kernel_rfl
def W_G (N:Nat):=V_G N
theorem con_G_ok (N:Nat):(u_G.con (W_G N)).ok P0:=Uf.ok mixed (q_G N) trivial Tryz.func193 (by kernel_rfl) fun x y=>by kernel_rfl
def u_aC:Uf:=⟨179,17,Tryz.f179,[.val (.list (.int .u8))],[],
⟨[(2,.val (.int .i64)),(3,.val (.int .i64)),(4,.val .bool)],[]⟩,[],
[],
[],fun y=>(.tup [valW (.int .i64) y.1,valW (.int .i64) y.2.1,valW .bool y.2.2],[],[])⟩
def V_aC (w_G:List Int→Option ((Int×Int)⊕Unit)) (N:Nat) (x:List Int):Option (Int×Int×Bool):=
 obind (w_G x) fun b=>selim (fun(b:Int×Int)=>some (b.1,b.2,true)) (fun(c:PUnit)=>some ((0:Int),(0:Int),false)) b
theorem q_aC:∀w_G N x,u_aC.F L0 P0 (orcOf [u_G.con w_G]) N x=V_aC w_G N x:=by intros;kernel_rfl
def W_aC (N:Nat):=V_aC (W_G N) N
theorem con_aC_ok (N:Nat):(u_aC.con (W_aC N)).ok P0:=Uf.ok mixed (q_aC (W_G N) N) ⟨con_G_ok N,trivial⟩ Tryz.func179 (by kernel_rfl) fun x y=>by kernel_rfl
def u_x:Uf:=⟨164,45,Tryz.f164,[.ptr 0 0],[.box 213 (.pair (.list (.int .u8)) (.pair (.int .i64) (.alt 182 (.agg (.int .i64)) .inil)))],
⟨[(0,.ptr 1000000 0),(2,.val (.int .i64))],[(1000000,.box 213 (.val (.pair (.list (.int .u8)) (.pair (.int .i64) (.alt 182 (.agg (.int .i64)) .inil)))))]⟩,[true],
[],
[(6,.cut [] [(.normal,⟨[(0,.ptr 1000000 0)],[(1000000,.box 213 (.val (.pair (.list (.int .u8)) (.pair (.int .i64) (.alt 182 (.agg (.int .i64)) .inil)))))]⟩)])],fun y=>(valW (.int .i64) y.1,[.box 213 (cellsW (.pair (.list (.int .u8)) (.pair (.int .i64) (.alt 182 (.agg (.int .i64)) .inil))) y.2)],[])⟩
def V_x (w_aC:List Int→Option (Int×Int×Bool)) (N:Nat) (x:List Int×(Int×(Int⊕Unit))):Option (Int×(List Int×(Int×(Int⊕Unit)))):=
 selim (fun(b:Int)=>some ((0:Int),x)) (fun(c:PUnit)=>cnd (decide ((0:Int)≤x.2.1)&&decide (x.2.1≤(↑(List.length x.1):Int))) (obind
 (w_aC (List.drop (Int.toNat x.2.1) (List.take (List.length x.1) x.1))) fun b=>obind (cnd (!b.2.2) (some (x.1,x.2.1,Sum.inl x.2.1))
 (some x)) fun(b_1:List Int×Int×(Int⊕PUnit))=>some (b.1,b_1.1,wr .i64 (b_1.2.1+b.2.1),b_1.2.2)) none) x.2.2
theorem q_x:∀w_aC N x,u_x.F L0 P0 (orcOf [u_aC.con w_aC]) N x=V_x w_aC N x:=by intros;kernel_rfl
def W_x (N:Nat):=V_x (W_aC N) N
theorem con_x_ok (N:Nat):(u_x.con (W_x N)).ok P0:=Uf.ok mixed (q_x (W_aC N) N) ⟨con_aC_ok N,trivial⟩ Tryz.func164 (by kernel_rfl) fun x y=>by kernel_rfl
def u_as:Uf:=⟨180,39,Tryz.f180,[.val (.list (.int .u8))],[],
⟨[(2,.val .str),(3,.val (.int .i64)),(4,.val .bool)],[]⟩,[],
[],
[],fun y=>(.tup [valW .str y.1,valW (.int .i64) y.2.1,valW .bool y.2.2],[],[])⟩
def V_as (w_G:List Int→Option ((Int×Int)⊕Unit)) (N:Nat) (x:List Int):Option (List UInt8×Int×Bool):=
 obind (w_G x) fun b=>selim (fun(b:Int×Int)=>cnd (decide (wr .i64 ((↑(List.length x):Int)-b.2)<b.1)) (some ([],(0:Int),
 false)) (cnd (decide ((0:Int)≤b.2)&&decide (b.2≤wr .i64 (b.2+b.1))&&decide (wr .i64 (b.2+b.1)≤(↑(List.length x):Int))) (cnd
 (List.all (List.drop (Int.toNat b.2) (List.take (Int.toNat (wr .i64 (b.2+b.1))) x)) fun(n:Int)=>decide ((0:Int)≤n)&&decide (n <
 (256:Int))) (some (bytesI (List.drop (Int.toNat b.2) (List.take (Int.toNat (wr .i64 (b.2+b.1))) x)),wr .i64 (b.2+b.1),true)) none) none)) (fun
 (c:PUnit)=>some ([],(0:Int),false)) b
theorem q_as:∀w_G N x,u_as.F L0 P0 (orcOf [u_G.con w_G]) N x=V_as w_G N x:=by intros;kernel_rfl
def W_as (N:Nat):=V_as (W_G N) N
theorem con_as_ok (N:Nat):(u_as.con (W_as N)).ok P0:=Uf.ok mixed (q_as (W_G N) N) ⟨con_G_ok N,trivial⟩ Tryz.func180 (by kernel_rfl) fun x y=>by kernel_rfl
def u_ar:Uf:=⟨165,45,Tryz.f165,[.ptr 0 0],[.box 213 (.pair (.list (.int .u8)) (.pair (.int .i64) (.alt 182 (.agg (.int .i64)) .inil)))],
⟨[(0,.ptr 1000000 0),(2,.val .str)],[(1000000,.box 213 (.val (.pair (.list (.int .u8)) (.pair (.int .i64) (.alt 182 (.agg (.int .i64)) .inil)))))]⟩,[true],
[],
[(6,.cut [] [(.normal,⟨[(0,.ptr 1000000 0)],[(1000000,.box 213 (.val (.pair (.list (.int .u8)) (.pair (.int .i64) (.alt 182 (.agg (.int .i64)) .inil)))))]⟩)])],fun y=>(valW .str y.1,[.box 213 (cellsW (.pair (.list (.int .u8)) (.pair (.int .i64) (.alt 182 (.agg (.int .i64)) .inil))) y.2)],[])⟩
def V_ar (w_as:List Int→Option (List UInt8×Int×Bool)) (N:Nat) (x:List Int×(Int×(Int⊕Unit))):Option (List UInt8×(List Int×(Int×(Int⊕Unit)))):=
 selim (fun(b:Int)=>some ([],x)) (fun(c:PUnit)=>cnd (decide ((0:Int)≤x.2.1)&&decide (x.2.1≤(↑(List.length x.1):Int))) (obind
 (w_as (List.drop (Int.toNat x.2.1) (List.take (List.length x.1) x.1))) fun b=>obind (cnd (!b.2.2) (some (x.1,x.2.1,Sum.inl x.2.1))
 (some x)) fun(b_1:List Int×Int×(Int⊕PUnit))=>some (b.1,b_1.1,wr .i64 (b_1.2.1+b.2.1),b_1.2.2)) none) x.2.2
theorem q_ar:∀w_as N x,u_ar.F L0 P0 (orcOf [u_as.con w_as]) N x=V_ar w_as N x:=by intros;kernel_rfl
def W_ar (N:Nat):=V_ar (W_as N) N
theorem con_ar_ok (N:Nat):(u_ar.con (W_ar N)).ok P0:=Uf.ok mixed (q_ar (W_as N) N) ⟨con_as_ok N,trivial⟩ Tryz.func165 (by kernel_rfl) fun x y=>by kernel_rfl
def u_aU:Uf:=⟨131,46,Tryz.f131,[.val (.list (.int .u8))],[],
⟨[(2,.ptr 600002 0),(3,.val (.alt 182 (.agg (.int .i64)) .inil))],[(600002,.box 46 (.val T_))]⟩,[],
[(6,.loop [] ⟨[(2,.ptr 600002 0),(4,.ptr 600004 0),(5,.ptr 600005 0),(6,.val (.int .i64))],[(600002,.box 46 (.pair (.val (.int .i64)) (.pair (.val (.int .i64)) (.pair (.val (.int .i64)) (.pair (.val (.int .i64)) (.pair (.val (.int .i64)) (.pair (.val (.int .i64)) (.pair (.acc 607002) (.pair (.val (.int .i64)) (.pair (.val (.int .i64)) (.val .str))))))))))),(607002,.nrow 3 (.int .i64) true true),(600004,.box 213 (.val (.pair (.list (.int .u8)) (.pair (.int .i64) (.alt 182 (.agg (.int .i64)) .inil))))),(600005,.box 46 (.pair (.val (.int .i64)) (.pair (.val (.int .i64)) (.pair (.val (.int .i64)) (.pair (.val (.int .i64)) (.pair (.val (.int .i64)) (.pair (.val (.int .i64)) (.pair (.acc 607005) (.pair (.val (.int .i64)) (.pair (.val (.int .i64)) (.val .str))))))))))),(607005,.nrow 3 (.int .i64) true true)]⟩ [(.exit 0,⟨[(2,.ptr 600002 0),(4,.ptr 600004 0),(5,.ptr 600005 0)],[(600002,.box 46 (.pair (.val (.int .i64)) (.pair (.val (.int .i64)) (.pair (.val (.int .i64)) (.pair (.val (.int .i64)) (.pair (.val (.int .i64)) (.pair (.val (.int .i64)) (.pair (.acc 607002) (.pair (.val (.int .i64)) (.pair (.val (.int .i64)) (.val .str))))))))))),(607002,.nrow 3 (.int .i64) true true),(600004,.box 213 (.val (.pair (.list (.int .u8)) (.pair (.int .i64) (.alt 182 (.agg (.int .i64)) .inil))))),(600005,.box 46 (.pair (.val (.int .i64)) (.pair (.val (.int .i64)) (.pair (.val (.int .i64)) (.pair (.val (.int .i64)) (.pair (.val (.int .i64)) (.pair (.val (.int .i64)) (.pair (.acc 607005) (.pair (.val (.int .i64)) (.pair (.val (.int .i64)) (.val .str))))))))))),(607005,.nrow 3 (.int .i64) true true)]⟩)])],
[],fun y=>(.tup [valW (.agg T_) y.2,valW (.alt 182 (.agg (.int .i64)) .inil) y.1],[],[])⟩
def V_aU (w_x:List Int×(Int×(Int⊕Unit))→Option (Int×(List Int×(Int×(Int⊕Unit))))) (w_ar:List Int×(Int×(Int⊕Unit))→Option (List UInt8×(List Int×(Int×(Int⊕Unit))))) (N:Nat) (x:List Int):Option ((Int⊕Unit)×M_):=
 obind (w_x (x,(0:Int),Sum.inr ())) fun b=>obind (w_x b.2) fun b_1=>obind (w_x b_1.2) fun
 b_2=>obind (w_x b_2.2) fun b_3=>obind (w_x b_3.2) fun b_4=>obind (w_x b_4.2) fun b_5=>
 obind (w_x b_5.2) fun b_6=>obind (loopN N (fun(v:Int×Int×Int×Int×Int×Int×Int×Int×Int×List UInt8×List Int×(List Int×Int×(Int⊕PUnit))×Int×Int×Int×Int×Int×Int×Int×Int×List UInt8×List Int)=>cnd (decide ((0:Int)<v.1)) (selim
 (fun(b:Int)=>some (Sum.inr v.2)) (fun(c:PUnit)=>obind (w_x v.2.2.2.2.2.2.2.2.2.2.2.1) fun b=>cnd (decide ((List.length
 v.2.2.2.2.2.2.2.2.2.2.2.2.2.2.2.2.2.2.2.2.2+List.length [b.1])*(8:Nat)≤(140737488355328:Nat))) (some (Sum.inl (wr .i64 (v.1-(1:Int)),v.2.1,
 v.2.2.1,v.2.2.2.1,v.2.2.2.2.1,v.2.2.2.2.2.1,v.2.2.2.2.2.2.1,v.2.2.2.2.2.2.2.1,v.2.2.2.2.2.2.2.2.1,v.2.2.2.2.2.2.2.2.2.1,
 v.2.2.2.2.2.2.2.2.2.2.1,b.2,v.2.2.2.2.2.2.2.2.2.2.2.2.1,v.2.2.2.2.2.2.2.2.2.2.2.2.2.1,v.2.2.2.2.2.2.2.2.2.2.2.2.2.2.1,
 v.2.2.2.2.2.2.2.2.2.2.2.2.2.2.2.1,v.2.2.2.2.2.2.2.2.2.2.2.2.2.2.2.2.1,v.2.2.2.2.2.2.2.2.2.2.2.2.2.2.2.2.2.1,
 v.2.2.2.2.2.2.2.2.2.2.2.2.2.2.2.2.2.2.1,v.2.2.2.2.2.2.2.2.2.2.2.2.2.2.2.2.2.2.2.1,v.2.2.2.2.2.2.2.2.2.2.2.2.2.2.2.2.2.2.2.2.1,
 v.2.2.2.2.2.2.2.2.2.2.2.2.2.2.2.2.2.2.2.2.2++[b.1]))) none) v.2.2.2.2.2.2.2.2.2.2.2.1.2.2) (some (Sum.inr v.2))) (b_6.1,(0:Int),(0:Int),
 (0:Int),(0:Int),(0:Int),(0:Int),(0:Int),(0:Int),[],[],b_6.2,b.1,b_1.1,b_2.1,b_3.1,b_4.1,b_5.1,(0:Int),(0:Int),[],[])) fun(b:Int×Int×Int×Int×Int×Int×Int×Int×List UInt8×List Int×(List Int×Int×(Int⊕PUnit))×Int×Int×Int×Int×Int×Int×Int×Int×List UInt8×List Int)=>obind (w_x b.2.2.2.2.2.2.2.2.2.2.1) fun b_7=>obind (w_x b_7.2) fun b_8=>obind
 (w_ar b_8.2) fun b_9=>some (b_9.2.2.2,b.2.2.2.2.2.2.2.2.2.2.2.1,b.2.2.2.2.2.2.2.2.2.2.2.2.1,b.2.2.2.2.2.2.2.2.2.2.2.2.2.1,
 b.2.2.2.2.2.2.2.2.2.2.2.2.2.2.1,b.2.2.2.2.2.2.2.2.2.2.2.2.2.2.2.1,b.2.2.2.2.2.2.2.2.2.2.2.2.2.2.2.2.1,b.2.2.2.2.2.2.2.2.2.2.2.2.2.2.2.2.2.2.2.2,
 b_7.1,b_8.1,b_9.1)
theorem q_aU:∀w_x w_ar N x,u_aU.F L0 P0 (orcOf [u_x.con w_x,u_ar.con w_ar]) N x=V_aU w_x w_ar N x:=by intros;kernel_rfl
def W_aU (N:Nat):=V_aU (W_x N) (W_ar N) N
theorem con_aU_ok (N:Nat):(u_aU.con (W_aU N)).ok P0:=Uf.ok mixed (q_aU (W_x N) (W_ar N) N) ⟨con_x_ok N,con_ar_ok N,trivial⟩ Tryz.func131 (by kernel_rfl) fun x y=>by kernel_rfl
def u_p:Uf:=⟨181,15,Tryz.f181,[.val (.int .i64),.val (.int .i64),.val (.int .i64)],[],
⟨[(6,.val .bool)],[]⟩,[],
[],
[],fun y=>(valW .bool y,[],[])⟩
def V_p (N:Nat) (x:Int×Int×Int):Option (Bool):=
 cnd (decide (x.2.1≤x.1)) (some (decide (x.1≤x.2.2))) (some false)
theorem q_p:∀N x,u_p.F L0 P0 (orcOf []) N x=V_p N x:=by intros;kernel_rfl
def W_p (N:Nat):=V_p N
theorem con_p_ok (N:Nat):(u_p.con (W_p N)).ok P0:=Uf.ok mixed (q_p N) trivial Tryz.func181 (by kernel_rfl) fun x y=>by kernel_rfl
def u_aY:Uf:=⟨183,61,Tryz.f183,[.val (.agg T_)],[],
⟨[(2,.ptr 600002 0)],[(600002,.box 46 (.val T_))]⟩,[],
[],
[(11,.cut [] [(.normal,⟨[(1,.ptr 600001 0),(2,.ptr 600002 0),(3,.ptr 600003 0),(51,.val .bool)],[(600001,.box 46 (.val T_)),(600002,.box 46 (.val T_)),(600003,.box 46 (.val T_))]⟩)])],fun y=>(valW (.agg T_) y,[],[])⟩
def V_aY (N:Nat) (x:M_):Option (M_):=
 cnd (decide (x.1=(2:Int))) (some (x.1,x.2.1,x.2.2.1,x.2.2.2.1,x.2.2.2.2.1,x.2.2.2.2.2.1,x.2.2.2.2.2.2.1,x.2.2.2.2.2.2.2.1,(0:Int),[])) (cnd
 (decide (x.1=(5:Int))) (some (x.1,x.2.1,x.2.2.1,x.2.2.2.1,x.2.2.2.2.1,x.2.2.2.2.2.1,x.2.2.2.2.2.2.1,(0:Int),x.2.2.2.2.2.2.2.2.1,[])) (cnd
 (decide (x.1=(7:Int))) (some (x.1,x.2.1,x.2.2.1,x.2.2.2.1,(0:Int),(0:Int),[],x.2.2.2.2.2.2.2.1,(0:Int),x.2.2.2.2.2.2.2.2.2)) (obind (cnd
 (decide (x.1=(8:Int))) (some (decide (x.1=(8:Int)),x,((0:Int),(0:Int),(0:Int),(0:Int),(0:Int),(0:Int),[],(0:Int),(0:Int),[]),x.1,
 x.2.1,x.2.2.1,x.2.2.2.1,(0:Int),(0:Int),[],(0:Int),(0:Int),[])) (some (decide (x.1=(9:Int)),x,((0:Int),(0:Int),(0:Int),(0:Int),
 (0:Int),(0:Int),[],(0:Int),(0:Int),[]),x.1,x.2.1,x.2.2.1,x.2.2.2.1,(0:Int),(0:Int),[],(0:Int),(0:Int),[]))) fun(b:Bool×A3_×A3_×A3_)=>cnd b.1 (some (b.2.2.2.1,b.2.2.2.2.1,b.2.2.2.2.2.1,b.2.2.2.2.2.2.1,
 b.2.2.2.2.2.2.2.1,b.2.2.2.2.2.2.2.2.1,b.2.2.2.2.2.2.2.2.2.1,b.2.1.2.2.2.2.2.2.2.1,b.2.1.2.2.2.2.2.2.2.2.1,b.2.2.2.2.2.2.2.2.2.2.2.2)) (some
 b.2.2.2))))
theorem q_aY:∀N x,u_aY.F L0 P0 (orcOf []) N x=V_aY N x:=by intros;kernel_rfl
def W_aY (N:Nat):=V_aY N
theorem con_aY_ok (N:Nat):(u_aY.con (W_aY N)).ok P0:=Uf.ok mixed (q_aY N) trivial Tryz.func183 (by kernel_rfl) fun x y=>by kernel_rfl
def u_aq:Uf:=⟨194,26,Tryz.f194,[.val (.list (.int .i64)),.val (.list (.int .i64))],[],
⟨[(4,.val .bool)],[]⟩,[],
[(4,.loop [] ⟨[(13,.val (.int .i64))],[]⟩ [(.exit 0,⟨[],[]⟩),(.ret,⟨[(4,.val .bool)],[]⟩)])],
[],fun y=>(valW .bool y,[],[])⟩
def V_aq (N:Nat) (x:List Int×List Int):Option (Bool):=
 cnd (decide ((↑(List.length x.1):Int)≠(↑(List.length x.2):Int))) (some false) (obind (loopN N (fun(v:Int)=>cnd (decide (v<(↑(List.length
 x.1):Int))) (cnd (decide ((0:Int)≤v)&&decide (v<(↑(List.length x.1):Int))) (cnd (decide ((0:Int)≤v)&&decide (v<(↑(List.length x.2):
 Int))) (cnd (decide (List.getD x.1 (Int.toNat v) (0:Int)≠List.getD x.2 (Int.toNat v) (0:Int))) (some (Sum.inr (Sum.inr false))) (some (Sum.inl (wr
 .i64 (v+(1:Int)))))) none) none) (some (Sum.inr (Sum.inl ())))) (Int.ofNat (0:Nat))) fun(b:PUnit⊕Bool)=>selim (fun(b:PUnit)=>some
 true) (fun(c:Bool)=>some c) b)
theorem q_aq:∀N x,u_aq.F L0 P0 (orcOf []) N x=V_aq N x:=by intros;kernel_rfl
def W_aq (N:Nat):=V_aq N
theorem con_aq_ok (N:Nat):(u_aq.con (W_aq N)).ok P0:=Uf.ok mixed (q_aq N) trivial Tryz.func194 (by kernel_rfl) fun x y=>by kernel_rfl
def u_aM:Uf:=⟨182,73,Tryz.f182,[.val (.agg T_),.val (.agg T_)],[],
⟨[(4,.val .bool)],[]⟩,[],
[],
[(1000001,.reg [(12,[],⟨[(2,.ptr 600002 0),(3,.ptr 600003 0),(16,.val .bool)],[(600002,.box 46 (.val T_)),(600003,.box 46 (.val T_))]⟩),(7,[],⟨[(2,.ptr 600002 0),(3,.ptr 600003 0),(23,.val .bool)],[(600002,.box 46 (.val T_)),(600003,.box 46 (.val T_))]⟩),(7,[],⟨[(2,.ptr 600002 0),(3,.ptr 600003 0),(30,.val .bool)],[(600002,.box 46 (.val T_)),(600003,.box 46 (.val T_))]⟩),(7,[],⟨[(2,.ptr 600002 0),(3,.ptr 600003 0),(37,.val .bool)],[(600002,.box 46 (.val T_)),(600003,.box 46 (.val T_))]⟩),(7,[],⟨[(2,.ptr 600002 0),(3,.ptr 600003 0),(44,.val .bool)],[(600002,.box 46 (.val T_)),(600003,.box 46 (.val T_))]⟩),(7,[],⟨[(2,.ptr 600002 0),(3,.ptr 600003 0),(51,.val .bool)],[(600002,.box 46 (.val T_)),(600003,.box 46 (.val T_))]⟩),(7,[],⟨[(2,.ptr 600002 0),(3,.ptr 600003 0),(58,.val .bool)],[(600002,.box 46 (.val T_)),(600003,.box 46 (.val T_))]⟩),(7,[],⟨[(2,.ptr 600002 0),(3,.ptr 600003 0),(65,.val .bool)],[(600002,.box 46 (.val T_)),(600003,.box 46 (.val T_))]⟩)])],fun y=>(valW .bool y,[],[])⟩
def V_aM (w_aq:List Int×List Int→Option (Bool)) (N:Nat) (x:(M_)×M_):Option (Bool):=
 obind (cnd (decide (x.1.1=x.2.1)) (some (decide (x.1.2.1=x.2.2.1),x)) (some (false,x))) fun(b:Bool×A3_×A3_)=>obind (cnd b.1 (some (decide
 (b.2.1.2.2.1=b.2.2.2.2.1),b.2)) (some (false,b.2))) fun(b:Bool×A3_×A3_)=>obind (cnd b.1 (some (decide (b.2.1.2.2.2.1=b.2.2.2.2.2.1),b.2)) (some
 (false,b.2))) fun(b:Bool×A3_×A3_)=>obind (cnd b.1 (some (decide (b.2.1.2.2.2.2.1=b.2.2.2.2.2.2.1),b.2)) (some (false,b.2))) fun(b:Bool×A3_×A3_)=>obind
 (cnd b.1 (some (decide (b.2.1.2.2.2.2.2.1=b.2.2.2.2.2.2.2.1),b.2)) (some (false,b.2))) fun(b:Bool×A3_×A3_)=>obind (cnd b.1 (obind (w_aq (b.2.1.2.2.2.2.2.2.1,b.2.2.2.2.2.2.2.2.1)) fun b_1=>some (b_1,b.2)) (some (false,b.2))) fun(b:Bool×A3_×A3_)=>obind (cnd b.1 (some (decide
 (b.2.1.2.2.2.2.2.2.2.1=b.2.2.2.2.2.2.2.2.2.1),b.2)) (some (false,b.2))) fun(b:Bool×A3_×A3_)=>obind (cnd b.1 (some (decide (b.2.1.2.2.2.2.2.2.2.2.1
 = b.2.2.2.2.2.2.2.2.2.2.1),b.2)) (some (false,b.2))) fun(b:Bool×A3_×A3_)=>cnd b.1 (some (b.2.1.2.2.2.2.2.2.2.2.2==b.2.2.2.2.2.2.2.2.2.2.2)) (some
 false)
theorem q_aM:∀w_aq N x,u_aM.F L0 P0 (orcOf [u_aq.con w_aq]) N x=V_aM w_aq N x:=by intros;kernel_rfl
def W_aM (N:Nat):=V_aM (W_aq N) N
theorem con_aM_ok (N:Nat):(u_aM.con (W_aM N)).ok P0:=Uf.ok mixed (q_aM (W_aq N) N) ⟨con_aq_ok N,trivial⟩ Tryz.func182 (by kernel_rfl) fun x y=>by kernel_rfl
def u_ap:Uf:=⟨188,19,Tryz.f188,[.val (.list (.int .i64)),.val (.int .i64)],[],
⟨[(4,.val (.int .i64))],[]⟩,[],
[(2,.loop [] ⟨[(8,.val (.int .i64))],[]⟩ [(.exit 0,⟨[],[]⟩),(.ret,⟨[(4,.val (.int .i64))],[]⟩)])],
[],fun y=>(valW (.int .i64) y,[],[])⟩
def V_ap (N:Nat) (x:List Int×Int):Option (Int):=
 obind (loopN N (fun(v:Int)=>cnd (decide (v<(↑(List.length x.1):Int))) (cnd (decide ((0:Int)≤v)&&decide (v<(↑(List.length x.1):Int)))
 (cnd (decide (x.2=List.getD x.1 (Int.toNat v) (0:Int))) (some (Sum.inr (Sum.inr v))) (some (Sum.inl (wr .i64 (v+(1:Int)))))) none) (some
 (Sum.inr (Sum.inl ())))) (Int.ofNat (0:Nat))) fun(b:PUnit⊕Int)=>selim (fun(b:PUnit)=>some (-1:Int)) (fun(c:Int)=>some c) b
theorem q_ap:∀N x,u_ap.F L0 P0 (orcOf []) N x=V_ap N x:=by intros;kernel_rfl
def W_ap (N:Nat):=V_ap N
theorem con_ap_ok (N:Nat):(u_ap.con (W_ap N)).ok P0:=Uf.ok mixed (q_ap N) trivial Tryz.func188 (by kernel_rfl) fun x y=>by kernel_rfl
def u_an:Uf:=⟨170,9,Tryz.f170,[.val (.list (.int .i64)),.val (.int .i64)],[],
⟨[(4,.val .bool)],[]⟩,[],
[],
[],fun y=>(valW .bool y,[],[])⟩
def V_an (w_ap:List Int×Int→Option (Int)) (N:Nat) (x:List Int×Int):Option (Bool):=
 obind (w_ap x) fun b=>some (decide ((0:Int)≤b))
theorem q_an:∀w_ap N x,u_an.F L0 P0 (orcOf [u_ap.con w_ap]) N x=V_an w_ap N x:=by intros;kernel_rfl
def W_an (N:Nat):=V_an (W_ap N) N
theorem con_an_ok (N:Nat):(u_an.con (W_an N)).ok P0:=Uf.ok mixed (q_an (W_ap N) N) ⟨con_ap_ok N,trivial⟩ Tryz.func170 (by kernel_rfl) fun x y=>by kernel_rfl
def u_K:Uf:=⟨134,8,Tryz.f134,[.val (.list (.int .i64)),.val (.int .i64)],[],
⟨[(4,.val .bool)],[]⟩,[],
[],
[],fun y=>(valW .bool y,[],[])⟩
def V_K (w_an:List Int×Int→Option (Bool)) (N:Nat) (x:List Int×Int):Option (Bool):=
 obind (w_an x) fun b=>some b
theorem q_K:∀w_an N x,u_K.F L0 P0 (orcOf [u_an.con w_an]) N x=V_K w_an N x:=by intros;kernel_rfl
def W_K (N:Nat):=V_K (W_an N) N
theorem con_K_ok (N:Nat):(u_K.con (W_K N)).ok P0:=Uf.ok mixed (q_K (W_an N) N) ⟨con_an_ok N,trivial⟩ Tryz.func134 (by kernel_rfl) fun x y=>by kernel_rfl
def u_E:Uf:=⟨172,46,Tryz.f172,[.val (.list (.int .i64))],[],
⟨[(2,.val (.alt 220 (.list (.int .i64)) (.alt1 238 (.agg .unit))))],[]⟩,[],
[(4,.loop [21] ⟨[(23,.val (.int .i64))],[]⟩ [(.exit 0,⟨[],[]⟩),(.ret,⟨[(2,.val (.alt 220 (.list (.int .i64)) (.alt1 238 (.agg .unit))))],[]⟩)])],
[(1000001,.reg [(8,[],⟨[(12,.val .bool)],[]⟩)]),
(1000006,.reg [(6,[21],⟨[(33,.val .bool)],[]⟩)])],fun y=>(valW (.alt 220 (.list (.int .i64)) (.alt1 238 (.agg .unit))) y,[],[])⟩
def V_E (w_K:List Int×Int→Option (Bool)) (N:Nat) (x:List Int):Option ((List Int)⊕Unit):=
 obind (cnd (decide ((↑(List.length x):Int)<(1:Int))) (some true) (some (decide ((10:Int)<(↑(List.length x):Int))))) fun(b:Bool)=>cnd b
 (some (Sum.inr ())) (cnd (decide ((0:Int)≤(0:Int))&&decide ((0:Int)<(↑(List.length x):Int))) (cnd (decide (List.getD x (0:Nat) (0:Int) ≠
 (1:Int))) (some (Sum.inr ())) (obind (loopN N (fun(v:Int)=>cnd (decide (v<(↑(List.length x):Int))) (cnd (decide ((0:Int)≤v)&&decide (v
 < (↑(List.length x):Int))) (obind (cnd (decide (List.getD x (Int.toNat v) (0:Int)<(1:Int))) (some true) (some (decide ((8:Int)<List.getD x
 (Int.toNat v) (0:Int))))) fun(b:Bool)=>cnd b (some (Sum.inr (Sum.inr (Sum.inr ())))) (cnd (decide ((0:Int)≤v)&&decide (v≤(↑(List.length
 x):Int))) (obind (w_K (List.drop (0:Nat) (List.take (Int.toNat v) x),List.getD x (Int.toNat v) (0:Int))) fun b=>cnd b (some (Sum.inr
 (Sum.inr (Sum.inr ())))) (some (Sum.inl (wr .i64 (v+(1:Int)))))) none)) none) (some (Sum.inr (Sum.inl ())))) (Int.ofNat (0:Nat))) fun(b:PUnit ⊕
 List Int⊕PUnit)=>selim (fun(b:PUnit)=>some (Sum.inl x)) (fun(c:List Int⊕PUnit)=>some c) b)) none)
theorem q_E:∀w_K N x,u_E.F L0 P0 (orcOf [u_K.con w_K]) N x=V_E w_K N x:=by intros;kernel_rfl
def W_E (N:Nat):=V_E (W_K N) N
theorem con_E_ok (N:Nat):(u_E.con (W_E N)).ok P0:=Uf.ok mixed (q_E (W_K N) N) ⟨con_K_ok N,trivial⟩ Tryz.func172 (by kernel_rfl) fun x y=>by kernel_rfl
def u_aV:Uf:=⟨195,12,Tryz.f195,[.val (.list (.int .i64))],[],
⟨[(2,.val .bool)],[]⟩,[],
[],
[],fun y=>(valW .bool y,[],[])⟩
def V_aV (w_E:List Int→Option ((List Int)⊕Unit)) (N:Nat) (x:List Int):Option (Bool):=
 obind (w_E x) fun b=>selim (fun(b:List Int)=>some true) (fun(c:PUnit)=>some false) b
theorem q_aV:∀w_E N x,u_aV.F L0 P0 (orcOf [u_E.con w_E]) N x=V_aV w_E N x:=by intros;kernel_rfl
def W_aV (N:Nat):=V_aV (W_E N) N
theorem con_aV_ok (N:Nat):(u_aV.con (W_aV N)).ok P0:=Uf.ok mixed (q_aV (W_E N) N) ⟨con_E_ok N,trivial⟩ Tryz.func195 (by kernel_rfl) fun x y=>by kernel_rfl
def u_aT:Uf:=⟨184,55,Tryz.f184,[.val (.agg T_)],[],
⟨[(2,.val .bool)],[]⟩,[],
[],
[(1000004,.reg [(8,[],⟨[(1,.ptr 600001 0),(15,.val .bool)],[(600001,.box 46 (.val T_))]⟩),(5,[],⟨[(1,.ptr 600001 0),(20,.val .bool)],[(600001,.box 46 (.val T_))]⟩),(5,[],⟨[(1,.ptr 600001 0),(25,.val .bool)],[(600001,.box 46 (.val T_))]⟩)]),
(9,.cut [] [(.normal,⟨[(1,.ptr 600001 0),(42,.val .bool)],[(600001,.box 46 (.val T_))]⟩)]),
(4,.cut [] [(.normal,⟨[(1,.ptr 600001 0),(5,.val .bool)],[(600001,.box 46 (.val T_))]⟩)])],fun y=>(valW .bool y,[],[])⟩
def V_aT (w_p:Int×Int×Int→Option (Bool)) (w_aV:List Int→Option (Bool)) (N:Nat) (x:M_):Option (Bool):=
 obind (cnd (decide (x.1=(2:Int))) (some (decide (x.1=(2:Int)),x)) (some (decide (x.1=(5:Int)),x))) fun(b:Bool×A3_)=>cnd b.1 (obind (obind (w_p (b.2.2.2.2.2.1,(0:Int),(1073741824:Int))) fun b_1=>cnd b_1
 (obind (w_p (b.2.2.2.2.2.2.1,(0:Int),(1073741824:Int))) fun b_2=>some (b_2,b.2)) (some (false,b.2))) fun(b:Bool×A3_)=>obind (cnd b.1 (obind (w_aV b.2.2.2.2.2.2.2.1) fun b_1=>some (b_1,b.2)) (some
 (false,b.2))) fun(b:Bool×A3_)=>obind (cnd b.1 (obind (w_p
 (b.2.2.2.2.2.2.2.2.1,(0:Int),(1000000:Int))) fun b_1=>some (b_1,b.2)) (some (false,b.2))) fun(b:Bool×A3_)=>cnd b.1 (obind (w_p (b.2.2.2.2.2.2.2.2.2.1,(0:Int),(1000000:Int))) fun b=>some b) (some false))
 (cnd (decide (x.1=(7:Int))) (obind (w_p (b.2.2.2.2.2.2.2.2.1,(1:Int),(1000000:Int))) fun b_1=>cnd b_1 (some (decide ((↑(List.length
 b.2.2.2.2.2.2.2.2.2.2):Int)≤(12:Int)))) (some false)) (obind (cnd (decide (x.1=(8:Int))) (some (decide (x.1=(8:Int)),b.2)) (some (decide
 (x.1=(9:Int)),b.2))) fun(b:Bool×A3_)=>cnd b.1 (obind (w_p
 (b.2.2.2.2.2.2.2.2.1,(1:Int),b.2.2.2.2.2.2.2.2.2.1)) fun b_1=>cnd b_1 (some (decide (b.2.2.2.2.2.2.2.2.2.1≤(1000000:Int)))) (some false))
 (some true)))
theorem q_aT:∀w_p w_aV N x,u_aT.F L0 P0 (orcOf [u_p.con w_p,u_aV.con w_aV]) N x=V_aT w_p w_aV N x:=by intros;kernel_rfl
def W_aT (N:Nat):=V_aT (W_p N) (W_aV N) N
theorem con_aT_ok (N:Nat):(u_aT.con (W_aT N)).ok P0:=Uf.ok mixed (q_aT (W_p N) (W_aV N) N) ⟨con_p_ok N,con_aV_ok N,trivial⟩ Tryz.func184 (by kernel_rfl) fun x y=>by kernel_rfl
def u_aX:Uf:=⟨166,40,Tryz.f166,[.val (.agg T_)],[],
⟨[(2,.val .bool)],[]⟩,[],
[],
[(1000001,.reg [(8,[],⟨[(1,.ptr 600001 0),(11,.val .bool)],[(600001,.box 46 (.val T_))]⟩),(5,[],⟨[(1,.ptr 600001 0),(16,.val .bool)],[(600001,.box 46 (.val T_))]⟩),(7,[],⟨[(1,.ptr 600001 0),(23,.val .bool)],[(600001,.box 46 (.val T_))]⟩)])],fun y=>(valW .bool y,[],[])⟩
def V_aX (w_p:Int×Int×Int→Option (Bool)) (w_aY:M_→Option (M_)) (w_aM:(M_)×M_→Option (Bool)) (w_aT:M_→Option (Bool)) (N:Nat) (x:M_):Option (Bool):=
 obind (obind (w_p (x.1,(1:Int),(9:Int))) fun b=>cnd b (obind (w_p (x.2.1,(1:Int),(8:Int))) fun b=>some (b,x)) (some (false,
 x))) fun(b:Bool×A3_)=>obind (cnd b.1 (obind (w_p (b.2.2.2.1,
 (1:Int),(8:Int))) fun b_1=>some (b_1,b.2)) (some (false,b.2))) fun(b:Bool×A3_)=>obind (cnd b.1 (some (decide (b.2.2.1≠b.2.2.2.1),b.2)) (some (false,b.2))) fun(b:Bool×A3_)=>cnd b.1 (obind (w_p (b.2.2.2.2.1,(1:Int),(1073741824:Int))) fun b_1=>cnd b_1 (obind (w_aY b.2)
 fun b_2=>obind (w_aM (b.2,b_2)) fun b_3=>cnd b_3 (obind (w_aT b.2) fun b=>some b) (some false)) (some false)) (some false)
theorem q_aX:∀w_p w_aY w_aM w_aT N x,u_aX.F L0 P0 (orcOf [u_p.con w_p,u_aY.con w_aY,u_aM.con w_aM,u_aT.con w_aT]) N x=V_aX w_p w_aY w_aM w_aT N x:=by intros;kernel_rfl
def W_aX (N:Nat):=V_aX (W_p N) (W_aY N) (W_aM N) (W_aT N) N
theorem con_aX_ok (N:Nat):(u_aX.con (W_aX N)).ok P0:=Uf.ok mixed (q_aX (W_p N) (W_aY N) (W_aM N) (W_aT N) N) ⟨con_p_ok N,con_aY_ok N,con_aM_ok N,con_aT_ok N,trivial⟩ Tryz.func166 (by kernel_rfl) fun x y=>by kernel_rfl
def as_f:List AS:=[.val (.list (.int .u8))]
def bs_f:List BS:=[]
def pout_f:Pat:=⟨[(2,.acc 700005)],[(700005,.nrow 5 (.int .u8) false true)]⟩
def G_f  (N:Nat):OrcT:=orcOf []
def F_f  (N:Nat) (x:List Int):Option (List Int):=
  (evT (G_f  N) L0 P0 []
    [] N 400 (bodyOf Tryz.f186) ⟨8,slots 0 [.nl ⟨(.int .u8),x⟩],tabU (lbOf as_f bs_f x) [],[]⟩).elim (kRet 8 pout_f (kpL []) (lbOf as_f bs_f x))
def out_f (y:List Int):V×List OK×List OK:=(.acc 2000000 0,[],[.nrow 5 false true ⟨(.int .u8),y⟩])
def V_f  (N:Nat) (x:List Int):Option (List Int):=
 cnd (decide (List.length x*(1:Nat)≤(140737488355328:Nat))) (some x) none
theorem FV_f_eq  (N:Nat) (x:List Int):F_f  N x=V_f  N x:=by kernel_rfl
def W_f (N:Nat) (x:List Int):Option (List Int):=V_f  N x
theorem F_f_eq (N:Nat) (x:List Int):F_f  N x=W_f N x:=(FV_f_eq  N x).trans (by kernel_rfl)
def conw_f (w:List Int→Option (List Int)):Con:=⟨186,as_f,bs_f,List Int,w,out_f⟩
def con_f (N:Nat):Con:=conw_f (W_f N)
theorem R_f_eq (x:List Int) (y:List Int):retOf2 P0 Tryz.f186 (kpL []) (lbOf as_f bs_f x) (patS ⟨8,[],[],[]⟩ pout_f y)=some (out_f y):=by kernel_rfl
def FA_bytes_Clone:Option (List Int):=(evT (G_f 1) L0 P0 [] [] 1 400 (bodyOf Tryz.f186) ⟨8,slots 0 [.snil],tabU [] [],[]⟩).elim (kRet 8 pout_f (kpL []) [])
theorem FA_bytes_Clone_eq:FA_bytes_Clone=some []:=by kernel_rfl
theorem WN_bytes_Clone (N:Nat) (r:List Int) (h:W_f N []=some r):r=[]:=by
  have e:W_f N []=some []:=by kernel_rfl
  rw[e] at h;injection h with h;exact h.symm
theorem con_f_ok (N:Nat):Con.ok P0 (con_f N):=⟨⟨Tryz.f186,Tryz.func186,by kernel_rfl,by kernel_rfl⟩,fun(x:List Int) (r:List Int) (hr:W_f N x=some r)=>
  clone_split (e:=(.int .u8)) (ty:=5) (l:=x) (r:=r)
    (spec2_evT (Γ:=G_f 1) (Λ:=L0) (lb:=[]) (pout:=pout_f) (kp:=kpL []) mixed (orcOf_ok [] (by simp)) Tryz.func186 (c:=bodyOf Tryz.f186) (by kernel_rfl) (by kernel_rfl) (of_decide_eq_true (by kernel_rfl)) FA_bytes_Clone_eq (R_f_eq x []))
    (spec2_evT (Γ:=G_f N) (Λ:=L0) (lb:=[]) (pout:=pout_f) (kp:=kpL []) mixed (orcOf_ok [] (by simp)) Tryz.func186 (c:=bodyOf Tryz.f186) (by kernel_rfl) (by kernel_rfl) (of_decide_eq_true (by kernel_rfl)) ((F_f_eq N x).trans hr) (R_f_eq x r))
    (fun h=>by subst h;exact WN_bytes_Clone N r hr)⟩
def u_J:Uf:=⟨185,31,Tryz.f185,[.val (.list (.int .u8)),.val (.int .i64)],[],
⟨[(4,.acc 700007)],[(700007,.nrow 5 (.int .u8) false true)]⟩,[],
[(4,.loop [] ⟨[(1,.val (.int .i64)),(5,.acc 700007)],[(700007,.nrow 5 (.int .u8) false true)]⟩ [(.exit 0,⟨[(1,.val (.int .i64)),(5,.acc 700007)],[(700007,.nrow 5 (.int .u8) false true)]⟩)])],
[],fun y=>(.acc 2000000 0,[],[.nrow 5 false true ⟨(.int .u8),y⟩])⟩
def V_J (w_f:List Int→Option (List Int)) (N:Nat) (x:List Int×Int):Option (List Int):=
 obind (w_f x.1) fun b=>cnd (decide (x.2<(0:Int))) (some b) (cnd (decide ((1073741824:Int)<x.2)) (some b) (obind (loopN N (fun(v:
 Int×List Int)=>cnd (decide ((128:Int)≤v.1)) (cnd (decide ((List.length v.2+List.length [wr .u8 (wr .i64 (Int.tmod v.1 (128:Int) +
 (128:Int)))])*(1:Nat)≤(140737488355328:Nat))) (some (Sum.inl (wr .i64 (Int.tdiv v.1 (128:Int)),v.2++[wr .u8 (wr .i64 (Int.tmod v.1 (128:Int)
 + (128:Int)))]))) none) (some (Sum.inr v))) (x.2,b)) fun(b:Int×List Int)=>cnd (decide ((List.length b.2+List.length [wr .u8 b.1]) *
 (1:Nat)≤(140737488355328:Nat))) (some (b.2++[wr .u8 b.1])) none))
theorem q_J:∀w_f N x,u_J.F L0 P0 (orcOf [conw_f w_f]) N x=V_J w_f N x:=by intros;kernel_rfl
def W_J (N:Nat):=V_J (W_f N) N
theorem con_J_ok (N:Nat):(u_J.con (W_J N)).ok P0:=Uf.ok mixed (q_J (W_f N) N) ⟨con_f_ok N,trivial⟩ Tryz.func185 (by kernel_rfl) fun x y=>by kernel_rfl
def u_5:Uf:=⟨167,18,Tryz.f167,[.val (.list (.int .u8)),.val (.list (.int .i64))],[],
⟨[(4,.val (.list (.int .u8)))],[]⟩,[],
[(2,.loop [7] ⟨[(0,.val (.list (.int .u8))),(9,.val (.int .i64))],[]⟩ [(.exit 0,⟨[(0,.val (.list (.int .u8)))],[]⟩)])],
[],fun y=>(valW (.list (.int .u8)) y,[],[])⟩
def V_5 (w_J:List Int×Int→Option (List Int)) (N:Nat) (x:List Int×List Int):Option (List Int):=
 obind (loopN N (fun(v:List Int×Int)=>cnd (decide (v.2<(↑(List.length x.2):Int))) (cnd (decide ((0:Int)≤v.2)&&decide (v.2 <
 (↑(List.length x.2):Int))) (obind (w_J (v.1,List.getD x.2 (Int.toNat v.2) (0:Int))) fun b=>some (Sum.inl (b,wr .i64 (v.2 +
 (1:Int))))) none) (some (Sum.inr v.1))) (x.1,(0:Int))) fun(b:List Int)=>some b
theorem q_5:∀w_J N x,u_5.F L0 P0 (orcOf [u_J.con w_J]) N x=V_5 w_J N x:=by intros;kernel_rfl
def W_5 (N:Nat):=V_5 (W_J N) N
theorem con_5_ok (N:Nat):(u_5.con (W_5 N)).ok P0:=Uf.ok mixed (q_5 (W_J N) N) ⟨con_J_ok N,trivial⟩ Tryz.func167 (by kernel_rfl) fun x y=>by kernel_rfl
def u_at:Uf:=⟨168,16,Tryz.f168,[.val (.list (.int .u8)),.val .str],[],
⟨[(4,.acc 700013)],[(700013,.nrow 5 (.int .u8) false true)]⟩,[],
[],
[],fun y=>(.acc 2000000 0,[],[.nrow 5 false true ⟨(.int .u8),y⟩])⟩
def V_at (w_f:List Int→Option (List Int)) (w_J:List Int×Int→Option (List Int)) (N:Nat) (x:List Int×List UInt8):Option (List Int):=
 cnd (decide ((1073741824:Int)<(↑(List.length x.2):Int))) (obind (w_f x.1) fun b=>some b) (obind (w_J (x.1,(↑(List.length
 x.2):Int))) fun b=>cnd (decide ((List.length b+List.length (List.map (fun(b:UInt8)=>(↑(UInt8.toNat b):Int)) x.2))*(1:Nat) ≤
 (140737488355328:Nat))) (some (b++List.map (fun(b:UInt8)=>(↑(UInt8.toNat b):Int)) x.2)) none)
theorem q_at:∀w_f w_J N x,u_at.F L0 P0 (orcOf [conw_f w_f,u_J.con w_J]) N x=V_at w_f w_J N x:=by intros;kernel_rfl
def W_at (N:Nat):=V_at (W_f N) (W_J N) N
theorem con_at_ok (N:Nat):(u_at.con (W_at N)).ok P0:=Uf.ok mixed (q_at (W_f N) (W_J N) N) ⟨con_f_ok N,con_J_ok N,trivial⟩ Tryz.func168 (by kernel_rfl) fun x y=>by kernel_rfl
def u_aN:Uf:=⟨196,22,Tryz.f196,[.val (.int .u32),.val (.int .i32)],[],
⟨[(4,.val (.int .u32))],[]⟩,[],
[(3,.loop [] ⟨[(0,.val (.int .u32)),(10,.val (.int .i64))],[]⟩ [(.exit 0,⟨[(0,.val (.int .u32))],[]⟩)])],
[],fun y=>(valW (.int .u32) y,[],[])⟩
def V_aN (N:Nat) (x:Int×Int):Option (Int):=
 obind (loopN N (fun(v:Int×Int)=>cnd (decide (v.2<(8:Int))) (cnd (decide (wr .u32 (↑(BitVec.toNat (BitVec.ofInt (32:Nat) v.1 &&& BitVec.ofInt
 (32:Nat) (1:Int))):Int)=(1:Int))) (some (Sum.inl (wr .u32 (↑(BitVec.toNat (BitVec.ofInt (32:Nat) (Int.fdiv v.1 ((2:Int) ^ (1:Nat))) ^^^
 BitVec.ofInt (32:Nat) (3988292384:Int))):Int),wr .i64 (v.2+(1:Int))))) (some (Sum.inl (Int.fdiv v.1 ((2:Int) ^ (1:Nat)),wr .i64 (v.2 +
 (1:Int)))))) (some (Sum.inr v.1))) (wr .u32 (↑(BitVec.toNat (BitVec.ofInt (32:Nat) x.1 ^^^ BitVec.ofInt (32:Nat) (wr .u32 x.2))):Int),(0:Int)))
 fun(b:Int)=>some b
theorem q_aN:∀N x,u_aN.F L0 P0 (orcOf []) N x=V_aN N x:=by intros;kernel_rfl
def W_aN (N:Nat):=V_aN N
theorem con_aN_ok (N:Nat):(u_aN.con (W_aN N)).ok P0:=Uf.ok mixed (q_aN N) trivial Tryz.func196 (by kernel_rfl) fun x y=>by kernel_rfl
def u_aW:Uf:=⟨187,19,Tryz.f187,[.val (.list (.int .u8))],[],
⟨[(2,.val (.int .u32))],[]⟩,[],
[(3,.loop [6] ⟨[(3,.val (.int .u32)),(8,.val (.int .i64))],[]⟩ [(.exit 0,⟨[(3,.val (.int .u32))],[]⟩)])],
[],fun y=>(valW (.int .u32) y,[],[])⟩
def V_aW (w_aN:Int×Int→Option (Int)) (N:Nat) (x:List Int):Option (Int):=
 obind (loopN N (fun(v:Int×Int)=>cnd (decide (v.2<(↑(List.length x):Int))) (cnd (decide ((0:Int)≤v.2)&&decide (v.2<(↑(List.length x):
 Int))) (obind (w_aN (v.1,wr .i32 (List.getD x (Int.toNat v.2) (0:Int)))) fun b=>some (Sum.inl (b,wr .i64 (v.2+(1:Int))))) none) (some
 (Sum.inr v.1))) ((4294967295:Int),(0:Int))) fun(b:Int)=>some (wr .u32 (↑(BitVec.toNat (BitVec.ofInt (32:Nat) (IntKind.max .u32) ^^^
 BitVec.ofInt (32:Nat) b)):Int))
theorem q_aW:∀w_aN N x,u_aW.F L0 P0 (orcOf [u_aN.con w_aN]) N x=V_aW w_aN N x:=by intros;kernel_rfl
def W_aW (N:Nat):=V_aW (W_aN N) N
theorem con_aW_ok (N:Nat):(u_aW.con (W_aW N)).ok P0:=Uf.ok mixed (q_aW (W_aN N) N) ⟨con_aN_ok N,trivial⟩ Tryz.func187 (by kernel_rfl) fun x y=>by kernel_rfl
def u_a0:Uf:=⟨169,18,Tryz.f169,[.val (.list (.int .u8))],[],
⟨[(2,.val (.list (.int .u8)))],[]⟩,[],
[],
[],fun y=>(valW (.list (.int .u8)) y,[],[])⟩
def V_a0 (w_aW:List Int→Option (Int)) (N:Nat) (x:List Int):Option (List Int):=
 obind (w_aW x) fun b=>some [wr .u8 (Int.fdiv b ((2:Int) ^ (24:Nat))),wr .u8 (Int.fdiv b ((2:Int) ^ (16:Nat))),wr .u8 (Int.fdiv b ((2:Int) ^ (8:Nat))),wr .u8 b]
theorem q_a0:∀w_aW N x,u_a0.F L0 P0 (orcOf [u_aW.con w_aW]) N x=V_a0 w_aW N x:=by intros;kernel_rfl
def W_a0 (N:Nat):=V_a0 (W_aW N) N
theorem con_a0_ok (N:Nat):(u_a0.con (W_a0 N)).ok P0:=Uf.ok mixed (q_a0 (W_aW N) N) ⟨con_aW_ok N,trivial⟩ Tryz.func169 (by kernel_rfl) fun x y=>by kernel_rfl
def u_aZ:Uf:=⟨133,43,Tryz.f133,[.val (.agg T_)],[],
⟨[(2,.val (.list (.int .u8)))],[]⟩,[],
[],
[],fun y=>(valW (.list (.int .u8)) y,[],[])⟩
def V_aZ (w_aX:M_→Option (Bool)) (w_5:List Int×List Int→Option (List Int)) (w_at:List Int×List UInt8→Option (List Int)) (w_a0:List Int→Option (List Int)) (N:Nat) (x:M_):Option (List Int):=
 obind (w_aX x) fun b=>cnd (!b) (some []) (obind (w_5 ([],[x.1,x.2.1,x.2.2.1,x.2.2.2.1,x.2.2.2.2.1,x.2.2.2.2.2.1,
 (↑(List.length x.2.2.2.2.2.2.1):Int)])) fun b=>obind (w_5 (b,x.2.2.2.2.2.2.1)) fun b=>obind (w_5 (b,
 [x.2.2.2.2.2.2.2.1,x.2.2.2.2.2.2.2.2.1])) fun b=>obind (w_at (b,x.2.2.2.2.2.2.2.2.2)) fun b=>obind (w_a0 b) fun b_1=>cnd
 (decide ((List.length b+List.length b_1)*(1:Nat)≤(140737488355328:Nat))) (some (b++b_1)) none)
theorem q_aZ:∀w_aX w_5 w_at w_a0 N x,u_aZ.F L0 P0 (orcOf [u_aX.con w_aX,u_5.con w_5,u_at.con w_at,u_a0.con w_a0]) N x=V_aZ w_aX w_5 w_at w_a0 N x:=by intros;kernel_rfl
def W_aZ (N:Nat):=V_aZ (W_aX N) (W_5 N) (W_at N) (W_a0 N) N
theorem con_aZ_ok (N:Nat):(u_aZ.con (W_aZ N)).ok P0:=Uf.ok mixed (q_aZ (W_aX N) (W_5 N) (W_at N) (W_a0 N) N) ⟨con_aX_ok N,con_5_ok N,con_at_ok N,con_a0_ok N,trivial⟩ Tryz.func133 (by kernel_rfl) fun x y=>by kernel_rfl
def u_au:Uf:=⟨132,10,Tryz.f132,[.val (.list (.int .u8)),.val (.list (.int .u8))],[],
⟨[(4,.val .bool)],[]⟩,[],
[],
[],fun y=>(valW .bool y,[],[])⟩
def V_au (N:Nat) (x:List Int×List Int):Option (Bool):=
 cnd (List.all x.1 fun(n:Int)=>decide ((0:Int)≤n)&&decide (n<(256:Int))) (cnd (List.all x.2 fun(n:Int)=>decide ((0:Int)≤n)&&decide
 (n<(256:Int))) (some (List.map (fun(n:Int)=>UInt8.ofNat (Int.toNat n)) x.1==List.map (fun(n:Int)=>UInt8.ofNat (Int.toNat n)) x.2))
 none) none
theorem q_au:∀N x,u_au.F L0 P0 (orcOf []) N x=V_au N x:=by intros;kernel_rfl
def W_au (N:Nat):=V_au N
theorem con_au_ok (N:Nat):(u_au.con (W_au N)).ok P0:=Uf.ok mixed (q_au N) trivial Tryz.func132 (by kernel_rfl) fun x y=>by kernel_rfl
def u_aL:Uf:=⟨69,28,Tryz.f69,[.val (.list (.int .u8))],[],
⟨[(2,.ptr 600002 0),(3,.val .bool)],[(600002,.box 46 (.val T_))]⟩,[],
[],
[],fun y=>(.tup [valW (.agg T_) y.2,valW .bool y.1],[],[])⟩
def V_aL (w_aU:List Int→Option ((Int⊕Unit)×M_)) (w_aZ:M_→Option (List Int)) (w_au:List Int×List Int→Option (Bool)) (N:Nat) (x:List Int):Option (Bool×M_):=
 obind (w_aU x) fun b=>selim (fun(b:Int)=>some (false,(0:Int),(0:Int),(0:Int),(0:Int),(0:Int),(0:Int),[],(0:Int),(0:Int),[]))
 (fun(c:PUnit)=>obind (w_aZ b.2) fun b_1=>obind (w_au (b_1,x)) fun b_2=>cnd (!b_2) (some (false,(0:Int),(0:Int),
 (0:Int),(0:Int),(0:Int),(0:Int),[],(0:Int),(0:Int),[])) (some (true,b.2))) b.1
theorem q_aL:∀w_aU w_aZ w_au N x,u_aL.F L0 P0 (orcOf [u_aU.con w_aU,u_aZ.con w_aZ,u_au.con w_au]) N x=V_aL w_aU w_aZ w_au N x:=by intros;kernel_rfl
def W_aL (N:Nat):=V_aL (W_aU N) (W_aZ N) (W_au N) N
theorem con_aL_ok (N:Nat):(u_aL.con (W_aL N)).ok P0:=Uf.ok mixed (q_aL (W_aU N) (W_aZ N) (W_au N) N) ⟨con_aU_ok N,con_aZ_ok N,con_au_ok N,trivial⟩ Tryz.func69 (by kernel_rfl) fun x y=>by kernel_rfl
def u_aH:Uf:=⟨37,26,Tryz.f37,[.val (.agg T0_),.val (.list (.int .u8))],[],
⟨[(4,.val (.alt 81 (.agg T_) (.alt1 121 (.agg .unit))))],[]⟩,[],
[],
[],fun y=>(valW (.alt 81 (.agg T_) (.alt1 121 (.agg .unit))) y,[],[])⟩
def V_aH (w_aL:List Int→Option (Bool×M_)) (N:Nat) (x:A0_×List Int):Option ((M_)⊕Unit):=
 obind (w_aL x.2) fun b=>cnd (!b.1) (some (Sum.inr ())) (cnd (decide (b.2.2.2.1≠x.1.2.2.2.1.1)) (some (Sum.inr ())) (some (Sum.inl b.2)))
theorem q_aH:∀w_aL N x,u_aH.F L0 P0 (orcOf [u_aL.con w_aL]) N x=V_aH w_aL N x:=by intros;kernel_rfl
def W_aH (N:Nat):=V_aH (W_aL N) N
theorem con_aH_ok (N:Nat):(u_aH.con (W_aH N)).ok P0:=Uf.ok mixed (q_aH (W_aL N) N) ⟨con_aL_ok N,trivial⟩ Tryz.func37 (by kernel_rfl) fun x y=>by kernel_rfl
def u_l:Uf:=⟨70,33,Tryz.f70,[.val (.agg T1_),.val (.agg T_)],[],
⟨[(4,.val (.alt 122 (.agg .unit) (.alt 185 (.agg .unit) (.alt1 186 (.agg .unit)))))],[]⟩,[],
[],
[],fun y=>(valW (.alt 122 (.agg .unit) (.alt 185 (.agg .unit) (.alt1 186 (.agg .unit)))) y,[],[])⟩
def V_l (N:Nat) (x:A2_×M_):Option (Unit⊕(Unit⊕Unit)):=
 cnd (decide (x.1.2.2.2.1≠(0:Int))) (cnd (decide (x.2.2.1=x.1.2.2.2.1)) (some (Sum.inl ())) (cnd (decide (x.1.2.2.2.2.2.2.2.2.2.1≠(0:Int))) (cnd
 (decide (x.2.2.1=x.1.2.2.2.2.2.2.2.2.2.1)) (some (Sum.inr (Sum.inl ()))) (some (Sum.inr (Sum.inr ())))) (some (Sum.inr (Sum.inr ()))))) (cnd
 (decide (x.1.2.2.2.2.2.2.2.2.2.1≠(0:Int))) (cnd (decide (x.2.2.1=x.1.2.2.2.2.2.2.2.2.2.1)) (some (Sum.inr (Sum.inl ()))) (some (Sum.inr (Sum.inr
 ())))) (some (Sum.inr (Sum.inr ()))))
theorem q_l:∀N x,u_l.F L0 P0 (orcOf []) N x=V_l N x:=by intros;kernel_rfl
def W_l (N:Nat):=V_l N
theorem con_l_ok (N:Nat):(u_l.con (W_l N)).ok P0:=Uf.ok mixed (q_l N) trivial Tryz.func70 (by kernel_rfl) fun x y=>by kernel_rfl
def u_D:Uf:=⟨144,34,Tryz.f144,[.val (.list T3_),.val (.int .i64)],[],
⟨[(4,.val (.alt 193 (.agg (.pair (.int .i64) T3_)) (.alt1 217 (.agg (.int .i64)))))],[]⟩,[],
[(2,.loop [7] ⟨[(9,.val (.int .i64))],[]⟩ [(.exit 0,⟨[],[]⟩),(.ret,⟨[(4,.val (.alt 193 (.agg (.pair (.int .i64) T3_)) (.alt1 217 (.agg (.int .i64)))))],[]⟩)])],
[],fun y=>(valW (.alt 193 (.agg (.pair (.int .i64) T3_)) (.alt1 217 (.agg (.int .i64)))) y,[],[])⟩
def V_D (N:Nat) (x:List (Int×Int×Int)×Int):Option ((Int×Int×Int×Int)⊕Int):=
 obind (loopN N (fun(v:Int)=>cnd (decide (v<(↑(List.length x.1):Int))) (cnd (decide ((0:Int)≤v)&&decide (v<(↑(List.length x.1):Int)))
 (cnd (decide (Prod.fst (List.getD x.1 (Int.toNat v) ((0:Int),(0:Int),(0:Int)))=x.2)) (some (Sum.inr (Sum.inr (Sum.inl (v,Prod.fst (List.getD
 x.1 (Int.toNat v) ((0:Int),(0:Int),(0:Int))),Prod.fst (Prod.snd (List.getD x.1 (Int.toNat v) ((0:Int),(0:Int),(0:Int)))),Prod.snd (Prod.snd
 (List.getD x.1 (Int.toNat v) ((0:Int),(0:Int),(0:Int))))))))) (cnd (decide (x.2<Prod.fst (List.getD x.1 (Int.toNat v) ((0:Int),(0:Int),
 (0:Int))))) (some (Sum.inr (Sum.inr (Sum.inr v)))) (some (Sum.inl (wr .i64 (v+(1:Int))))))) none) (some (Sum.inr (Sum.inl ())))) (Int.ofNat
 (0:Nat))) fun(b:PUnit⊕Int×Int×Int×Int⊕Int)=>selim (fun(b:PUnit)=>some (Sum.inr (↑(List.length x.1):Int))) (fun(c:Int×Int×Int×Int⊕Int)=>some c) b
theorem q_D:∀N x,u_D.F L0 P0 (orcOf []) N x=V_D N x:=by intros;kernel_rfl
def W_D (N:Nat):=V_D N
theorem con_D_ok (N:Nat):(u_D.con (W_D N)).ok P0:=Uf.ok mixed (q_D N) trivial Tryz.func144 (by kernel_rfl) fun x y=>by kernel_rfl
def u_k:Uf:=⟨79,18,Tryz.f79,[.val (.list T3_),.val (.int .i64)],[],
⟨[(4,.ptr 600004 0),(5,.val .bool)],[(600004,.box 53 (.val (.pair (.int .i64) (.pair (.int .i64) (.int .i64)))))]⟩,[],
[],
[],fun y=>(.tup [valW T3_ y.2,valW .bool y.1],[],[])⟩
def V_k (w_D:List (Int×Int×Int)×Int→Option ((Int×Int×Int×Int)⊕Int)) (N:Nat) (x:List (Int×Int×Int)×Int):Option (Bool×Int×Int×Int):=
 obind (w_D x) fun b=>selim (fun(b:Int×Int×Int×Int)=>some (true,b.2)) (fun(c:Int)=>some (false,(0:Int),(0:Int),(0:Int))) b
theorem q_k:∀w_D N x,u_k.F L0 P0 (orcOf [u_D.con w_D]) N x=V_k w_D N x:=by intros;kernel_rfl
def W_k (N:Nat):=V_k (W_D N) N
theorem con_k_ok (N:Nat):(u_k.con (W_k N)).ok P0:=Uf.ok mixed (q_k (W_D N) N) ⟨con_D_ok N,trivial⟩ Tryz.func79 (by kernel_rfl) fun x y=>by kernel_rfl
def u_s:Uf:=⟨71,22,Tryz.f71,[.val (.list T3_),.val (.int .i64),.val (.int .i64)],[],
⟨[(6,.val .bool)],[]⟩,[],
[],
[],fun y=>(valW .bool y,[],[])⟩
def V_s (w_k:List (Int×Int×Int)×Int→Option (Bool×Int×Int×Int)) (N:Nat) (x:List (Int×Int×Int)×Int×Int):Option (Bool):=
 obind (w_k (x.1,x.2.1)) fun b=>cnd b.1 (some (decide (x.2.2<b.2.2.1))) (some false)
theorem q_s:∀w_k N x,u_s.F L0 P0 (orcOf [u_k.con w_k]) N x=V_s w_k N x:=by intros;kernel_rfl
def W_s (N:Nat):=V_s (W_k N) N
theorem con_s_ok (N:Nat):(u_s.con (W_s N)).ok P0:=Uf.ok mixed (q_s (W_k N) N) ⟨con_k_ok N,trivial⟩ Tryz.func71 (by kernel_rfl) fun x y=>by kernel_rfl
def u_o:Uf:=⟨72,12,Tryz.f72,[.val (.agg T1_),.val (.int .i64)],[],
⟨[(4,.ptr 600004 0)],[(600004,.box 31 (.val T1_))]⟩,[],
[],
[],fun y=>(valW (.agg T1_) y,[],[])⟩
def V_o (N:Nat) (x:A2_×Int):Option A2_:=
 some (x.1.1,x.1.2.1,x.1.2.2.1,(0:Int),(0:Int),x.1.2.2.2.2.2.1,[],x.1.2.2.2.2.2.2.2.1,x.1.2.2.2.2.2.2.2.2.1,(0:Int),x.1.2.2.2.2.2.2.2.2.2.2.1,x.2,x.1.2.2.2.2.2.2.2.2.2.2.2.2)
theorem q_o:∀N x,u_o.F L0 P0 (orcOf []) N x=V_o N x:=by intros;kernel_rfl
def W_o (N:Nat):=V_o N
theorem con_o_ok (N:Nat):(u_o.con (W_o N)).ok P0:=Uf.ok mixed (q_o N) trivial Tryz.func72 (by kernel_rfl) fun x y=>by kernel_rfl
def u_L:Uf:=⟨148,8,Tryz.f148,[.val (.agg T1_)],[],
⟨[(2,.val (.int .i64))],[]⟩,[],
[],
[],fun y=>(valW (.int .i64) y,[],[])⟩
def V_L (N:Nat) (x:A2_):Option (Int):=
 some (wr .i64 (x.2.2.1-x.2.2.2.2.2.2.2.2.1))
theorem q_L:∀N x,u_L.F L0 P0 (orcOf []) N x=V_L N x:=by intros;kernel_rfl
def W_L (N:Nat):=V_L N
theorem con_L_ok (N:Nat):(u_L.con (W_L N)).ok P0:=Uf.ok mixed (q_L N) trivial Tryz.func148 (by kernel_rfl) fun x y=>by kernel_rfl
def u_aG:Uf:=⟨95,16,Tryz.f95,[.val (.agg T1_)],[],
⟨[(2,.val .bool)],[]⟩,[],
[],
[],fun y=>(valW .bool y,[],[])⟩
def V_aG (w_L:A2_→Option (Int)) (N:Nat) (x:A2_):Option (Bool):=
 cnd (decide (x.1=(1:Int))) (some true) (cnd (decide (x.2.2.2.1≠(0:Int))) (obind (w_L x) fun b=>some (decide (b≤(20:Int)))) (some false))
theorem q_aG:∀w_L N x,u_aG.F L0 P0 (orcOf [u_L.con w_L]) N x=V_aG w_L N x:=by intros;kernel_rfl
def W_aG (N:Nat):=V_aG (W_L N) N
theorem con_aG_ok (N:Nat):(u_aG.con (W_aG N)).ok P0:=Uf.ok mixed (q_aG (W_L N) N) ⟨con_L_ok N,trivial⟩ Tryz.func95 (by kernel_rfl) fun x y=>by kernel_rfl
def u_aQ:Uf:=⟨135,6,Tryz.f135,[.val (.agg T1_)],[],
⟨[(2,.val (.int .i64))],[]⟩,[],
[],
[],fun y=>(valW (.int .i64) y,[],[])⟩
def V_aQ (N:Nat) (x:A2_):Option (Int):=
 cnd (decide (x.1=(1:Int))) (some (8:Int)) (some (3:Int))
theorem q_aQ:∀N x,u_aQ.F L0 P0 (orcOf []) N x=V_aQ N x:=by intros;kernel_rfl
def W_aQ (N:Nat):=V_aQ N
theorem con_aQ_ok (N:Nat):(u_aQ.con (W_aQ N)).ok P0:=Uf.ok mixed (q_aQ N) trivial Tryz.func135 (by kernel_rfl) fun x y=>by kernel_rfl
def u_g:Uf:=⟨136,14,Tryz.f136,[.val (.agg T1_),.val (.int .i64),.val (.int .i64)],[],
⟨[(6,.ptr 600006 0)],[(600006,.box 46 (.val T_))]⟩,[],
[],
[],fun y=>(valW (.agg T_) y,[],[])⟩
def V_g (N:Nat) (x:A2_×Int×Int):Option (M_):=
 some (x.2.1,x.1.1,x.2.2,x.1.2.1,(0:Int),(0:Int),[],(0:Int),(0:Int),[])
theorem q_g:∀N x,u_g.F L0 P0 (orcOf []) N x=V_g N x:=by intros;kernel_rfl
def W_g (N:Nat):=V_g N
theorem con_g_ok (N:Nat):(u_g.con (W_g N)).ok P0:=Uf.ok mixed (q_g N) trivial Tryz.func136 (by kernel_rfl) fun x y=>by kernel_rfl
def as_P:List AS:=[.acc 0,.val (.int .i64),.val (.list T3_)]
def bs_P:List BS:=[.nrow 53 T3_ true]
def out_P (y:List (Int×Int×Int)):V×List OK×List OK:=(.acc 2000000 0,[.dead],[.nrow 53 false true ⟨T3_,y⟩])
def W_P (N:Nat) (x:Int×List (Int×Int×Int)×List (Int×Int×Int)):Option (List (Int×Int×Int)):=
  cnd (decide ((0:Int)≤x.1)&&decide (x.1≤((↑(List.length x.2.2):Int):Int))&&decide (List.length x.2.1=(1:Nat))&&decide ((List.length x.2.2+(1:Nat))*(24:Nat)≤(140737488355328:Nat))) (some (List.take (Int.toNat x.1) x.2.2++(x.2.1++List.drop (Int.toNat x.1) x.2.2))) none
def conw_P (w:Int×List (Int×Int×Int)×List (Int×Int×Int)→Option (List (Int×Int×Int))):Con:=⟨171,as_P,bs_P,List (Int×Int×Int),w,out_P⟩
def con_P (N:Nat):Con:=conw_P (W_P N)
theorem con_P_ok (N:Nat):Con.ok P0 (con_P N):=⟨⟨Tryz.f171,Tryz.func171,by kernel_rfl,by kernel_rfl⟩,fun(x:Int×List (Int×Int×Int)×List (Int×Int×Int)) (r:List (Int×Int×Int)) (hr:W_P N x=some r)=>by
  obtain⟨i,s,l⟩:=x
  exact ins_con (e:=T3_) (t:=29) (ty:=53) (bytes:=24) (nl:=true) (l:=l) (r:=s) (q:=r) (i:=i) insN171 insP171 rfl (by decide) (by decide) (by decide) hr⟩
def u_v:Uf:=⟨137,49,Tryz.f137,[.val (.list T3_),.val T3_],[],
⟨[(4,.val (.list T3_)),(5,.val .bool)],[]⟩,[],
[],
[(8,.cut [7] [(.normal,⟨[(3,.ptr 600003 0),(6,.acc 700047)],[(600003,.box 53 (.val (.pair (.int .i64) (.pair (.int .i64) (.int .i64))))),(700047,.nrow 53 T3_ false true)]⟩)])],fun y=>(.tup [valW (.list T3_) y.1,valW .bool y.2],[],[])⟩
def V_v (w_e:List (Int×Int×Int)→Option (List (Int×Int×Int))) (w_s:List (Int×Int×Int)×Int×Int→Option (Bool)) (w_D:List (Int×Int×Int)×Int→Option ((Int×Int×Int×Int)⊕Int)) (w_P:Int×List (Int×Int×Int)×List (Int×Int×Int)→Option (List (Int×Int×Int))) (N:Nat) (x:List (Int×Int×Int)×Int×Int×Int):Option (List (Int×Int×Int)×Bool):=
 obind (w_e x.1) fun b=>obind (w_s (x.1,x.2.1,x.2.2.1)) fun b_1=>cnd b_1 (some (b,false)) (obind (w_D
 (x.1,x.2.1)) fun b_2=>obind (selim (fun(b_3:Int×Int×Int×Int)=>cnd (decide ((0:Int)≤b_3.1)&&decide (b_3.1<(↑(List.length b):
 Int))) (some (x.2,putL b [x.2] (Int.toNat b_3.1))) none) (fun(c:Int)=>some (x.2,b)) b_2) fun(b:(Int×Int×Int)×List (Int×Int×Int))
 => selim (fun(b_3:Int×Int×Int×Int)=>some (b.2,true)) (fun(c:Int)=>obind (w_P (c,[b.1],b.2)) fun b=>some
 (b,true)) b_2)
theorem q_v:∀w_e w_s w_D w_P N x,u_v.F L0 P0 (orcOf [conw_e w_e,u_s.con w_s,u_D.con w_D,conw_P w_P]) N x=V_v w_e w_s w_D w_P N x:=by intros;kernel_rfl
def W_v (N:Nat):=V_v (W_e N) (W_s N) (W_D N) (W_P N) N
theorem con_v_ok (N:Nat):(u_v.con (W_v N)).ok P0:=Uf.ok mixed (q_v (W_e N) (W_s N) (W_D N) (W_P N) N) ⟨con_e_ok N,con_s_ok N,con_D_ok N,con_P_ok N,trivial⟩ Tryz.func137 (by kernel_rfl) fun x y=>by kernel_rfl
def u_ag:Uf:=⟨138,23,Tryz.f138,[.val (.agg T1_),.val (.int .i64),.val (.int .i64)],[],
⟨[(6,.ptr 600006 0)],[(600006,.box 46 (.val T_))]⟩,[],
[],
[],fun y=>(valW (.agg T_) y,[],[])⟩
def V_ag (w_g:A2_×Int×Int→Option (M_)) (w_L:A2_→Option (Int)) (w_d:List Int→Option (List Int)) (N:Nat) (x:A2_×Int×Int):Option (M_):=
 obind (w_g x) fun b=>obind (w_L x.1) fun b_1=>obind (w_d x.1.2.2.2.2.2.2.1) fun b_2=>some (b.1,b.2.1,b.2.2.1,b.2.2.2.1,x.1.2.2.2.2.2.2.2.1,b_1,b_2,b.2.2.2.2.2.2.2)
theorem q_ag:∀w_g w_L w_d N x,u_ag.F L0 P0 (orcOf [u_g.con w_g,u_L.con w_L,conw_d w_d]) N x=V_ag w_g w_L w_d N x:=by intros;kernel_rfl
def W_ag (N:Nat):=V_ag (W_g N) (W_L N) (W_d N) N
theorem con_ag_ok (N:Nat):(u_ag.con (W_ag N)).ok P0:=Uf.ok mixed (q_ag (W_g N) (W_L N) (W_d N) N) ⟨con_g_ok N,con_L_ok N,con_d_ok N,trivial⟩ Tryz.func138 (by kernel_rfl) fun x y=>by kernel_rfl
def u_aa:Uf:=⟨73,70,Tryz.f73,[.val (.agg T1_),.val (.agg T_),.val (.int .i64)],[],
⟨[(6,.ptr 600006 0),(7,.acc 700069)],[(600006,.box 31 (.val T1_)),(700069,.nrow 46 (.agg T_) false true)]⟩,[],
[],
[],fun y=>(.tup [valW (.agg T1_) y.1,.acc 2000000 0],[],[.nrow 46 false true ⟨(.agg T_),y.2⟩])⟩
def V_aa (w_k:List (Int×Int×Int)×Int→Option (Bool×Int×Int×Int)) (w_aG:A2_→Option (Bool)) (w_K:List Int×Int→Option (Bool)) (w_aQ:A2_→Option (Int)) (w_g:A2_×Int×Int→Option (M_)) (w_v:List (Int×Int×Int)×Int×Int×Int→Option (List (Int×Int×Int)×Bool)) (w_ag:A2_×Int×Int→Option (M_)) (N:Nat) (x:A2_×(M_)×Int):Option (A2_×List (M_)):=
 obind (w_k (x.1.2.2.2.2.2.2.2.2.2.2.2.2,x.2.1.2.1)) fun b=>obind (w_aG x.1) fun b_1=>cnd (!b_1) (obind (w_g (x.1,
 (3:Int),x.2.1.2.1)) fun b=>some (x.1,[b])) (obind (w_K (x.1.2.2.2.2.2.2.1,x.2.1.2.1)) fun b_2=>cnd b_2 (obind (w_g (x.1,
 (3:Int),x.2.1.2.1)) fun b=>some (x.1,[b])) (cnd (!b.1) (obind (w_aQ x.1) fun b=>cnd (decide (b≤(↑(List.length
 x.1.2.2.2.2.2.2.2.2.2.2.2.2):Int))) (obind (w_g (x.1,(3:Int),x.2.1.2.1)) fun b=>some (x.1,[b])) (obind (w_v
 (x.1.2.2.2.2.2.2.2.2.2.2.2.2,x.2.1.2.1,x.2.1.2.2.2.1,x.1.2.2.1)) fun b=>obind (w_ag ((x.1.1,x.1.2.1,x.1.2.2.1,x.1.2.2.2.1,
 x.1.2.2.2.2.1,x.1.2.2.2.2.2.1,x.1.2.2.2.2.2.2.1,x.1.2.2.2.2.2.2.2.1,x.1.2.2.2.2.2.2.2.2.1,x.1.2.2.2.2.2.2.2.2.2.1,x.1.2.2.2.2.2.2.2.2.2.2.1,
 x.1.2.2.2.2.2.2.2.2.2.2.2.1,b.1),(2:Int),x.2.1.2.1)) fun b_3=>some ((x.1.1,x.1.2.1,x.1.2.2.1,x.1.2.2.2.1,x.1.2.2.2.2.1,x.1.2.2.2.2.2.1,
 x.1.2.2.2.2.2.2.1,x.1.2.2.2.2.2.2.2.1,x.1.2.2.2.2.2.2.2.2.1,x.1.2.2.2.2.2.2.2.2.2.1,x.1.2.2.2.2.2.2.2.2.2.2.1,x.1.2.2.2.2.2.2.2.2.2.2.2.1,
 b.1),[(b_3.1,b_3.2.1,b_3.2.2.1,b_3.2.2.2.1,b_3.2.2.2.2.1,b_3.2.2.2.2.2.1,b_3.2.2.2.2.2.2.1,x.2.2,b_3.2.2.2.2.2.2.2.2)]))) (obind
 (w_v (x.1.2.2.2.2.2.2.2.2.2.2.2.2,x.2.1.2.1,x.2.1.2.2.2.1,x.1.2.2.1)) fun b=>obind (w_ag ((x.1.1,x.1.2.1,x.1.2.2.1,
 x.1.2.2.2.1,x.1.2.2.2.2.1,x.1.2.2.2.2.2.1,x.1.2.2.2.2.2.2.1,x.1.2.2.2.2.2.2.2.1,x.1.2.2.2.2.2.2.2.2.1,x.1.2.2.2.2.2.2.2.2.2.1,
 x.1.2.2.2.2.2.2.2.2.2.2.1,x.1.2.2.2.2.2.2.2.2.2.2.2.1,b.1),(2:Int),x.2.1.2.1)) fun b_3=>some ((x.1.1,x.1.2.1,x.1.2.2.1,x.1.2.2.2.1,
 x.1.2.2.2.2.1,x.1.2.2.2.2.2.1,x.1.2.2.2.2.2.2.1,x.1.2.2.2.2.2.2.2.1,x.1.2.2.2.2.2.2.2.2.1,x.1.2.2.2.2.2.2.2.2.2.1,x.1.2.2.2.2.2.2.2.2.2.2.1,
 x.1.2.2.2.2.2.2.2.2.2.2.2.1,b.1),[(b_3.1,b_3.2.1,b_3.2.2.1,b_3.2.2.2.1,b_3.2.2.2.2.1,b_3.2.2.2.2.2.1,b_3.2.2.2.2.2.2.1,x.2.2,
 b_3.2.2.2.2.2.2.2.2)]))))
theorem q_aa:∀w_k w_aG w_K w_aQ w_g w_v w_ag N x,u_aa.F L0 P0 (orcOf [u_k.con w_k,u_aG.con w_aG,u_K.con w_K,u_aQ.con w_aQ,u_g.con w_g,u_v.con w_v,u_ag.con w_ag]) N x=V_aa w_k w_aG w_K w_aQ w_g w_v w_ag N x:=by intros;kernel_rfl
def W_aa (N:Nat):=V_aa (W_k N) (W_aG N) (W_K N) (W_aQ N) (W_g N) (W_v N) (W_ag N) N
theorem con_aa_ok (N:Nat):(u_aa.con (W_aa N)).ok P0:=Uf.ok mixed (q_aa (W_k N) (W_aG N) (W_K N) (W_aQ N) (W_g N) (W_v N) (W_ag N) N) ⟨con_k_ok N,con_aG_ok N,con_K_ok N,con_aQ_ok N,con_g_ok N,con_v_ok N,con_ag_ok N,trivial⟩ Tryz.func73 (by kernel_rfl) fun x y=>by kernel_rfl
def u_w:Uf:=⟨139,20,Tryz.f139,[.val (.list (.int .i64)),.val (.int .i64)],[],
⟨[(4,.val (.list (.int .i64))),(5,.val .bool)],[]⟩,[],
[],
[],fun y=>(.tup [valW (.list (.int .i64)) y.1,valW .bool y.2],[],[])⟩
def V_w (w_d:List Int→Option (List Int)) (w_E:List Int→Option ((List Int)⊕Unit)) (N:Nat) (x:List Int×Int):Option (List Int×Bool):=
 obind (w_d x.1) fun b=>cnd (decide ((List.length b+List.length [x.2])*(8:Nat)≤(140737488355328:Nat))) (obind (w_E (b++[x.2])) fun b=>selim (fun(b:List Int)=>some (b,true)) (fun(c:PUnit)=>some ([],false)) b) none
theorem q_w:∀w_d w_E N x,u_w.F L0 P0 (orcOf [conw_d w_d,u_E.con w_E]) N x=V_w w_d w_E N x:=by intros;kernel_rfl
def W_w (N:Nat):=V_w (W_d N) (W_E N) N
theorem con_w_ok (N:Nat):(u_w.con (W_w N)).ok P0:=Uf.ok mixed (q_w (W_d N) (W_E N) N) ⟨con_d_ok N,con_E_ok N,trivial⟩ Tryz.func139 (by kernel_rfl) fun x y=>by kernel_rfl
def u_q:Uf:=⟨140,9,Tryz.f140,[.val (.agg T1_)],[],
⟨[(2,.ptr 600002 0)],[(600002,.box 31 (.val T1_))]⟩,[],
[],
[],fun y=>(valW (.agg T1_) y,[],[])⟩
def V_q (N:Nat) (x:A2_):Option A2_:=
 some (x.1,x.2.1,x.2.2.1,x.2.2.2.1,x.2.2.2.2.1,x.2.2.2.2.2.1,x.2.2.2.2.2.2.1,x.2.2.2.2.2.2.2.1,x.2.2.2.2.2.2.2.2.1,(0:Int),x.2.2.2.2.2.2.2.2.2.2.1,wr .i64 (x.2.2.2.2.2.2.2.2.2.2.2.1+(1:Int)),x.2.2.2.2.2.2.2.2.2.2.2.2)
theorem q_q:∀N x,u_q.F L0 P0 (orcOf []) N x=V_q N x:=by intros;kernel_rfl
def W_q (N:Nat):=V_q N
theorem con_q_ok (N:Nat):(u_q.con (W_q N)).ok P0:=Uf.ok mixed (q_q N) trivial Tryz.func140 (by kernel_rfl) fun x y=>by kernel_rfl
def u_az:Uf:=⟨173,12,Tryz.f173,[.val (.list (.int .i64))],[],
⟨[(2,.val (.int .i64))],[]⟩,[],
[],
[],fun y=>(valW (.int .i64) y,[],[])⟩
def V_az (N:Nat) (x:List Int):Option (Int):=
 cnd (decide ((↑(List.length x):Int)<(2:Int))) (some (0:Int)) (cnd (decide ((0:Int)≤wr .i64 ((↑(List.length x):Int)-(2:Int)))&&decide (wr
 .i64 ((↑(List.length x):Int)-(2:Int))<(↑(List.length x):Int))) (some (List.getD x (Int.toNat (wr .i64 ((↑(List.length x):Int)-(2:Int))))
 (0:Int))) none)
theorem q_az:∀N x,u_az.F L0 P0 (orcOf []) N x=V_az N x:=by intros;kernel_rfl
def W_az (N:Nat):=V_az N
theorem con_az_ok (N:Nat):(u_az.con (W_az N)).ok P0:=Uf.ok mixed (q_az N) trivial Tryz.func173 (by kernel_rfl) fun x y=>by kernel_rfl
def u_u:Uf:=⟨141,18,Tryz.f141,[.val (.agg T1_),.val (.agg T_),.val (.list (.int .i64))],[],
⟨[(6,.ptr 600006 0)],[(600006,.box 31 (.val T1_))]⟩,[],
[],
[],fun y=>(valW (.agg T1_) y,[],[])⟩
def V_u (w_az:List Int→Option (Int)) (N:Nat) (x:A2_×(M_)×List Int):Option A2_:=
 obind (w_az x.2.1.2.2.2.2.2.2.1) fun b=>cnd (decide (b=(0:Int))) (some (x.1.1,x.1.2.1,x.1.2.2.1,x.1.2.2.2.1,x.1.2.2.2.2.1,(1:Int),x.2.2,x.1.2.2.2.2.2.2.2)) (some (x.1.1,x.1.2.1,x.1.2.2.1,x.1.2.2.2.1,x.1.2.2.2.2.1,b,x.2.2,x.1.2.2.2.2.2.2.2))
theorem q_u:∀w_az N x,u_u.F L0 P0 (orcOf [u_az.con w_az]) N x=V_u w_az N x:=by intros;kernel_rfl
def W_u (N:Nat):=V_u (W_az N) N
theorem con_u_ok (N:Nat):(u_u.con (W_u N)).ok P0:=Uf.ok mixed (q_u (W_az N) N) ⟨con_az_ok N,trivial⟩ Tryz.func141 (by kernel_rfl) fun x y=>by kernel_rfl
def u_7:Uf:=⟨74,83,Tryz.f74,[.val (.agg T1_),.val (.agg T_)],[],
⟨[(4,.ptr 600004 0),(5,.acc 700028)],[(600004,.box 31 (.val T1_)),(700028,.nrow 46 (.agg T_) false true)]⟩,[],
[],
[],fun y=>(.tup [valW (.agg T1_) y.1,.acc 2000000 0],[],[.nrow 46 false true ⟨(.agg T_),y.2⟩])⟩
def V_7 (w_l:A2_×M_→Option (Unit⊕(Unit⊕Unit))) (w_g:A2_×Int×Int→Option (M_)) (w_w:List Int×Int→Option (List Int×Bool)) (w_q:A2_→Option A2_) (w_u:A2_×(M_)×List Int→Option A2_) (N:Nat) (x:A2_×M_):Option (A2_×List (M_)):=
 obind (w_l x) fun b=>selim (fun(b:PUnit)=>some (x.1,[])) (fun(c:PUnit⊕PUnit)=>selim (fun(b_1:PUnit)=>obind (w_g
 (x.1,(6:Int),x.2.2.1)) fun b_2=>selim (fun(b:PUnit)=>some (x.1,[b_2])) (fun(c:PUnit⊕PUnit)=>selim (fun(b:PUnit)=>cnd (decide
 (x.1.2.2.2.1≠(0:Int))) (some (x.1,[b_2])) (obind (w_w (x.2.2.2.2.2.2.2.1,x.1.1)) fun b=>cnd (!b.2) (obind (w_q x.1) fun b=>
 some (b,[b_2])) (cnd (decide ((20:Int)<x.2.2.2.2.2.2.1)) (obind (w_q x.1) fun b=>some (b,[b_2])) (obind (w_u (x.1,x.2,
 b.1)) fun b=>some ((b.1,b.2.1,b.2.2.1,x.2.2.1,x.2.2.2.2.1,b.2.2.2.2.2.1,b.2.2.2.2.2.2.1,x.2.2.2.2.2.1,wr .i64 (b.2.2.1-x.2.2.2.2.2.2.1),
 (0:Int),b.2.2.2.2.2.2.2.2.2.2.1,(0:Int),b.2.2.2.2.2.2.2.2.2.2.2.2),[]))))) (fun(c:PUnit)=>some (x.1,[b_2])) c) b) (fun(c:PUnit)=>
 obind (w_g (x.1,(6:Int),x.2.2.1)) fun b_1=>selim (fun(b:PUnit)=>some (x.1,[b_1])) (fun(c:PUnit⊕PUnit)=>selim (fun(b:
 PUnit)=>cnd (decide (x.1.2.2.2.1≠(0:Int))) (some (x.1,[b_1])) (obind (w_w (x.2.2.2.2.2.2.2.1,x.1.1)) fun b=>cnd (!b.2) (obind
 (w_q x.1) fun b=>some (b,[b_1])) (cnd (decide ((20:Int)<x.2.2.2.2.2.2.1)) (obind (w_q x.1) fun b=>some (b,[b_1])) (obind
 (w_u (x.1,x.2,b.1)) fun b=>some ((b.1,b.2.1,b.2.2.1,x.2.2.1,x.2.2.2.2.1,b.2.2.2.2.2.1,b.2.2.2.2.2.2.1,x.2.2.2.2.2.1,wr .i64
 (b.2.2.1-x.2.2.2.2.2.2.1),(0:Int),b.2.2.2.2.2.2.2.2.2.2.1,(0:Int),b.2.2.2.2.2.2.2.2.2.2.2.2),[]))))) (fun(c:PUnit)=>some (x.1,[b_1]))
 c) b) c) b
theorem q_7:∀w_l w_g w_w w_q w_u N x,u_7.F L0 P0 (orcOf [u_l.con w_l,u_g.con w_g,u_w.con w_w,u_q.con w_q,u_u.con w_u]) N x=V_7 w_l w_g w_w w_q w_u N x:=by intros;kernel_rfl
def W_7 (N:Nat):=V_7 (W_l N) (W_g N) (W_w N) (W_q N) (W_u N) N
theorem con_7_ok (N:Nat):(u_7.con (W_7 N)).ok P0:=Uf.ok mixed (q_7 (W_l N) (W_g N) (W_w N) (W_q N) (W_u N) N) ⟨con_l_ok N,con_g_ok N,con_w_ok N,con_q_ok N,con_u_ok N,trivial⟩ Tryz.func74 (by kernel_rfl) fun x y=>by kernel_rfl
def u_8:Uf:=⟨75,30,Tryz.f75,[.val (.agg T1_),.val (.agg T_)],[],
⟨[(4,.ptr 600004 0)],[(600004,.box 31 (.val T1_))]⟩,[],
[],
[],fun y=>(valW (.agg T1_) y,[],[])⟩
def V_8 (w_l:A2_×M_→Option (Unit⊕(Unit⊕Unit))) (w_q:A2_→Option A2_) (w_o:A2_×Int→Option A2_) (N:Nat) (x:A2_×M_):Option A2_:=
 obind (w_l x) fun b=>selim (fun(b_1:PUnit)=>selim (fun(b:PUnit)=>obind (w_o (x.1,(0:Int))) fun b=>some b) (fun(c:
 PUnit⊕PUnit)=>selim (fun(b:PUnit)=>some x.1) (fun(c:PUnit)=>some x.1) c) b) (fun(c:PUnit⊕PUnit)=>selim (fun(b:PUnit)=>
 obind (w_q x.1) fun b=>some b) (fun(c:PUnit)=>selim (fun(b:PUnit)=>obind (w_o (x.1,(0:Int))) fun b=>some b) (fun
 (c:PUnit⊕PUnit)=>selim (fun(b:PUnit)=>some x.1) (fun(c:PUnit)=>some x.1) c) b) c) b
theorem q_8:∀w_l w_q w_o N x,u_8.F L0 P0 (orcOf [u_l.con w_l,u_q.con w_q,u_o.con w_o]) N x=V_8 w_l w_q w_o N x:=by intros;kernel_rfl
def W_8 (N:Nat):=V_8 (W_l N) (W_q N) (W_o N) N
theorem con_8_ok (N:Nat):(u_8.con (W_8 N)).ok P0:=Uf.ok mixed (q_8 (W_l N) (W_q N) (W_o N) N) ⟨con_l_ok N,con_q_ok N,con_o_ok N,trivial⟩ Tryz.func75 (by kernel_rfl) fun x y=>by kernel_rfl
def u_6:Uf:=⟨76,39,Tryz.f76,[.val (.agg T1_),.val (.agg T_)],[],
⟨[(4,.ptr 600004 0),(5,.acc 700023)],[(600004,.box 31 (.val T1_)),(700023,.nrow 46 (.agg T_) false true)]⟩,[],
[],
[],fun y=>(.tup [valW (.agg T1_) y.1,.acc 2000000 0],[],[.nrow 46 false true ⟨(.agg T_),y.2⟩])⟩
def V_6 (w_k:List (Int×Int×Int)×Int→Option (Bool×Int×Int×Int)) (w_g:A2_×Int×Int→Option (M_)) (w_v:List (Int×Int×Int)×Int×Int×Int→Option (List (Int×Int×Int)×Bool)) (N:Nat) (x:A2_×M_):Option (A2_×List (M_)):=
 obind (w_k (x.1.2.2.2.2.2.2.2.2.2.2.2.2,x.2.2.1)) fun b=>cnd (!b.1) (obind (w_g (x.1,(3:Int),x.2.2.1)) fun b=>some (x.1,
 [b])) (obind (w_v (x.1.2.2.2.2.2.2.2.2.2.2.2.2,x.2.2.1,x.2.2.2.2.1,x.1.2.2.1)) fun b=>some ((x.1.1,x.1.2.1,x.1.2.2.1,x.1.2.2.2.1,
 x.1.2.2.2.2.1,x.1.2.2.2.2.2.1,x.1.2.2.2.2.2.2.1,x.1.2.2.2.2.2.2.2.1,x.1.2.2.2.2.2.2.2.2.1,x.1.2.2.2.2.2.2.2.2.2.1,x.1.2.2.2.2.2.2.2.2.2.2.1,
 x.1.2.2.2.2.2.2.2.2.2.2.2.1,b.1),[]))
theorem q_6:∀w_k w_g w_v N x,u_6.F L0 P0 (orcOf [u_k.con w_k,u_g.con w_g,u_v.con w_v]) N x=V_6 w_k w_g w_v N x:=by intros;kernel_rfl
def W_6 (N:Nat):=V_6 (W_k N) (W_g N) (W_v N) N
theorem con_6_ok (N:Nat):(u_6.con (W_6 N)).ok P0:=Uf.ok mixed (q_6 (W_k N) (W_g N) (W_v N) N) ⟨con_k_ok N,con_g_ok N,con_v_ok N,trivial⟩ Tryz.func76 (by kernel_rfl) fun x y=>by kernel_rfl
def u_9:Uf:=⟨77,60,Tryz.f77,[.val (.agg T1_),.val (.agg T_)],[],
⟨[(4,.ptr 600004 0),(5,.acc 700016)],[(600004,.box 31 (.val T1_)),(700016,.nrow 46 (.agg T_) false true)]⟩,[],
[],
[],fun y=>(.tup [valW (.agg T1_) y.1,.acc 2000000 0],[],[.nrow 46 false true ⟨(.agg T_),y.2⟩])⟩
def V_9 (w_g:A2_×Int×Int→Option (M_)) (w_l:A2_×M_→Option (Unit⊕(Unit⊕Unit))) (w_w:List Int×Int→Option (List Int×Bool)) (w_o:A2_×Int→Option A2_) (w_u:A2_×(M_)×List Int→Option A2_) (N:Nat) (x:A2_×M_):Option (A2_×List (M_)):=
 obind (w_g (x.1,(6:Int),x.2.2.1)) fun b=>obind (w_l x) fun b_1=>selim (fun(b_2:PUnit)=>obind (w_w
 (x.2.2.2.2.2.2.2.1,x.1.1)) fun b_3=>cnd (!b_3.2) (obind (w_o (x.1,(1:Int))) fun b_4=>some (b_4,[b])) (obind (w_u (x.1,
 x.2,b_3.1)) fun b=>cnd (decide (b.2.2.2.2.2.2.2.2.1<wr .i64 (b.2.2.1-x.2.2.2.2.2.2.1))) (some ((b.1,b.2.1,b.2.2.1,b.2.2.2.1,b.2.2.2.2.1,
 b.2.2.2.2.2.1,b.2.2.2.2.2.2.1,x.2.2.2.2.2.1,wr .i64 (b.2.2.1-x.2.2.2.2.2.2.1),b.2.2.2.2.2.2.2.2.2),[])) (some (b,[])))) (fun(c:PUnit ⊕
 PUnit)=>selim (fun(b_2:PUnit)=>some (x.1,[b])) (fun(c:PUnit)=>some (x.1,[b])) c) b_1
theorem q_9:∀w_g w_l w_w w_o w_u N x,u_9.F L0 P0 (orcOf [u_g.con w_g,u_l.con w_l,u_w.con w_w,u_o.con w_o,u_u.con w_u]) N x=V_9 w_g w_l w_w w_o w_u N x:=by intros;kernel_rfl
def W_9 (N:Nat):=V_9 (W_g N) (W_l N) (W_w N) (W_o N) (W_u N) N
theorem con_9_ok (N:Nat):(u_9.con (W_9 N)).ok P0:=Uf.ok mixed (q_9 (W_g N) (W_l N) (W_w N) (W_o N) (W_u N) N) ⟨con_g_ok N,con_l_ok N,con_w_ok N,con_o_ok N,con_u_ok N,trivial⟩ Tryz.func77 (by kernel_rfl) fun x y=>by kernel_rfl
def u_B:Uf:=⟨143,8,Tryz.f143,[.val T3_,.ptr 0 0],[.box 3 (.int .i64)],
⟨[(1,.ptr 1000000 0),(3,.val .bool)],[(1000000,.box 3 (.val (.int .i64)))]⟩,[true],
[],
[],fun y=>(valW .bool y.1,[.box 3 (cellsW (.int .i64) y.2)],[])⟩
def V_B (N:Nat) (x:(Int×Int×Int)×Int):Option (Bool×Int):=
 some (decide (x.1.1=x.2),x.2)
theorem q_B:∀N x,u_B.F L0 P0 (orcOf []) N x=V_B N x:=by intros;kernel_rfl
def W_B (N:Nat):=V_B N
theorem con_B_ok (N:Nat):(u_B.con (W_B N)).ok P0:=Uf.ok mixed (q_B N) trivial Tryz.func143 (by kernel_rfl) fun x y=>by kernel_rfl
def u_am:Uf:=⟨174,19,Tryz.f174,[.val (.list T3_),.fn 143 [0]],[.box 3 (.int .i64)],
⟨[(1,.fn 143 [1000000]),(4,.val (.int .i64))],[(1000000,.box 3 (.val (.int .i64)))]⟩,[true],
[(2,.loop [] ⟨[(1,.fn 143 [1000000]),(8,.val (.int .i64))],[(1000000,.box 3 (.val (.int .i64)))]⟩ [(.exit 0,⟨[(1,.fn 143 [1000000])],[(1000000,.box 3 (.val (.int .i64)))]⟩),(.ret,⟨[(1,.fn 143 [1000000]),(4,.val (.int .i64))],[(1000000,.box 3 (.val (.int .i64)))]⟩)])],
[],fun y=>(valW (.int .i64) y.1,[.box 3 (cellsW (.int .i64) y.2)],[])⟩
def V_am (w_B:(Int×Int×Int)×Int→Option (Bool×Int)) (N:Nat) (x:List (Int×Int×Int)×Int):Option (Int×Int):=
 obind (loopN N (fun(v:Int×Int)=>cnd (decide (v.1<(↑(List.length x.1):Int))) (cnd (decide ((0:Int)≤v.1)&&decide (v.1<(↑(List.length
 x.1):Int))) (obind (w_B ((Prod.fst (List.getD x.1 (Int.toNat v.1) ((0:Int),(0:Int),(0:Int))),Prod.fst (Prod.snd (List.getD x.1
 (Int.toNat v.1) ((0:Int),(0:Int),(0:Int)))),Prod.snd (Prod.snd (List.getD x.1 (Int.toNat v.1) ((0:Int),(0:Int),(0:Int))))),v.2)) fun b=>cnd
 b.1 (some (Sum.inr (Sum.inr (v.1,b.2)))) (some (Sum.inl (wr .i64 (v.1+(1:Int)),b.2)))) none) (some (Sum.inr (Sum.inl v.2)))) ((0:Int),x.2)) fun
 (b:Int⊕Int×Int)=>selim (fun(b:Int)=>some ((-1:Int),b)) (fun(c:Int×Int)=>some c) b
theorem q_am:∀w_B N x,u_am.F L0 P0 (orcOf [u_B.con w_B]) N x=V_am w_B N x:=by intros;kernel_rfl
def W_am (N:Nat):=V_am (W_B N) N
theorem con_am_ok (N:Nat):(u_am.con (W_am N)).ok P0:=Uf.ok mixed (q_am (W_B N) N) ⟨con_B_ok N,trivial⟩ Tryz.func174 (by kernel_rfl) fun x y=>by kernel_rfl
def u_al:Uf:=⟨142,42,Tryz.f142,[.acc 0,.fn 143 [1]],[.nrow 53 T3_ true,.box 3 (.int .i64)],
⟨[(1,.fn 143 [1000001]),(4,.val (.list T3_))],[(1000001,.box 3 (.val (.int .i64)))]⟩,[false,true],
[(5,.loop [] ⟨[(0,.acc 1000000),(1,.fn 143 [1000001]),(5,.val (.int .i64)),(6,.val (.int .i64))],[(1000000,.nrow 53 T3_ false true),(1000001,.box 3 (.val (.int .i64)))]⟩ [(.exit 0,⟨[(0,.acc 1000000),(1,.fn 143 [1000001]),(5,.val (.int .i64))],[(1000000,.nrow 53 T3_ false true),(1000001,.box 3 (.val (.int .i64)))]⟩)])],
[],fun y=>(valW (.list T3_) y.1,[.dead,.box 3 (cellsW (.int .i64) y.2)],[])⟩
def V_al (w_am:List (Int×Int×Int)×Int→Option (Int×Int)) (w_B:(Int×Int×Int)×Int→Option (Bool×Int)) (N:Nat) (x:List (Int×Int×Int)×Int):Option (List (Int×Int×Int)×Int):=
 obind (w_am x) fun b=>cnd (decide (b.1=(-1:Int))) (some (x.1,b.2)) (obind (loopN N (fun(v:Int×Int×List (Int×Int×Int)×Int)=>cnd (decide (v.2.1<(↑(List.length v.2.2.1):Int))) (cnd (decide ((0:Int)≤v.2.1)&&decide (v.2.1 <
 (↑(List.length v.2.2.1):Int))) (obind (w_B ((Prod.fst (List.getD v.2.2.1 (Int.toNat v.2.1) ((0:Int),(0:Int),(0:Int))),Prod.fst
 (Prod.snd (List.getD v.2.2.1 (Int.toNat v.2.1) ((0:Int),(0:Int),(0:Int)))),Prod.snd (Prod.snd (List.getD v.2.2.1 (Int.toNat v.2.1) ((0:Int),
 (0:Int),(0:Int))))),v.2.2.2)) fun b=>cnd (!b.1) (cnd (decide ((0:Int)≤v.1)&&decide (v.1<(↑(List.length v.2.2.1):Int))) (some (Sum.inl
 (wr .i64 (v.1+(1:Int)),wr .i64 (v.2.1+(1:Int)),putL v.2.2.1 [(Prod.fst (List.getD v.2.2.1 (Int.toNat v.2.1) ((0:Int),(0:Int),(0:Int))),
 Prod.fst (Prod.snd (List.getD v.2.2.1 (Int.toNat v.2.1) ((0:Int),(0:Int),(0:Int)))),Prod.snd (Prod.snd (List.getD v.2.2.1 (Int.toNat v.2.1)
 ((0:Int),(0:Int),(0:Int)))))] (Int.toNat v.1),b.2))) none) (some (Sum.inl (v.1,wr .i64 (v.2.1+(1:Int)),v.2.2.1,b.2)))) none) (some (Sum.inr
 (v.1,v.2.2)))) (b.1,wr .i64 (b.1+(1:Int)),x.1,b.2)) fun(b:Int×List (Int×Int×Int)×Int)=>cnd (decide ((0:Int)≤Option.getD (some
 b.1) (0:Int))) (cnd (decide (Option.getD (some b.1) (0:Int)≤(↑(List.length b.2.1):Int))) (cnd (decide (Option.getD none (0:Int)≤b.1)) (cnd
 (decide ((↑(0:Nat):Int)+b.1≤(↑(List.length (putL b.2.1 (List.replicate (Prod.snd (Prod.snd (cutT (0:Nat) (List.length b.2.1) (List.length
 b.2.1) (some b.1) none))-Prod.fst (Prod.snd (cutT (0:Nat) (List.length b.2.1) (List.length b.2.1) (some b.1) none))) ((0:Int),(0:Int),(0:Int)))
 ((0:Nat)+Prod.fst (Prod.snd (cutT (0:Nat) (List.length b.2.1) (List.length b.2.1) (some b.1) none))))):Int))) (some (List.drop ((0:Nat) +
 Prod.fst (Prod.snd (cutT (0:Nat) (List.length (putL b.2.1 (List.replicate (Prod.snd (Prod.snd (cutT (0:Nat) (List.length b.2.1) (List.length b.2.1)
 (some b.1) none))-Prod.fst (Prod.snd (cutT (0:Nat) (List.length b.2.1) (List.length b.2.1) (some b.1) none))) ((0:Int),(0:Int),(0:Int)))
 ((0:Nat)+Prod.fst (Prod.snd (cutT (0:Nat) (List.length b.2.1) (List.length b.2.1) (some b.1) none))))) (List.length (putL b.2.1 (List.replicate
 (Prod.snd (Prod.snd (cutT (0:Nat) (List.length b.2.1) (List.length b.2.1) (some b.1) none))-Prod.fst (Prod.snd (cutT (0:Nat) (List.length b.2.1)
 (List.length b.2.1) (some b.1) none))) ((0:Int),(0:Int),(0:Int))) ((0:Nat)+Prod.fst (Prod.snd (cutT (0:Nat) (List.length b.2.1) (List.length
 b.2.1) (some b.1) none))))) none (some b.1)))) (List.take ((0:Nat)+Prod.fst (Prod.snd (cutT (0:Nat) (List.length (putL b.2.1 (List.replicate
 (Prod.snd (Prod.snd (cutT (0:Nat) (List.length b.2.1) (List.length b.2.1) (some b.1) none))-Prod.fst (Prod.snd (cutT (0:Nat) (List.length b.2.1)
 (List.length b.2.1) (some b.1) none))) ((0:Int),(0:Int),(0:Int))) ((0:Nat)+Prod.fst (Prod.snd (cutT (0:Nat) (List.length b.2.1) (List.length
 b.2.1) (some b.1) none))))) (List.length (putL b.2.1 (List.replicate (Prod.snd (Prod.snd (cutT (0:Nat) (List.length b.2.1) (List.length b.2.1) (some
 b.1) none))-Prod.fst (Prod.snd (cutT (0:Nat) (List.length b.2.1) (List.length b.2.1) (some b.1) none))) ((0:Int),(0:Int),(0:Int))) ((0:Nat) +
 Prod.fst (Prod.snd (cutT (0:Nat) (List.length b.2.1) (List.length b.2.1) (some b.1) none))))) none (some b.1)))+(Prod.snd (Prod.snd (cutT (0:Nat)
 (List.length (putL b.2.1 (List.replicate (Prod.snd (Prod.snd (cutT (0:Nat) (List.length b.2.1) (List.length b.2.1) (some b.1) none))-Prod.fst
 (Prod.snd (cutT (0:Nat) (List.length b.2.1) (List.length b.2.1) (some b.1) none))) ((0:Int),(0:Int),(0:Int))) ((0:Nat)+Prod.fst (Prod.snd (cutT
 (0:Nat) (List.length b.2.1) (List.length b.2.1) (some b.1) none))))) (List.length (putL b.2.1 (List.replicate (Prod.snd (Prod.snd (cutT (0:Nat)
 (List.length b.2.1) (List.length b.2.1) (some b.1) none))-Prod.fst (Prod.snd (cutT (0:Nat) (List.length b.2.1) (List.length b.2.1) (some b.1)
 none))) ((0:Int),(0:Int),(0:Int))) ((0:Nat)+Prod.fst (Prod.snd (cutT (0:Nat) (List.length b.2.1) (List.length b.2.1) (some b.1) none))))) none
 (some b.1)))-Prod.fst (Prod.snd (cutT (0:Nat) (List.length (putL b.2.1 (List.replicate (Prod.snd (Prod.snd (cutT (0:Nat) (List.length b.2.1)
 (List.length b.2.1) (some b.1) none))-Prod.fst (Prod.snd (cutT (0:Nat) (List.length b.2.1) (List.length b.2.1) (some b.1) none))) ((0:Int),
 (0:Int),(0:Int))) ((0:Nat)+Prod.fst (Prod.snd (cutT (0:Nat) (List.length b.2.1) (List.length b.2.1) (some b.1) none))))) (List.length (putL b.2.1
 (List.replicate (Prod.snd (Prod.snd (cutT (0:Nat) (List.length b.2.1) (List.length b.2.1) (some b.1) none))-Prod.fst (Prod.snd (cutT (0:Nat)
 (List.length b.2.1) (List.length b.2.1) (some b.1) none))) ((0:Int),(0:Int),(0:Int))) ((0:Nat)+Prod.fst (Prod.snd (cutT (0:Nat) (List.length
 b.2.1) (List.length b.2.1) (some b.1) none))))) none (some b.1))))) (putL b.2.1 (List.replicate (Prod.snd (Prod.snd (cutT (0:Nat) (List.length
 b.2.1) (List.length b.2.1) (some b.1) none))-Prod.fst (Prod.snd (cutT (0:Nat) (List.length b.2.1) (List.length b.2.1) (some b.1) none))) ((0:Int),
 (0:Int),(0:Int))) ((0:Nat)+Prod.fst (Prod.snd (cutT (0:Nat) (List.length b.2.1) (List.length b.2.1) (some b.1) none))))),b.2.2)) none) none)
 none) none)
theorem q_al:∀w_am w_B N x,u_al.F L0 P0 (orcOf [u_am.con w_am,u_B.con w_B]) N x=V_al w_am w_B N x:=by intros;kernel_rfl
def W_al (N:Nat):=V_al (W_am N) (W_B N) N
theorem con_al_ok (N:Nat):(u_al.con (W_al N)).ok P0:=Uf.ok mixed (q_al (W_am N) (W_B N) N) ⟨con_am_ok N,con_B_ok N,trivial⟩ Tryz.func142 (by kernel_rfl) fun x y=>by kernel_rfl
def u_ab:Uf:=⟨78,9,Tryz.f78,[.val (.list T3_),.val (.int .i64)],[],
⟨[(4,.val (.list T3_))],[]⟩,[],
[],
[],fun y=>(valW (.list T3_) y,[],[])⟩
def V_ab (w_e:List (Int×Int×Int)→Option (List (Int×Int×Int))) (w_al:List (Int×Int×Int)×Int→Option (List (Int×Int×Int)×Int)) (N:Nat) (x:List (Int×Int×Int)×Int):Option (List (Int×Int×Int)):=
 obind (w_e x.1) fun b=>obind (w_al (b,x.2)) fun b=>some b.1
theorem q_ab:∀w_e w_al N x,u_ab.F L0 P0 (orcOf [conw_e w_e,u_al.con w_al]) N x=V_ab w_e w_al N x:=by intros;kernel_rfl
def W_ab (N:Nat):=V_ab (W_e N) (W_al N) N
theorem con_ab_ok (N:Nat):(u_ab.con (W_ab N)).ok P0:=Uf.ok mixed (q_ab (W_e N) (W_al N) N) ⟨con_e_ok N,con_al_ok N,trivial⟩ Tryz.func78 (by kernel_rfl) fun x y=>by kernel_rfl
def u_aI:Uf:=⟨38,93,Tryz.f38,[.val (.agg T1_),.val (.agg T_),.val (.int .i64)],[],
⟨[(6,.ptr 600006 0),(7,.acc 700083)],[(600006,.box 31 (.val T1_)),(700083,.nrow 46 (.agg T_) false true)]⟩,[],
[],
[(7,.cut [] [(.normal,⟨[(4,.ptr 600004 0),(6,.ptr 600006 0),(8,.ptr 600008 0)],[(600004,.box 46 (.val T_)),(600006,.box 31 (.val T1_)),(600008,.box 31 (.val T1_))]⟩)])],fun y=>(.tup [valW (.agg T1_) y.1,.acc 2000000 0],[],[.nrow 46 false true ⟨(.agg T_),y.2⟩])⟩
def V_aI (w_t:A2_→Option A2_) (w_l:A2_×M_→Option (Unit⊕(Unit⊕Unit))) (w_s:List (Int×Int×Int)×Int×Int→Option (Bool)) (w_o:A2_×Int→Option A2_) (w_aa:A2_×(M_)×Int→Option (A2_×List (M_))) (w_7:A2_×M_→Option (A2_×List (M_))) (w_8:A2_×M_→Option A2_) (w_6:A2_×M_→Option (A2_×List (M_))) (w_9:A2_×M_→Option (A2_×List (M_))) (w_ab:List (Int×Int×Int)×Int→Option (List (Int×Int×Int))) (N:Nat) (x:A2_×(M_)×Int):Option (A2_×List (M_)):=
 obind (w_t x.1) fun b=>obind (w_l (b,x.2.1)) fun b_1=>selim (fun(b_2:PUnit)=>obind (w_s (b.2.2.2.2.2.2.2.2.2.2.2.2,
 x.2.1.2.1,x.2.1.2.2.2.1)) fun b_3=>cnd b_3 (some (b,[])) (cnd (decide (x.2.1.2.2.2.1<b.2.2.2.2.1)) (some (b,[])) (obind (cnd (decide
 (b.2.2.2.2.1<x.2.1.2.2.2.1)) (obind (w_o (b,(0:Int))) fun b=>some (x.2.1,((0:Int),(0:Int),(0:Int),(0:Int),(0:Int),(0:Int),[],
 (0:Int),(0:Int),(0:Int),(0:Int),(0:Int),[]),b)) (some (x.2.1,((0:Int),(0:Int),(0:Int),(0:Int),(0:Int),(0:Int),[],(0:Int),(0:Int),
 (0:Int),(0:Int),(0:Int),[]),b))) fun(b:A3_×A2_×A2_)=>cnd (decide (b.1.1=(1:Int))) (obind (w_aa (b.2.2,b.1,x.2.2)) fun b=>some b) (cnd (decide (b.1.1=
 (2:Int))) (obind (w_7 (b.2.2,b.1)) fun b=>some b) (cnd (decide (b.1.1=(3:Int))) (obind (w_8 (b.2.2,b.1)) fun b=>some
 (b,[])) (cnd (decide (b.1.1=(4:Int))) (obind (w_6 (b.2.2,b.1)) fun b=>some b) (cnd (decide (b.1.1=(5:Int))) (obind (w_9 (b.2.2,b.1)) fun b=>some b) (cnd (decide (b.1.1=(6:Int))) (obind (w_ab (b.2.2.2.2.2.2.2.2.2.2.2.2.2.2,b.1.2.1)) fun b_4=>some
 ((b.2.2.1,b.2.2.2.1,b.2.2.2.2.1,b.2.2.2.2.2.1,b.2.2.2.2.2.2.1,b.2.2.2.2.2.2.2.1,b.2.2.2.2.2.2.2.2.1,b.2.2.2.2.2.2.2.2.2.1,
 b.2.2.2.2.2.2.2.2.2.2.1,b.2.2.2.2.2.2.2.2.2.2.2.1,b.2.2.2.2.2.2.2.2.2.2.2.2.1,b.2.2.2.2.2.2.2.2.2.2.2.2.2.1,b_4),[])) (some (b.2.2,
 [])))))))))) (fun(c:PUnit⊕PUnit)=>selim (fun(b_2:PUnit)=>obind (w_s (b.2.2.2.2.2.2.2.2.2.2.2.2,x.2.1.2.1,x.2.1.2.2.2.1)) fun
 b_3=>cnd b_3 (some (b,[])) (cnd (decide (x.2.1.1=(1:Int))) (obind (w_aa (b,x.2)) fun b=>some b) (cnd (decide (x.2.1.1=(2:Int)))
 (obind (w_7 (b,x.2.1)) fun b=>some b) (cnd (decide (x.2.1.1=(3:Int))) (obind (w_8 (b,x.2.1)) fun b=>some (b,[])) (cnd
 (decide (x.2.1.1=(4:Int))) (obind (w_6 (b,x.2.1)) fun b=>some b) (cnd (decide (x.2.1.1=(5:Int))) (obind (w_9 (b,
 x.2.1)) fun b=>some b) (cnd (decide (x.2.1.1=(6:Int))) (obind (w_ab (b.2.2.2.2.2.2.2.2.2.2.2.2,x.2.1.2.1)) fun b_4=>some ((b.1,
 b.2.1,b.2.2.1,b.2.2.2.1,b.2.2.2.2.1,b.2.2.2.2.2.1,b.2.2.2.2.2.2.1,b.2.2.2.2.2.2.2.1,b.2.2.2.2.2.2.2.2.1,b.2.2.2.2.2.2.2.2.2.1,
 b.2.2.2.2.2.2.2.2.2.2.1,b.2.2.2.2.2.2.2.2.2.2.2.1,b_4),[])) (some (b,[]))))))))) (fun(c:PUnit)=>obind (w_s
 (b.2.2.2.2.2.2.2.2.2.2.2.2,x.2.1.2.1,x.2.1.2.2.2.1)) fun b_2=>cnd b_2 (some (b,[])) (cnd (decide (x.2.1.1=(1:Int))) (obind (w_aa
 (b,x.2)) fun b=>some b) (cnd (decide (x.2.1.1=(2:Int))) (obind (w_7 (b,x.2.1)) fun b=>some b) (cnd (decide (x.2.1.1=(3:Int)))
 (obind (w_8 (b,x.2.1)) fun b=>some (b,[])) (cnd (decide (x.2.1.1=(4:Int))) (obind (w_6 (b,x.2.1)) fun b=>some b) (cnd
 (decide (x.2.1.1=(5:Int))) (obind (w_9 (b,x.2.1)) fun b=>some b) (cnd (decide (x.2.1.1=(6:Int))) (obind (w_ab
 (b.2.2.2.2.2.2.2.2.2.2.2.2,x.2.1.2.1)) fun b_3=>some ((b.1,b.2.1,b.2.2.1,b.2.2.2.1,b.2.2.2.2.1,b.2.2.2.2.2.1,b.2.2.2.2.2.2.1,
 b.2.2.2.2.2.2.2.1,b.2.2.2.2.2.2.2.2.1,b.2.2.2.2.2.2.2.2.2.1,b.2.2.2.2.2.2.2.2.2.2.1,b.2.2.2.2.2.2.2.2.2.2.2.1,b_3),[])) (some (b,[])))))))))
 c) b_1
theorem q_aI:∀w_t w_l w_s w_o w_aa w_7 w_8 w_6 w_9 w_ab N x,u_aI.F L0 P0 (orcOf [u_t.con w_t,u_l.con w_l,u_s.con w_s,u_o.con w_o,u_aa.con w_aa,u_7.con w_7,u_8.con w_8,u_6.con w_6,u_9.con w_9,u_ab.con w_ab]) N x=V_aI w_t w_l w_s w_o w_aa w_7 w_8 w_6 w_9 w_ab N x:=by intros;kernel_rfl
def W_aI (N:Nat):=V_aI (W_t N) (W_l N) (W_s N) (W_o N) (W_aa N) (W_7 N) (W_8 N) (W_6 N) (W_9 N) (W_ab N) N
theorem con_aI_ok (N:Nat):(u_aI.con (W_aI N)).ok P0:=Uf.ok mixed (q_aI (W_t N) (W_l N) (W_s N) (W_o N) (W_aa N) (W_7 N) (W_8 N) (W_6 N) (W_9 N) (W_ab N) N) ⟨con_t_ok N,con_l_ok N,con_s_ok N,con_o_ok N,con_aa_ok N,con_7_ok N,con_8_ok N,con_6_ok N,con_9_ok N,con_ab_ok N,trivial⟩ Tryz.func38 (by kernel_rfl) fun x y=>by kernel_rfl
def u_aK:Uf:=⟨175,23,Tryz.f175,[.val (.list T5_),.val (.int .i64)],[],
⟨[(4,.val (.alt 224 .str (.alt1 239 (.agg .unit))))],[]⟩,[],
[(2,.loop [7] ⟨[(9,.val (.int .i64))],[]⟩ [(.exit 0,⟨[],[]⟩),(.ret,⟨[(4,.val (.alt 224 .str (.alt1 239 (.agg .unit))))],[]⟩)])],
[],fun y=>(valW (.alt 224 .str (.alt1 239 (.agg .unit))) y,[],[])⟩
def V_aK (N:Nat) (x:List (Int×List UInt8)×Int):Option ((List UInt8)⊕Unit):=
 obind (loopN N (fun(v:Int)=>cnd (decide (v<(↑(List.length x.1):Int))) (cnd (decide ((0:Int)≤v)&&decide (v<(↑(List.length x.1):Int)))
 (cnd (decide (Prod.fst (List.getD x.1 (Int.toNat v) ((0:Int),[]))=x.2)) (some (Sum.inr (Sum.inr (Sum.inl (Prod.snd (List.getD x.1 (Int.toNat v)
 ((0:Int),[]))))))) (some (Sum.inl (wr .i64 (v+(1:Int)))))) none) (some (Sum.inr (Sum.inl ())))) (Int.ofNat (0:Nat))) fun(b:PUnit⊕List UInt8
 ⊕ PUnit)=>selim (fun(b:PUnit)=>some (Sum.inr ())) (fun(c:List UInt8⊕PUnit)=>some c) b
theorem q_aK:∀N x,u_aK.F L0 P0 (orcOf []) N x=V_aK N x:=by intros;kernel_rfl
def W_aK (N:Nat):=V_aK N
theorem con_aK_ok (N:Nat):(u_aK.con (W_aK N)).ok P0:=Uf.ok mixed (q_aK N) trivial Tryz.func175 (by kernel_rfl) fun x y=>by kernel_rfl
def u_aP:Uf:=⟨145,17,Tryz.f145,[.val (.list T5_),.val (.int .i64)],[],
⟨[(4,.val .str),(5,.val .bool)],[]⟩,[],
[],
[],fun y=>(.tup [valW .str y.1,valW .bool y.2],[],[])⟩
def V_aP (w_aK:List (Int×List UInt8)×Int→Option ((List UInt8)⊕Unit)) (N:Nat) (x:List (Int×List UInt8)×Int):Option (List UInt8×Bool):=
 obind (w_aK x) fun b=>selim (fun(b:List UInt8)=>some (b,true)) (fun(c:PUnit)=>some ([],false)) b
theorem q_aP:∀w_aK N x,u_aP.F L0 P0 (orcOf [u_aK.con w_aK]) N x=V_aP w_aK N x:=by intros;kernel_rfl
def W_aP (N:Nat):=V_aP (W_aK N) N
theorem con_aP_ok (N:Nat):(u_aP.con (W_aP N)).ok P0:=Uf.ok mixed (q_aP (W_aK N) N) ⟨con_aK_ok N,trivial⟩ Tryz.func145 (by kernel_rfl) fun x y=>by kernel_rfl
def u_ay:Uf:=⟨80,70,Tryz.f80,[.val (.agg T2_),.val (.int .i64),.val (.int .i64)],[],
⟨[(6,.val (.list T5_)),(7,.val (.list T6_))],[]⟩,[],
[(4,.loop [] ⟨[(3,.ptr 600003 0),(6,.acc 700006),(7,.acc 700007),(8,.val (.int .i64))],[(600003,.box 37 (.val T2_)),(700006,.nrow 69 T5_ true true),(700007,.nrow 101 T6_ false true)]⟩ [(.exit 0,⟨[(6,.val (.list T5_)),(7,.val (.list T6_))],[]⟩)])],
[],fun y=>(.tup [valW (.list T5_) y.1,valW (.list T6_) y.2],[],[])⟩
def V_ay (w_aP:List (Int×List UInt8)×Int→Option (List UInt8×Bool)) (N:Nat) (x:A1_×Int×Int):Option (List (Int×List UInt8)×List (Int×Int)):=
 cnd (decide (x.1.1<(1:Int))) (some ([],[])) (obind (loopN N (fun(v:Int×A1_×List (Int×List UInt8)×List (Int×Int))=>cnd (decide (v.1≤min (min x.2.2 (wr .i64
 (v.2.1.1-(1:Int)))) (wr .i64 (wr .i64 (x.2.1+(8:Int))-(1:Int))))) (obind (w_aP (v.2.1.2.2.1,v.1)) fun b=>cnd b.2 (cnd (decide
 ((List.length v.2.2.1+List.length [(v.1,b.1)])*(24:Nat)≤(140737488355328:Nat))) (some (Sum.inl (wr .i64 (v.1+(1:Int)),v.2.1,v.2.2.1++
 [(v.1,b.1)],v.2.2.2))) none) (cnd (decide ((0:Int)≤wr .i64 ((↑(List.length v.2.2.2):Int)-(1:Int)))) (cnd (decide ((0:Int)≤wr .i64
 ((↑(List.length v.2.2.2):Int)-(1:Int)))&&decide (wr .i64 ((↑(List.length v.2.2.2):Int)-(1:Int))<(↑(List.length v.2.2.2):Int))) (cnd
 (decide (Prod.snd (List.getD v.2.2.2 (Int.toNat (wr .i64 ((↑(List.length v.2.2.2):Int)-(1:Int)))) ((0:Int),(0:Int)))=wr .i64 (v.1 -
 (1:Int)))) (cnd (decide ((0:Int)≤wr .i64 ((↑(List.length v.2.2.2):Int)-(1:Int)))&&decide (wr .i64 ((↑(List.length v.2.2.2):Int)-(1:Int))
 < (↑(List.length v.2.2.2):Int))) (some (Sum.inl (wr .i64 (v.1+(1:Int)),v.2.1,v.2.2.1,putL v.2.2.2 [(Prod.fst (List.getD v.2.2.2 (Int.toNat
 (wr .i64 ((↑(List.length v.2.2.2):Int)-(1:Int)))) ((0:Int),(0:Int))),v.1)] (Int.toNat (wr .i64 ((↑(List.length v.2.2.2):Int)-(1:Int)))))))
 none) (cnd (decide ((List.length v.2.2.2+List.length [(v.1,v.1)])*(16:Nat)≤(140737488355328:Nat))) (some (Sum.inl (wr .i64 (v.1+(1:Int)),
 v.2.1,v.2.2.1,v.2.2.2++[(v.1,v.1)]))) none)) none) (cnd (decide ((List.length v.2.2.2+List.length [(v.1,v.1)])*(16:Nat) ≤
 (140737488355328:Nat))) (some (Sum.inl (wr .i64 (v.1+(1:Int)),v.2.1,v.2.2.1,v.2.2.2++[(v.1,v.1)]))) none))) (some (Sum.inr v.2.2))) (x.2.1,
 x.1,[],[])) fun(b:List (Int×List UInt8)×List (Int×Int))=>some b)
theorem q_ay:∀w_aP N x,u_ay.F L0 P0 (orcOf [u_aP.con w_aP]) N x=V_ay w_aP N x:=by intros;kernel_rfl
def W_ay (N:Nat):=V_ay (W_aP N) N
theorem con_ay_ok (N:Nat):(u_ay.con (W_ay N)).ok P0:=Uf.ok mixed (q_ay (W_aP N) N) ⟨con_aP_ok N,trivial⟩ Tryz.func80 (by kernel_rfl) fun x y=>by kernel_rfl
def u_ax:Uf:=⟨39,79,Tryz.f39,[.val (.agg T0_),.val (.agg T_)],[],
⟨[(4,.val (.list (.agg T_)))],[]⟩,[],
[(7,.loop [9,42] ⟨[(2,.ptr 600002 0),(3,.ptr 600003 0),(7,.acc 700007),(44,.val (.int .i64))],[(600002,.box 39 (.val T0_)),(600003,.box 46 (.val T_)),(700007,.nrow 46 (.agg T_) true true)]⟩ [(.exit 0,⟨[(2,.ptr 600002 0),(3,.ptr 600003 0),(7,.acc 700007)],[(600002,.box 39 (.val T0_)),(600003,.box 46 (.val T_)),(700007,.nrow 46 (.agg T_) true true)]⟩)]),
(12,.loop [60] ⟨[(2,.ptr 600002 0),(3,.ptr 600003 0),(7,.acc 700007),(62,.val (.int .i64))],[(600002,.box 39 (.val T0_)),(600003,.box 46 (.val T_)),(700007,.nrow 46 (.agg T_) true true)]⟩ [(.exit 2,⟨[(7,.val (.list (.agg T_)))],[]⟩)])],
[],fun y=>(valW (.list (.agg T_)) y,[],[])⟩
def V_ax (w_k:List (Int×Int×Int)×Int→Option (Bool×Int×Int×Int)) (w_ay:A1_×Int×Int→Option (List (Int×List UInt8)×List (Int×Int))) (w_z:A0_×Int×Int×List UInt8→Option (M_)) (w_A:A0_×Int×Int×Int→Option (M_)) (N:Nat) (x:A0_×M_):Option (List (M_)):=
 obind (w_k (x.1.2.2.2.1.2.2.2.2.2.2.2.2.2.2.2.2,x.2.2.1)) fun b=>cnd (!b.1) (some []) (cnd (decide (b.2.2.1≠x.2.2.2.2.1)) (some [])
 (obind (w_ay (x.1.2.2.2.2.1,x.2.2.2.2.2.2.2.2.1,x.2.2.2.2.2.2.2.2.2.1)) fun b=>obind (loopN N (fun(v:Int×A0_×A3_×List A3_)=>cnd (decide (v.1<(↑(List.length b.1):Int)))
 (cnd (decide ((0:Int)≤v.1)&&decide (v.1<(↑(List.length b.1):Int))) (obind (w_z (v.2.1,v.2.2.1.2.1,Prod.fst (List.getD b.1
 (Int.toNat v.1) ((0:Int),[])),Prod.snd (List.getD b.1 (Int.toNat v.1) ((0:Int),[])))) fun b=>cnd (decide ((List.length v.2.2.2+List.length
 [b])*(104:Nat)≤(140737488355328:Nat))) (some (Sum.inl (wr .i64 (v.1+(1:Int)),v.2.1,v.2.2.1,v.2.2.2++[b]))) none) none) (some (Sum.inr
 v.2))) ((0:Int),x.1,x.2,[])) fun(b_1:A0_×A3_×List A3_)=>obind (loopN N (fun(v:Int×A0_×A3_×List A3_)=>cnd (decide (v.1<(↑(List.length b.2):Int))) (cnd (decide ((0:Int)≤v.1)&&decide (v.1<(↑(List.length b.2):Int)))
 (obind (w_A (v.2.1,v.2.2.1.2.1,Prod.fst (List.getD b.2 (Int.toNat v.1) ((0:Int),(0:Int))),Prod.snd (List.getD b.2 (Int.toNat v.1)
 ((0:Int),(0:Int))))) fun b=>cnd (decide ((List.length v.2.2.2+List.length [b])*(104:Nat)≤(140737488355328:Nat))) (some (Sum.inl (wr .i64
 (v.1+(1:Int)),v.2.1,v.2.2.1,v.2.2.2++[b]))) none) none) (some (Sum.inr v.2.2.2))) ((0:Int),b_1)) fun(b:List A3_)=>some b))
theorem q_ax:∀w_k w_ay w_z w_A N x,u_ax.F L0 P0 (orcOf [u_k.con w_k,u_ay.con w_ay,u_z.con w_z,u_A.con w_A]) N x=V_ax w_k w_ay w_z w_A N x:=by intros;kernel_rfl
def W_ax (N:Nat):=V_ax (W_k N) (W_ay N) (W_z N) (W_A N) N
theorem con_ax_ok (N:Nat):(u_ax.con (W_ax N)).ok P0:=Uf.ok mixed (q_ax (W_k N) (W_ay N) (W_z N) (W_A N) N) ⟨con_k_ok N,con_ay_ok N,con_z_ok N,con_A_ok N,trivial⟩ Tryz.func39 (by kernel_rfl) fun x y=>by kernel_rfl
def u_i:Uf:=⟨83,27,Tryz.f83,[.val (.agg T2_),.val (.int .i64)],[],
⟨[(4,.ptr 600004 0)],[(600004,.box 37 (.val T2_))]⟩,[],
[],
[],fun y=>(valW (.agg T2_) y,[],[])⟩
def V_i (w_a:A1_→Option A1_) (w_h:A1_→Option (Int⊕Unit)) (N:Nat) (x:A1_×Int):Option A1_:=
 obind (w_a x.1) fun b=>obind (w_h x.1) fun b_1=>selim (fun(b_2:Int)=>cnd (decide (x.2≤(1000000:Int))) (some (b.1,max b.2.1 x.2,b.2.2)) (some b)) (fun(c:PUnit)=>some b) b_1
theorem q_i:∀w_a w_h N x,u_i.F L0 P0 (orcOf [u_a.con w_a,u_h.con w_h]) N x=V_i w_a w_h N x:=by intros;kernel_rfl
def W_i (N:Nat):=V_i (W_a N) (W_h N) N
theorem con_i_ok (N:Nat):(u_i.con (W_i N)).ok P0:=Uf.ok mixed (q_i (W_a N) (W_h N) N) ⟨con_a_ok N,con_h_ok N,trivial⟩ Tryz.func83 (by kernel_rfl) fun x y=>by kernel_rfl
def u_av:Uf:=⟨84,30,Tryz.f84,[.val (.agg T2_),.val (.int .i64)],[],
⟨[(4,.ptr 600004 0)],[(600004,.box 37 (.val T2_))]⟩,[],
[],
[],fun y=>(valW (.agg T2_) y,[],[])⟩
def V_av (w_h:A1_→Option (Int⊕Unit)) (w_i:A1_×Int→Option A1_) (w_a:A1_→Option A1_) (N:Nat) (x:A1_×Int):Option A1_:=
 obind (w_h x.1) fun b=>selim (fun(b:Int)=>obind (w_i (x.1,wr .i64 (x.2-(1:Int)))) fun b=>some b) (fun(c:PUnit)=>obind (w_a x.1) fun b=>cnd (decide ((1:Int)≤x.2)) (cnd (decide (x.2≤(1000000:Int))) (some (x.2,b.2)) (some b)) (some b)) b
theorem q_av:∀w_h w_i w_a N x,u_av.F L0 P0 (orcOf [u_h.con w_h,u_i.con w_i,u_a.con w_a]) N x=V_av w_h w_i w_a N x:=by intros;kernel_rfl
def W_av (N:Nat):=V_av (W_h N) (W_i N) (W_a N) N
theorem con_av_ok (N:Nat):(u_av.con (W_av N)).ok P0:=Uf.ok mixed (q_av (W_h N) (W_i N) (W_a N) N) ⟨con_h_ok N,con_i_ok N,con_a_ok N,trivial⟩ Tryz.func84 (by kernel_rfl) fun x y=>by kernel_rfl
def u_aE:Uf:=⟨176,32,Tryz.f176,[.val (.list T5_),.val (.int .i64)],[],
⟨[(4,.val (.alt 228 (.agg (.int .i64)) (.alt1 240 (.agg .unit))))],[]⟩,[],
[(2,.loop [7] ⟨[(9,.val (.int .i64))],[]⟩ [(.exit 0,⟨[],[]⟩),(.ret,⟨[(4,.val (.alt 228 (.agg (.int .i64)) (.alt1 240 (.agg .unit))))],[]⟩)])],
[],fun y=>(valW (.alt 228 (.agg (.int .i64)) (.alt1 240 (.agg .unit))) y,[],[])⟩
def V_aE (N:Nat) (x:List (Int×List UInt8)×Int):Option (Int⊕Unit):=
 obind (loopN N (fun(v:Int)=>cnd (decide (v<(↑(List.length x.1):Int))) (cnd (decide ((0:Int)≤v)&&decide (v<(↑(List.length x.1):Int)))
 (cnd (decide (Prod.fst (List.getD x.1 (Int.toNat v) ((0:Int),[]))=x.2)) (some (Sum.inr (Sum.inr (Sum.inr ())))) (cnd (decide (x.2<Prod.fst
 (List.getD x.1 (Int.toNat v) ((0:Int),[])))) (some (Sum.inr (Sum.inr (Sum.inl v)))) (some (Sum.inl (wr .i64 (v+(1:Int))))))) none) (some (Sum.inr
 (Sum.inl ())))) (Int.ofNat (0:Nat))) fun(b:PUnit⊕Int⊕PUnit)=>selim (fun(b:PUnit)=>some (Sum.inl (↑(List.length x.1):Int))) (fun(c:
 Int⊕PUnit)=>some c) b
theorem q_aE:∀N x,u_aE.F L0 P0 (orcOf []) N x=V_aE N x:=by intros;kernel_rfl
def W_aE (N:Nat):=V_aE N
theorem con_aE_ok (N:Nat):(u_aE.con (W_aE N)).ok P0:=Uf.ok mixed (q_aE N) trivial Tryz.func176 (by kernel_rfl) fun x y=>by kernel_rfl
def as_O:List AS:=[.acc 0,.val (.int .i64),.val (.list T5_)]
def bs_O:List BS:=[.nrow 69 T5_ true]
def out_O (y:List (Int×List UInt8)):V×List OK×List OK:=(.acc 2000000 0,[.dead],[.nrow 69 false true ⟨T5_,y⟩])
def W_O (N:Nat) (x:Int×List (Int×List UInt8)×List (Int×List UInt8)):Option (List (Int×List UInt8)):=
  cnd (decide ((0:Int)≤x.1)&&decide (x.1≤((↑(List.length x.2.2):Int):Int))&&decide (List.length x.2.1=(1:Nat))&&decide ((List.length x.2.2+(1:Nat))*(24:Nat)≤(140737488355328:Nat))) (some (List.take (Int.toNat x.1) x.2.2++(x.2.1++List.drop (Int.toNat x.1) x.2.2))) none
def conw_O (w:Int×List (Int×List UInt8)×List (Int×List UInt8)→Option (List (Int×List UInt8))):Con:=⟨177,as_O,bs_O,List (Int×List UInt8),w,out_O⟩
def con_O (N:Nat):Con:=conw_O (W_O N)
theorem con_O_ok (N:Nat):Con.ok P0 (con_O N):=⟨⟨Tryz.f177,Tryz.func177,by kernel_rfl,by kernel_rfl⟩,fun(x:Int×List (Int×List UInt8)×List (Int×List UInt8)) (r:List (Int×List UInt8)) (hr:W_O N x=some r)=>by
  obtain⟨i,s,l⟩:=x
  exact ins_con (e:=T5_) (t:=32) (ty:=69) (bytes:=24) (nl:=true) (l:=l) (r:=s) (q:=r) (i:=i) insN177 insP177 rfl (by decide) (by decide) (by decide) hr⟩
def u_aj:Uf:=⟨146,43,Tryz.f146,[.val (.list T5_),.val (.int .i64),.val T5_],[],
⟨[(6,.val (.list T5_)),(7,.val .bool)],[]⟩,[],
[],
[(1000003,.reg [(8,[],⟨[(5,.ptr 600005 0),(8,.acc 700042),(9,.ptr 600009 0),(28,.val .bool)],[(600005,.box 69 (.val (.pair (.int .i64) .str))),(700042,.nrow 69 T5_ false true),(600009,.box 228 (.val (.int .i64)))]⟩)])],fun y=>(.tup [valW (.list T5_) y.1,valW .bool y.2],[],[])⟩
def V_aj (w_b:List (Int×List UInt8)→Option (List (Int×List UInt8))) (w_aE:List (Int×List UInt8)×Int→Option (Int⊕Unit)) (w_O:Int×List (Int×List UInt8)×List (Int×List UInt8)→Option (List (Int×List UInt8))) (N:Nat) (x:List (Int×List UInt8)×Int×Int×List UInt8):Option (List (Int×List UInt8)×Bool):=
 obind (w_b x.1) fun b=>obind (w_aE (x.1,x.2.2.1)) fun b_1=>selim (fun(b_2:Int)=>cnd (decide (x.2.2.1 <
 x.2.1)) (some (b,false)) (cnd (decide (wr .i64 (x.2.1+(8:Int))≤x.2.2.1)) (some (b,false)) (obind (w_O (b_2,[x.2.2],
 b)) fun b=>some (b,true)))) (fun(c:PUnit)=>cnd true (some (b,false)) (cnd (decide (wr .i64 (x.2.1+(8:Int))≤x.2.2.1)) (some (b,false))
 (obind (w_O ((0:Int),[x.2.2],b)) fun b=>some (b,true)))) b_1
theorem q_aj:∀w_b w_aE w_O N x,u_aj.F L0 P0 (orcOf [conw_b w_b,u_aE.con w_aE,conw_O w_O]) N x=V_aj w_b w_aE w_O N x:=by intros;kernel_rfl
def W_aj (N:Nat):=V_aj (W_b N) (W_aE N) (W_O N) N
theorem con_aj_ok (N:Nat):(u_aj.con (W_aj N)).ok P0:=Uf.ok mixed (q_aj (W_b N) (W_aE N) (W_O N) N) ⟨con_b_ok N,con_aE_ok N,con_O_ok N,trivial⟩ Tryz.func146 (by kernel_rfl) fun x y=>by kernel_rfl
def u_aO:Uf:=⟨154,27,Tryz.f154,[.val (.list T5_),.val (.int .i64)],[],
⟨[(4,.val (.list T5_)),(5,.ptr 600005 0),(6,.val .bool)],[(600005,.box 69 (.val (.pair (.int .i64) .str)))]⟩,[],
[],
[],fun y=>(.tup [valW (.list T5_) y.1,valW T5_ y.2.2,valW .bool y.2.1],[],[])⟩
def V_aO (w_b:List (Int×List UInt8)→Option (List (Int×List UInt8))) (N:Nat) (x:List (Int×List UInt8)×Int):Option (List (Int×List UInt8)×Bool×Int×List UInt8):=
 cnd (decide ((↑(List.length x.1):Int)=(0:Int))) (obind (w_b x.1) fun b=>some (b,false,(0:Int),[])) (cnd (decide
 ((0:Int)≤(0:Int))&&decide ((0:Int)<(↑(List.length x.1):Int))) (cnd (decide (Prod.fst (List.getD x.1 (0:Nat) ((0:Int),[]))≠x.2)) (obind
 (w_b x.1) fun b=>some (b,false,(0:Int),[])) (cnd (decide ((0:Int)≤(1:Int))&&decide ((1:Int)≤(↑(List.length x.1):
 Int))) (obind (w_b (List.drop (1:Nat) (List.take (List.length x.1) x.1))) fun b=>cnd (decide ((0:Int)≤(0:Int))&&decide
 ((0:Int)<(↑(List.length x.1):Int))) (some (b,true,Prod.fst (List.getD x.1 (0:Nat) ((0:Int),[])),Prod.snd (List.getD x.1 (0:Nat) ((0:Int),
 [])))) none) none)) none)
theorem q_aO:∀w_b N x,u_aO.F L0 P0 (orcOf [conw_b w_b]) N x=V_aO w_b N x:=by intros;kernel_rfl
def W_aO (N:Nat):=V_aO (W_b N) N
theorem con_aO_ok (N:Nat):(u_aO.con (W_aO N)).ok P0:=Uf.ok mixed (q_aO (W_b N) N) ⟨con_b_ok N,trivial⟩ Tryz.func154 (by kernel_rfl) fun x y=>by kernel_rfl
def u_C:Uf:=⟨153,2,Tryz.f153,[],[],
⟨[(0,.ptr 600000 0)],[(600000,.box 35 (.val (.pair (.int .i64) (.int .i64))))]⟩,[],
[],
[],fun y=>(valW T6_ y,[],[])⟩
def V_C (N:Nat) (x:Unit):Option (Int×Int):=
 some ((0:Int),(0:Int))
theorem q_C:∀N x,u_C.F L0 P0 (orcOf []) N x=V_C N x:=by intros;kernel_rfl
def W_C (N:Nat):=V_C N
theorem con_C_ok (N:Nat):(u_C.con (W_C N)).ok P0:=Uf.ok mixed (q_C N) trivial Tryz.func153 (by kernel_rfl) fun x y=>by kernel_rfl
def u_n:Uf:=⟨102,52,Tryz.f102,[.val (.agg T2_)],[],
⟨[(2,.ptr 600002 0),(3,.val (.list T5_))],[(600002,.box 37 (.val T2_))]⟩,[],
[(3,.loop [] ⟨[(2,.ptr 600002 0),(4,.ptr 600004 0),(5,.acc 700005)],[(600002,.box 37 (.val T2_)),(600004,.box 37 (.val T2_)),(700005,.nrow 69 T5_ true true)]⟩ [(.exit 0,⟨[(2,.ptr 600002 0),(4,.ptr 600004 0),(5,.val (.list T5_))],[(600002,.box 37 (.val T2_)),(600004,.box 37 (.val T2_))]⟩)])],
[],fun y=>(.tup [valW (.agg T2_) y.2,valW (.list T5_) y.1],[],[])⟩
def V_n (w_a:A1_→Option A1_) (w_aO:List (Int×List UInt8)×Int→Option (List (Int×List UInt8)×Bool×Int×List UInt8)) (w_H:List A4_×Int×List UInt8→Option (List A4_)) (w_I:List (Int×List UInt8)×Int×List UInt8→Option (List (Int×List UInt8))) (w_C:Unit→Option (Int×Int)) (N:Nat) (x:A1_):Option (List (Int×List UInt8)×A1_):=
 obind (w_a x) fun b=>obind (loopN N (fun(v:A1_×A1_×List (Int×List UInt8))=>obind (w_aO (v.2.1.2.2.2.1,v.2.1.1)) fun b=>cnd (!b.2.1) (some (Sum.inr (v.2.2,v.1,v.2.1))) (obind
 (w_H (v.2.1.2.2.2.2.1,b.2.2)) fun b_1=>obind (w_I (v.2.1.2.2.1,b.2.2)) fun b_2=>cnd (decide ((List.length v.2.2 +
 List.length [b.2.2])*(24:Nat)≤(140737488355328:Nat))) (some (Sum.inl (v.1,(wr .i64 (v.2.1.1+(1:Int)),v.2.1.2.1,b_2,b.1,b_1,
 v.2.1.2.2.2.2.2),v.2.2++[b.2.2]))) none)) (((0:Int),(0:Int),[],[],[],(0:Int),(0:Int)),b,[])) fun(b:List (Int×List UInt8)×A1_×A1_)=>cnd (decide ((0:Int)<(↑(List.length b.1):Int)))
 (obind (w_C ()) fun b_1=>some (b.1,b.2.2.1,b.2.2.2.1,b.2.2.2.2.1,b.2.2.2.2.2.1,b.2.2.2.2.2.2.1,b_1)) (some (b.1,b.2.2))
theorem q_n:∀w_a w_aO w_H w_I w_C N x,u_n.F L0 P0 (orcOf [u_a.con w_a,u_aO.con w_aO,u_H.con w_H,u_I.con w_I,u_C.con w_C]) N x=V_n w_a w_aO w_H w_I w_C N x:=by intros;kernel_rfl
def W_n (N:Nat):=V_n (W_a N) (W_aO N) (W_H N) (W_I N) (W_C N) N
theorem con_n_ok (N:Nat):(u_n.con (W_n N)).ok P0:=Uf.ok mixed (q_n (W_a N) (W_aO N) (W_H N) (W_I N) (W_C N) N) ⟨con_a_ok N,con_aO_ok N,con_H_ok N,con_I_ok N,con_C_ok N,trivial⟩ Tryz.func102 (by kernel_rfl) fun x y=>by kernel_rfl
def u_ah:Uf:=⟨85,54,Tryz.f85,[.val (.agg T2_),.val T5_],[],
⟨[(4,.ptr 600004 0)],[(600004,.box 37 (.val T2_))]⟩,[],
[],
[(1000002,.reg [(7,[],⟨[(2,.ptr 600002 0),(3,.ptr 600003 0),(4,.ptr 600004 0),(20,.val .bool)],[(600002,.box 37 (.val T2_)),(600003,.box 69 (.val (.pair (.int .i64) .str))),(600004,.box 37 (.val T2_))]⟩),(5,[],⟨[(2,.ptr 600002 0),(3,.ptr 600003 0),(4,.ptr 600004 0),(25,.val .bool)],[(600002,.box 37 (.val T2_)),(600003,.box 69 (.val (.pair (.int .i64) .str))),(600004,.box 37 (.val T2_))]⟩)])],fun y=>(valW (.agg T2_) y,[],[])⟩
def V_ah (w_h:A1_→Option (Int⊕Unit)) (w_a:A1_→Option A1_) (w_i:A1_×Int→Option A1_) (w_aj:List (Int×List UInt8)×Int×Int×List UInt8→Option (List (Int×List UInt8)×Bool)) (w_n:A1_→Option (List (Int×List UInt8)×A1_)) (N:Nat) (x:A1_×Int×List UInt8):Option A1_:=
 obind (w_h x.1) fun b=>selim (fun(b:Int)=>obind (cnd (decide (x.2.1<(1:Int))) (some (true,x.1,x.2,(0:Int),(0:Int),[],[],[],
 (0:Int),(0:Int))) (some (decide ((1000000:Int)<x.2.1),x.1,x.2,(0:Int),(0:Int),[],[],[],(0:Int),(0:Int)))) fun(b:Bool×A1_×(Int×List UInt8)×A1_)=>cnd b.1 (obind (w_a b.2.1) fun b
 => some b) (cnd (decide ((12:Int)<(↑(List.length b.2.2.1.2):Int))) (obind (w_a b.2.1) fun b=>some b) (obind (w_i (b.2.1,
 b.2.2.1.1)) fun b_1=>obind (w_aj (b_1.2.2.2.1,b_1.1,b.2.2.1)) fun b=>obind (w_n (b_1.1,b_1.2.1,b_1.2.2.1,b.1,b_1.2.2.2.2))
 fun b=>some b.2))) (fun(c:PUnit)=>obind (cnd true (some (true,x.1,x.2,(0:Int),(0:Int),[],[],[],(0:Int),(0:Int))) (some (decide
 ((1000000:Int)<x.2.1),x.1,x.2,(0:Int),(0:Int),[],[],[],(0:Int),(0:Int)))) fun(b:Bool×A1_×(Int×List UInt8)×A1_)=>cnd b.1 (obind (w_a b.2.1) fun b=>some b) (cnd (decide ((12:Int)
 < (↑(List.length b.2.2.1.2):Int))) (obind (w_a b.2.1) fun b=>some b) (obind (w_i (b.2.1,b.2.2.1.1)) fun b_1=>obind
 (w_aj (b_1.2.2.2.1,b_1.1,b.2.2.1)) fun b=>obind (w_n (b_1.1,b_1.2.1,b_1.2.2.1,b.1,b_1.2.2.2.2)) fun b=>some b.2))) b
theorem q_ah:∀w_h w_a w_i w_aj w_n N x,u_ah.F L0 P0 (orcOf [u_h.con w_h,u_a.con w_a,u_i.con w_i,u_aj.con w_aj,u_n.con w_n]) N x=V_ah w_h w_a w_i w_aj w_n N x:=by intros;kernel_rfl
def W_ah (N:Nat):=V_ah (W_h N) (W_a N) (W_i N) (W_aj N) (W_n N) N
theorem con_ah_ok (N:Nat):(u_ah.con (W_ah N)).ok P0:=Uf.ok mixed (q_ah (W_h N) (W_a N) (W_i N) (W_aj N) (W_n N) N) ⟨con_h_ok N,con_a_ok N,con_i_ok N,con_aj_ok N,con_n_ok N,trivial⟩ Tryz.func85 (by kernel_rfl) fun x y=>by kernel_rfl
def u_aD:Uf:=⟨178,10,Tryz.f178,[.val (.list T5_)],[],
⟨[(2,.val (.int .i64))],[]⟩,[],
[],
[],fun y=>(valW (.int .i64) y,[],[])⟩
def V_aD (N:Nat) (x:List (Int×List UInt8)):Option (Int):=
 cnd (decide ((↑(List.length x):Int)=(0:Int))) (some (0:Int)) (cnd (decide ((0:Int)≤(0:Int))&&decide ((0:Int)<(↑(List.length x):Int))) (some (Prod.fst (List.getD x (0:Nat) ((0:Int),[])))) none)
theorem q_aD:∀N x,u_aD.F L0 P0 (orcOf []) N x=V_aD N x:=by intros;kernel_rfl
def W_aD (N:Nat):=V_aD N
theorem con_aD_ok (N:Nat):(u_aD.con (W_aD N)).ok P0:=Uf.ok mixed (q_aD N) trivial Tryz.func178 (by kernel_rfl) fun x y=>by kernel_rfl
def u_aJ:Uf:=⟨149,19,Tryz.f149,[.val (.agg T2_)],[],
⟨[(2,.val (.alt 198 (.int .i64) (.alt1 231 (.agg .unit))))],[]⟩,[],
[],
[],fun y=>(valW (.alt 198 (.int .i64) (.alt1 231 (.agg .unit))) y,[],[])⟩
def V_aJ (w_aD:List (Int×List UInt8)→Option (Int)) (N:Nat) (x:A1_):Option (Int⊕Unit):=
 obind (w_aD x.2.2.2.1) fun b=>cnd (decide (x.1≤b)) (cnd (decide ((0:Int)<b)) (some (Sum.inl b)) (some (Sum.inr ()))) (some (Sum.inr ()))
theorem q_aJ:∀w_aD N x,u_aJ.F L0 P0 (orcOf [u_aD.con w_aD]) N x=V_aJ w_aD N x:=by intros;kernel_rfl
def W_aJ (N:Nat):=V_aJ (W_aD N) N
theorem con_aJ_ok (N:Nat):(u_aJ.con (W_aJ N)).ok P0:=Uf.ok mixed (q_aJ (W_aD N) N) ⟨con_aD_ok N,trivial⟩ Tryz.func149 (by kernel_rfl) fun x y=>by kernel_rfl
def u_ac:Uf:=⟨152,17,Tryz.f152,[.val (.list T4_),.val (.int .i64),.val (.int .i64),.val (.int .i64)],[],
⟨[(8,.val (.list T4_))],[]⟩,[],
[],
[],fun y=>(valW (.list T4_) y,[],[])⟩
def V_ac (w_c:List A4_→Option (List A4_)) (N:Nat) (x:List A4_×Int×Int×Int):Option (List A4_):=
 obind (w_c x.1) fun b=>cnd (decide ((List.length b+(1:Nat))*(48:Nat)≤(140737488355328:Nat))) (some (b++[((2:Int),x.2.1,x.2.2.1,[],x.2.2.2)])) none
theorem q_ac:∀w_c N x,u_ac.F L0 P0 (orcOf [conw_c w_c]) N x=V_ac w_c N x:=by intros;kernel_rfl
def W_ac (N:Nat):=V_ac (W_c N) N
theorem con_ac_ok (N:Nat):(u_ac.con (W_ac N)).ok P0:=Uf.ok mixed (q_ac (W_c N) N) ⟨con_c_ok N,trivial⟩ Tryz.func152 (by kernel_rfl) fun x y=>by kernel_rfl
def u_ai:Uf:=⟨101,66,Tryz.f101,[.val (.agg T2_),.val (.int .i64),.val (.int .i64)],[],
⟨[(6,.ptr 600006 0),(7,.val (.list T6_))],[(600006,.box 37 (.val T2_))]⟩,[],
[(6,.loop [] ⟨[(3,.ptr 600003 0),(6,.ptr 600006 0),(8,.ptr 600008 0),(9,.ptr 600009 0),(10,.fn 151 [600008,600005,600009])],[(600003,.box 37 (.val T2_)),(600006,.box 37 (.val T2_)),(600008,.box 37 (.val T2_)),(600009,.box 132 (.acc 601009)),(601009,.nrow 101 T6_ true true),(600005,.box 3 (.val (.int .i64)))]⟩ [(.exit 0,⟨[(3,.ptr 600003 0),(6,.ptr 600006 0),(8,.ptr 600008 0),(9,.ptr 600009 0)],[(600003,.box 37 (.val T2_)),(600006,.box 37 (.val T2_)),(600008,.box 37 (.val T2_)),(600009,.box 132 (.acc 601009)),(601009,.nrow 101 T6_ true true)]⟩)])],
[(12,.cut [] [(.normal,⟨[(3,.ptr 600003 0),(6,.ptr 600006 0),(8,.ptr 600008 0),(9,.ptr 600009 0),(10,.fn 151 [600008,600005,600009])],[(600003,.box 37 (.val T2_)),(600006,.box 37 (.val T2_)),(600008,.box 37 (.val T2_)),(600009,.box 132 (.acc 601009)),(601009,.nrow 101 T6_ true true),(600005,.box 3 (.val (.int .i64)))]⟩)])],fun y=>(.tup [valW (.agg T2_) y.2,valW (.list T6_) y.1],[],[])⟩
def V_ai (w_a:A1_→Option A1_) (w_aJ:A1_→Option (Int⊕Unit)) (w_ac:List A4_×Int×Int×Int→Option (List A4_)) (w_n:A1_→Option (List (Int×List UInt8)×A1_)) (w_C:Unit→Option (Int×Int)) (N:Nat) (x:A1_×Int×Int):Option (List (Int×Int)×A1_):=
 obind (w_a x.1) fun b=>cnd (decide (x.1.1<(1:Int))) (some ([],b)) (cnd (decide ((1000000:Int)<x.2.1)) (some ([],b)) (obind (loopN N
 (fun(v:A1_×A1_×A1_×List (Int×Int)×Int)=>cnd (decide (v.2.2.1.1≤x.2.1))
 (obind (w_aJ v.2.2.1) fun b=>selim (fun(b:Int)=>cnd (decide (x.2.1<b)) (obind (w_ac (v.2.2.1.2.2.2.2.1,v.2.2.1.1,x.2.1,
 v.2.2.2.2)) fun b=>cnd (decide ((List.length v.2.2.2.1+List.length [(v.2.2.1.1,x.2.1)])*(16:Nat)≤(140737488355328:Nat))) (some (Sum.inl
 (v.1,v.2.1,(wr .i64 (x.2.1+(1:Int)),v.2.2.1.2.1,v.2.2.1.2.2.1,v.2.2.1.2.2.2.1,b,v.2.2.1.2.2.2.2.2),v.2.2.2.1++[(v.2.2.1.1,x.2.1)],
 v.2.2.2.2))) none) (obind (cnd (decide (v.2.2.1.1<b)) (obind (w_ac (v.2.2.1.2.2.2.2.1,v.2.2.1.1,wr .i64 (b-(1:Int)),v.2.2.2.2)) fun
 b_1=>cnd (decide ((List.length v.2.2.2.1+List.length [(v.2.2.1.1,wr .i64 (b-(1:Int)))])*(16:Nat)≤(140737488355328:Nat))) (some (v.1,
 v.2.1,(wr .i64 (wr .i64 (b-(1:Int))+(1:Int)),v.2.2.1.2.1,v.2.2.1.2.2.1,v.2.2.1.2.2.2.1,b_1,v.2.2.1.2.2.2.2.2),v.2.2.2.1++[(v.2.2.1.1,
 wr .i64 (b-(1:Int)))],v.2.2.2.2)) none) (some v)) fun(b:A1_×A1_×A1_×List (Int×Int)×Int)=>obind (w_n b.2.2.1) fun b_1=>some (Sum.inl (b.1,b.2.1,b_1.2,b.2.2.2)))) (fun(c:PUnit)=>obind (w_ac
 (v.2.2.1.2.2.2.2.1,v.2.2.1.1,x.2.1,v.2.2.2.2)) fun b=>cnd (decide ((List.length v.2.2.2.1+List.length [(v.2.2.1.1,x.2.1)])*(16:Nat) ≤
 (140737488355328:Nat))) (some (Sum.inl (v.1,v.2.1,(wr .i64 (x.2.1+(1:Int)),v.2.2.1.2.1,v.2.2.1.2.2.1,v.2.2.1.2.2.2.1,b,v.2.2.1.2.2.2.2.2),
 v.2.2.2.1++[(v.2.2.1.1,x.2.1)],v.2.2.2.2))) none) b) (some (Sum.inr (v.1,v.2.1,v.2.2.1,v.2.2.2.1)))) (x.1,((0:Int),(0:Int),[],[],[],
 (0:Int),(0:Int)),b,[],x.2.2)) fun(b:A1_×A1_×A1_×List (Int×Int))=>cnd (decide
 (b.2.2.1.1≠b.1.1)) (obind (w_C ()) fun b_1=>some (b.2.2.2,b.2.2.1.1,b.2.2.1.2.1,b.2.2.1.2.2.1,b.2.2.1.2.2.2.1,b.2.2.1.2.2.2.2.1,
 b_1)) (some (b.2.2.2,b.2.2.1))))
theorem q_ai:∀w_a w_aJ w_ac w_n w_C N x,u_ai.F L0 P0 (orcOf [u_a.con w_a,u_aJ.con w_aJ,u_ac.con w_ac,u_n.con w_n,u_C.con w_C]) N x=V_ai w_a w_aJ w_ac w_n w_C N x:=by intros;kernel_rfl
def W_ai (N:Nat):=V_ai (W_a N) (W_aJ N) (W_ac N) (W_n N) (W_C N) N
theorem con_ai_ok (N:Nat):(u_ai.con (W_ai N)).ok P0:=Uf.ok mixed (q_ai (W_a N) (W_aJ N) (W_ac N) (W_n N) (W_C N) N) ⟨con_a_ok N,con_aJ_ok N,con_ac_ok N,con_n_ok N,con_C_ok N,trivial⟩ Tryz.func101 (by kernel_rfl) fun x y=>by kernel_rfl
def u_V:Uf:=⟨86,59,Tryz.f86,[.val (.agg T2_),.val (.int .i64),.val (.int .i64)],[],
⟨[(6,.ptr 600006 0)],[(600006,.box 37 (.val T2_))]⟩,[],
[],
[(1000002,.reg [(6,[],⟨[(3,.ptr 600003 0),(6,.ptr 600006 0),(7,.ptr 600007 0),(21,.val .bool)],[(600003,.box 37 (.val T2_)),(600006,.box 37 (.val T2_)),(600007,.box 158 (.val (.int .i64)))]⟩),(5,[],⟨[(3,.ptr 600003 0),(6,.ptr 600006 0),(7,.ptr 600007 0),(26,.val .bool)],[(600003,.box 37 (.val T2_)),(600006,.box 37 (.val T2_)),(600007,.box 158 (.val (.int .i64)))]⟩)])],fun y=>(valW (.agg T2_) y,[],[])⟩
def V_V (w_h:A1_→Option (Int⊕Unit)) (w_a:A1_→Option A1_) (w_i:A1_×Int→Option A1_) (w_ai:A1_×Int×Int→Option (List (Int×Int)×A1_)) (w_n:A1_→Option (List (Int×List UInt8)×A1_)) (N:Nat) (x:A1_×Int×Int):Option A1_:=
 obind (w_h x.1) fun b=>selim (fun(b:Int)=>obind (cnd (decide (x.2.1<(1:Int))) (some (true,x.1,((0:Int),(0:Int),[],[],[],
 (0:Int),(0:Int)),b)) (some (decide (x.2.2<x.2.1),x.1,((0:Int),(0:Int),[],[],[],(0:Int),(0:Int)),b))) fun(b:Bool×A1_×A1_×Int)=>cnd b.1 (obind (w_a b.2.1) fun b=>some b) (cnd
 (decide ((1000000:Int)<x.2.2)) (obind (w_a b.2.1) fun b=>some b) (obind (w_i (b.2.1,x.2.2)) fun b_1=>cnd (decide
 (b.2.2.2<x.2.1)) (some b_1) (cnd (decide (x.2.2<b.2.2.2)) (some b_1) (obind (w_ai (b_1,x.2.2,(1:Int))) fun b=>obind (w_n
 b.2) fun b=>some b.2))))) (fun(c:PUnit)=>obind (cnd true (some (true,x.1,((0:Int),(0:Int),[],[],[],(0:Int),(0:Int)),(0:Int))) (some
 (decide (x.2.2<x.2.1),x.1,((0:Int),(0:Int),[],[],[],(0:Int),(0:Int)),(0:Int)))) fun(b:Bool×A1_×A1_×Int)=>cnd b.1 (obind (w_a b.2.1) fun b=>some b) (cnd (decide ((1000000:Int) <
 x.2.2)) (obind (w_a b.2.1) fun b=>some b) (obind (w_i (b.2.1,x.2.2)) fun b_1=>cnd (decide (b.2.2.2<x.2.1)) (some b_1)
 (cnd (decide (x.2.2<b.2.2.2)) (some b_1) (obind (w_ai (b_1,x.2.2,(1:Int))) fun b=>obind (w_n b.2) fun b=>some b.2))))) b
theorem q_V:∀w_h w_a w_i w_ai w_n N x,u_V.F L0 P0 (orcOf [u_h.con w_h,u_a.con w_a,u_i.con w_i,u_ai.con w_ai,u_n.con w_n]) N x=V_V w_h w_a w_i w_ai w_n N x:=by intros;kernel_rfl
def W_V (N:Nat):=V_V (W_h N) (W_a N) (W_i N) (W_ai N) (W_n N) N
theorem con_V_ok (N:Nat):(u_V.con (W_V N)).ok P0:=Uf.ok mixed (q_V (W_h N) (W_a N) (W_i N) (W_ai N) (W_n N) N) ⟨con_h_ok N,con_a_ok N,con_i_ok N,con_ai_ok N,con_n_ok N,trivial⟩ Tryz.func86 (by kernel_rfl) fun x y=>by kernel_rfl
def u_aF:Uf:=⟨40,81,Tryz.f40,[.val (.agg T0_),.val (.int .i64),.val (.agg T_)],[],
⟨[(6,.ptr 600006 0)],[(600006,.box 37 (.val T2_))]⟩,[],
[],
[],fun y=>(valW (.agg T2_) y,[],[])⟩
def V_aF (w_av:A1_×Int→Option A1_) (w_i:A1_×Int→Option A1_) (w_ah:A1_×Int×List UInt8→Option A1_) (w_V:A1_×Int×Int→Option A1_) (N:Nat) (x:A0_×Int×M_):Option A1_:=
 cnd (decide (x.1.2.2.2.1.2.2.2.1≠x.2.2.2.1)) (some x.1.2.2.2.2.1) (cnd (decide (x.2.2.1=(2:Int))) (cnd (decide (x.2.1≠x.2.2.2.1)) (obind
 (w_av (x.1.2.2.2.2.1,x.2.2.2.2.2.2.2.2.2.1)) fun b=>obind (w_i (b,wr .i64 (x.2.2.2.2.2.2.2.2.2.1-(1:Int)))) fun b=>some
 b) (cnd (decide (x.2.2.1=(5:Int))) (obind (w_i (x.1.2.2.2.2.1,x.2.2.2.2.2.2.2.2.2.2.1)) fun b=>some b) (cnd (decide (x.2.2.1=
 (7:Int))) (cnd (decide (x.2.2.2.2.2.1=x.1.2.2.2.1.2.2.2.2.1)) (obind (w_ah (x.1.2.2.2.2.1,x.2.2.2.2.2.2.2.2.2.1,
 x.2.2.2.2.2.2.2.2.2.2.2)) fun b=>some b) (cnd (decide (x.2.2.1=(9:Int))) (cnd (decide (x.2.2.2.2.2.1=x.1.2.2.2.1.2.2.2.2.1)) (obind
 (w_V (x.1.2.2.2.2.1,x.2.2.2.2.2.2.2.2.2.1,x.2.2.2.2.2.2.2.2.2.2.1)) fun b=>some b) (some x.1.2.2.2.2.1)) (some x.1.2.2.2.2.1))) (cnd
 (decide (x.2.2.1=(9:Int))) (cnd (decide (x.2.2.2.2.2.1=x.1.2.2.2.1.2.2.2.2.1)) (obind (w_V (x.1.2.2.2.2.1,x.2.2.2.2.2.2.2.2.2.1,
 x.2.2.2.2.2.2.2.2.2.2.1)) fun b=>some b) (some x.1.2.2.2.2.1)) (some x.1.2.2.2.2.1))))) (cnd (decide (x.2.2.1=(5:Int))) (obind (w_i
 (x.1.2.2.2.2.1,x.2.2.2.2.2.2.2.2.2.2.1)) fun b=>some b) (cnd (decide (x.2.2.1=(7:Int))) (cnd (decide (x.2.2.2.2.2.1=x.1.2.2.2.1.2.2.2.2.1))
 (obind (w_ah (x.1.2.2.2.2.1,x.2.2.2.2.2.2.2.2.2.1,x.2.2.2.2.2.2.2.2.2.2.2)) fun b=>some b) (cnd (decide (x.2.2.1=(9:Int))) (cnd
 (decide (x.2.2.2.2.2.1=x.1.2.2.2.1.2.2.2.2.1)) (obind (w_V (x.1.2.2.2.2.1,x.2.2.2.2.2.2.2.2.2.1,x.2.2.2.2.2.2.2.2.2.2.1)) fun b=>
 some b) (some x.1.2.2.2.2.1)) (some x.1.2.2.2.2.1))) (cnd (decide (x.2.2.1=(9:Int))) (cnd (decide (x.2.2.2.2.2.1=x.1.2.2.2.1.2.2.2.2.1)) (obind
 (w_V (x.1.2.2.2.2.1,x.2.2.2.2.2.2.2.2.2.1,x.2.2.2.2.2.2.2.2.2.2.1)) fun b=>some b) (some x.1.2.2.2.2.1)) (some x.1.2.2.2.2.1)))))
theorem q_aF:∀w_av w_i w_ah w_V N x,u_aF.F L0 P0 (orcOf [u_av.con w_av,u_i.con w_i,u_ah.con w_ah,u_V.con w_V]) N x=V_aF w_av w_i w_ah w_V N x:=by intros;kernel_rfl
def W_aF (N:Nat):=V_aF (W_av N) (W_i N) (W_ah N) (W_V N) N
theorem con_aF_ok (N:Nat):(u_aF.con (W_aF N)).ok P0:=Uf.ok mixed (q_aF (W_av N) (W_i N) (W_ah N) (W_V N) N) ⟨con_av_ok N,con_i_ok N,con_ah_ok N,con_V_ok N,trivial⟩ Tryz.func40 (by kernel_rfl) fun x y=>by kernel_rfl
def u_aB:Uf:=⟨17,70,Tryz.f17,[.val (.agg T0_),.val (.list (.int .u8))],[],
⟨[(4,.ptr 600004 0),(5,.val (.list (.agg T_)))],[(600004,.box 39 (.val T0_))]⟩,[],
[],
[],fun y=>(.tup [valW (.agg T0_) y.2,valW (.list (.agg T_)) y.1],[],[])⟩
def V_aB (w_j:A0_→Option A0_) (w_aH:A0_×List Int→Option ((M_)⊕Unit)) (w_aI:A2_×(M_)×Int→Option (A2_×List (M_))) (w_ax:A0_×M_→Option (List (M_))) (w_aF:A0_×Int×M_→Option A1_) (w_y:A0_×A1_→Option (List (M_))) (N:Nat) (x:A0_×List Int):Option (List (M_)×A0_):=
 obind (w_j x.1) fun b=>cnd (!x.1.1) (some ([],b)) (obind (w_aH x) fun b_1=>selim (fun(b_2:A3_)=>obind (w_aI (x.1.2.2.2.1,b_2,max x.1.2.2.2.2.1.1 (1:Int))) fun b_3=>cnd (decide (b_2.1=
 (8:Int))) (obind (w_ax ((b.1,b.2.1,b.2.2.1,b_3.1,b.2.2.2.2),b_2)) fun b_4=>cnd (decide ((List.length b_3.2+List.length b_4) *
 (104:Nat)≤(140737488355328:Nat))) (some (b_3.2++b_4,b.1,b.2.1,b.2.2.1,b_3.1,b.2.2.2.2)) none) (obind (w_aF ((b.1,b.2.1,b.2.2.1,
 b_3.1,b.2.2.2.2),x.1.2.2.2.1.2.2.2.1,b_2)) fun b_4=>obind (w_y ((b.1,b.2.1,b.2.2.1,b_3.1,b_4,b.2.2.2.2.2),x.1.2.2.2.2.1))
 fun b_5=>cnd (decide ((List.length b_3.2+List.length b_5)*(104:Nat)≤(140737488355328:Nat))) (some (b_3.2++b_5,b.1,b.2.1,b.2.2.1,b_3.1,
 b_4,b.2.2.2.2.2)) none)) (fun(c:PUnit)=>cnd (decide (b.2.2.2.2.2<(1073741824:Int))) (some ([],b.1,b.2.1,b.2.2.1,b.2.2.2.1,b.2.2.2.2.1,
 wr .i64 (b.2.2.2.2.2+(1:Int)))) (some ([],b))) b_1)
theorem q_aB:∀w_j w_aH w_aI w_ax w_aF w_y N x,u_aB.F L0 P0 (orcOf [u_j.con w_j,u_aH.con w_aH,u_aI.con w_aI,u_ax.con w_ax,u_aF.con w_aF,u_y.con w_y]) N x=V_aB w_j w_aH w_aI w_ax w_aF w_y N x:=by intros;kernel_rfl
def W_aB (N:Nat):=V_aB (W_j N) (W_aH N) (W_aI N) (W_ax N) (W_aF N) (W_y N) N
theorem con_aB_ok (N:Nat):(u_aB.con (W_aB N)).ok P0:=Uf.ok mixed (q_aB (W_j N) (W_aH N) (W_aI N) (W_ax N) (W_aF N) (W_y N) N) ⟨con_j_ok N,con_aH_ok N,con_aI_ok N,con_ax_ok N,con_aF_ok N,con_y_ok N,trivial⟩ Tryz.func17 (by kernel_rfl) fun x y=>by kernel_rfl
def u_aA:Uf:=⟨24,13,Tryz.f24,[.val (.agg T0_)],[],
⟨[(2,.ptr 600002 0)],[(600002,.box 39 (.val T0_))]⟩,[],
[],
[],fun y=>(valW (.agg T0_) y,[],[])⟩
def V_aA (w_j:A0_→Option A0_) (N:Nat) (x:A0_):Option A0_:=
 cnd (!x.1) (obind (w_j x) fun b=>some b) (some (false,x.2.1,[],((0:Int),(0:Int),(0:Int),(0:Int),(0:Int),(0:Int),[],(0:Int),(0:Int),(0:Int),(0:Int),(0:Int),[]),((0:Int),(0:Int),[],[],[],(0:Int),(0:Int)),x.2.2.2.2.2))
theorem q_aA:∀w_j N x,u_aA.F L0 P0 (orcOf [u_j.con w_j]) N x=V_aA w_j N x:=by intros;kernel_rfl
def W_aA (N:Nat):=V_aA (W_j N) N
theorem con_aA_ok (N:Nat):(u_aA.con (W_aA N)).ok P0:=Uf.ok mixed (q_aA (W_j N) N) ⟨con_j_ok N,trivial⟩ Tryz.func24 (by kernel_rfl) fun x y=>by kernel_rfl
def u_4:Uf:=⟨9,85,Tryz.f9,[],[],
⟨[(0,.val .bool)],[]⟩,[],
[],
[(1000006,.reg [(5,[6,9],⟨[(1,.ptr 600001 0),(5,.ptr 600005 0),(8,.ptr 600008 0),(10,.ptr 600010 0),(40,.val .bool)],[(600001,.box 39 (.val T0_)),(600005,.box 39 (.val T0_)),(600008,.box 39 (.val T0_)),(600010,.box 39 (.val T0_))]⟩),(5,[6,9],⟨[(5,.ptr 600005 0),(8,.ptr 600008 0),(10,.ptr 600010 0),(45,.val .bool)],[(600005,.box 39 (.val T0_)),(600008,.box 39 (.val T0_)),(600010,.box 39 (.val T0_))]⟩),(4,[6,9],⟨[(5,.ptr 600005 0),(8,.ptr 600008 0),(10,.ptr 600010 0),(49,.val .bool)],[(600005,.box 39 (.val T0_)),(600008,.box 39 (.val T0_)),(600010,.box 39 (.val T0_))]⟩),(3,[6,9],⟨[(5,.ptr 600005 0),(8,.ptr 600008 0),(10,.ptr 600010 0),(52,.val .bool)],[(600005,.box 39 (.val T0_)),(600008,.box 39 (.val T0_)),(600010,.box 39 (.val T0_))]⟩),(5,[9],⟨[(5,.ptr 600005 0),(8,.ptr 600008 0),(10,.ptr 600010 0),(57,.val .bool)],[(600005,.box 39 (.val T0_)),(600008,.box 39 (.val T0_)),(600010,.box 39 (.val T0_))]⟩),(7,[9],⟨[(8,.ptr 600008 0),(10,.ptr 600010 0),(64,.val .bool)],[(600008,.box 39 (.val T0_)),(600010,.box 39 (.val T0_))]⟩),(5,[9],⟨[(10,.ptr 600010 0),(69,.val .bool)],[(600010,.box 39 (.val T0_))]⟩),(5,[],⟨[(10,.ptr 600010 0),(74,.val .bool)],[(600010,.box 39 (.val T0_))]⟩),(5,[],⟨[(10,.ptr 600010 0),(79,.val .bool)],[(600010,.box 39 (.val T0_))]⟩)])],fun y=>(valW .bool y,[],[])⟩
def V_4 (w_m:A0_×Int×List UInt8×Int→Option (Bool×A0_)) (w_aR:A0_×List UInt8→Option (List (M_)×Bool×A0_)) (w_aB:A0_×List Int→Option (List (M_)×A0_)) (w_aA:A0_→Option A0_) (N:Nat) (x:Unit):Option (Bool):=
 obind (w_m ((false,(0:Int),[],((0:Int),(0:Int),(0:Int),(0:Int),(0:Int),(0:Int),[],(0:Int),(0:Int),(0:Int),(0:Int),(0:Int),
 []),((0:Int),(0:Int),[],[],[],(0:Int),(0:Int)),(0:Int)),(1:Int),[(97:UInt8)],(0:Int))) fun b=>obind (w_m (b.2,(1:Int),
 [(97:UInt8)],(0:Int))) fun b_1=>obind (w_aR (b.2,[(120:UInt8)])) fun b_2=>obind (w_aB (b.2,[(121:Int)])) fun b_3=>
 obind (w_aA b.2) fun b_4=>obind (cnd b.1 (some (b.2.1,b.2,b_2.2.2,b_3.2,b_4)) (some (false,b.2,b_2.2.2,b_3.2,b_4))) fun(b:
 Bool×A0_×A0_×A0_×A0_)=>obind (cnd b.1 (some (decide (b.2.1.2.1=(1:Int)),b.2.2)) (some (false,b.2.2))) fun(b:Bool×A0_×A0_×A0_)=>obind (cnd b.1 (some (!b_1.1,b.2)) (some (false,b.2))) fun(b:Bool×A0_×A0_×A0_)=>obind (cnd b.1 (some
 (b_2.2.1,b.2)) (some (false,b.2))) fun(b:Bool×A0_×A0_×A0_)=>obind (cnd b.1 (some (decide ((↑(List.length b_2.1):
 Int)=(0:Int)),b.2)) (some (false,b.2))) fun(b:Bool×A0_×A0_×A0_)=>obind (cnd b.1 (some (decide
 ((↑(List.length b.2.1.2.2.2.2.1.2.2.2.2.1):Int)=(1:Int)),b.2.2)) (some (false,b.2.2))) fun(b:Bool×A0_×A0_)=>obind (cnd b.1 (some (decide (b.2.1.2.2.2.2.2=(1:Int)),b.2.2)) (some (false,b.2.2))) fun(b:Bool×A0_)=>obind (cnd b.1 (some (decide
 ((↑(List.length b_3.1):Int)=(0:Int)),b.2)) (some (false,b.2))) fun(b:Bool×A0_)=>obind (cnd b.1 (some (!b.2.1,b.2)) (some (false,b.2))) fun(b:Bool×A0_)=>cnd b.1 (some (decide (b.2.2.1=(1:Int)))) (some false)
theorem q_4:∀w_m w_aR w_aB w_aA N x,u_4.F L0 P0 (orcOf [u_m.con w_m,u_aR.con w_aR,u_aB.con w_aB,u_aA.con w_aA]) N x=V_4 w_m w_aR w_aB w_aA N x:=by intros;kernel_rfl
def W_4 (N:Nat):=V_4 (W_m N) (W_aR N) (W_aB N) (W_aA N) N
theorem con_4_ok (N:Nat):(u_4.con (W_4 N)).ok P0:=Uf.ok mixed (q_4 (W_m N) (W_aR N) (W_aB N) (W_aA N) N) ⟨con_m_ok N,con_aR_ok N,con_aB_ok N,con_aA_ok N,trivial⟩ Tryz.func9 (by kernel_rfl) fun x y=>by kernel_rfl
def u_ak:Uf:=⟨10,6,Tryz.f10,[.val (.list (.int .u8))],[],
⟨[(2,.ptr 600005 0)],[(600005,.box 72 (.val T7_))]⟩,[],
[],
[],fun y=>(.ptr 2000000 0 0,[],[.box 72 (cellsW T7_ y)])⟩
def V_ak (N:Nat) (x:List Int):Option (List Int×Int):=
 some (x,(0:Int))
theorem q_ak:∀N x,u_ak.F L0 P0 (orcOf []) N x=V_ak N x:=by intros;kernel_rfl
def W_ak (N:Nat):=V_ak N
theorem con_ak_ok (N:Nat):(u_ak.con (W_ak N)).ok P0:=Uf.ok mixed (q_ak N) trivial Tryz.func10 (by kernel_rfl) fun x y=>by kernel_rfl
def u_X:Uf:=⟨25,40,Tryz.f25,[.ptr 0 0,.val (.int .i64)],[.box 72 T7_],
⟨[(0,.ptr 1000000 0),(4,.val (.int .i64))],[(1000000,.box 72 (.val T7_))]⟩,[true],
[],
[],fun y=>(valW (.int .i64) y.1,[.box 72 (cellsW T7_ y.2)],[])⟩
def V_X (N:Nat) (x:Int×List Int×Int):Option (Int×List Int×Int):=
 cnd (decide ((↑(List.length x.2.1):Int)≤x.2.2)) (some ((0:Int),x.2)) (cnd (decide (x.1<(1:Int))) (some ((0:Int),x.2)) (cnd (decide ((0:Int) ≤
 wr .i64 (wr .i64 (x.2.2+(1:Int))-(1:Int)))&&decide (wr .i64 (wr .i64 (x.2.2+(1:Int))-(1:Int))<(↑(List.length x.2.1):Int))) (cnd
 (!decide (x.1=(0:Int))) (some (Int.tmod (wr .i64 (List.getD x.2.1 (Int.toNat (wr .i64 (wr .i64 (x.2.2+(1:Int))-(1:Int)))) (0:Int))) x.1,
 x.2.1,wr .i64 (x.2.2+(1:Int)))) none) none))
theorem q_X:∀N x,u_X.F L0 P0 (orcOf []) N x=V_X N x:=by intros;kernel_rfl
def W_X (N:Nat):=V_X N
theorem con_X_ok (N:Nat):(u_X.con (W_X N)).ok P0:=Uf.ok mixed (q_X N) trivial Tryz.func25 (by kernel_rfl) fun x y=>by kernel_rfl
def u_W:Uf:=⟨11,8,Tryz.f11,[.ptr 0 0],[.box 72 T7_],
⟨[(0,.ptr 1000000 0),(2,.val .str)],[(1000000,.box 72 (.val T7_))]⟩,[true],
[],
[],fun y=>(valW .str y.1,[.box 72 (cellsW T7_ y.2)],[])⟩
def V_W (w_X:Int×List Int×Int→Option (Int×List Int×Int)) (N:Nat) (x:List Int×Int):Option (List UInt8×List Int×Int):=
 obind (w_X ((9:Int),x)) fun b=>cnd (decide ((0:Int)≤b.1)) (cnd (decide (b.1<(↑(9:Nat):Int))) (some (List.getD [[(97:UInt8),(110
 : UInt8),(110:UInt8)],[(98:UInt8),(195:UInt8),(182:UInt8),(98:UInt8)],[(230:UInt8),(151:UInt8),(165:UInt8),(230:UInt8),
 (156:UInt8),(172:UInt8)],[(120:UInt8)],[(195:UInt8),(169:UInt8),(195:UInt8),(169:UInt8),(195:UInt8),(169:UInt8),(195:
 UInt8),(169:UInt8),(195:UInt8),(169:UInt8)],[],[(116:UInt8),(119:UInt8),(111:UInt8),(32:UInt8),(119:UInt8),(111:UInt8),
 (114:UInt8),(100:UInt8),(115:UInt8)],[(97:UInt8),(255:UInt8),(98:UInt8)],[(110:UInt8),(105:UInt8),(110:UInt8),(101:
 UInt8),(99:UInt8),(104:UInt8),(97:UInt8),(114:UInt8),(115:UInt8)]] (Int.toNat b.1) [],b.2)) none) none
theorem q_W:∀w_X N x,u_W.F L0 P0 (orcOf [u_X.con w_X]) N x=V_W w_X N x:=by intros;kernel_rfl
def W_W (N:Nat):=V_W (W_X N) N
theorem con_W_ok (N:Nat):(u_W.con (W_W N)).ok P0:=Uf.ok mixed (q_W (W_X N) N) ⟨con_X_ok N,trivial⟩ Tryz.func11 (by kernel_rfl) fun x y=>by kernel_rfl
def u_U:Uf:=⟨112,86,Tryz.f112,[.val .str],[],
⟨[(2,.val (.int .i64)),(3,.val (.int .i64))],[]⟩,[],
[(15,.loop [] ⟨[(4,.val (.int .i64)),(7,.val (.int .i64))],[]⟩ [(.exit 1,⟨[(4,.val (.int .i64))],[]⟩),(.ret,⟨[(2,.val (.int .i64)),(3,.val (.int .i64))],[]⟩)])],
[(1000020,.reg [(7,[],⟨[(75,.val .bool)],[]⟩)]),
(12,.cut [] [(.normal,⟨[(4,.val (.int .i64)),(5,.val (.int .i64)),(6,.val (.int .i64))],[]⟩),(.ret,⟨[(2,.val (.int .i64)),(3,.val (.int .i64))],[]⟩)])],fun y=>(.tup [valW (.int .i64) y.1,valW (.int .i64) y.2],[],[])⟩
def V_U (N:Nat) (x:List UInt8):Option (Int×Int):=
 cnd (decide ((0:Int)≤(0:Int))&&decide ((0:Int)<(↑(List.length x):Int))) (obind (cnd (decide (wr .i64 (↑(UInt8.toNat (List.getD x (0:Nat) (0:
 UInt8))):Int)<(128:Int))) (some (Sum.inr (wr .i64 (↑(UInt8.toNat (List.getD x (0:Nat) (0:UInt8))):Int),(1:Int)))) (cnd (decide ((194:Int) ≤
 wr .i64 (↑(UInt8.toNat (List.getD x (0:Nat) (0:UInt8))):Int))) (cnd (decide (wr .i64 (↑(UInt8.toNat (List.getD x (0:Nat) (0:UInt8))):Int) ≤
 (223:Int))) (some (Sum.inl (wr .i64 (wr .i64 (↑(UInt8.toNat (List.getD x (0:Nat) (0:UInt8))):Int)-(192:Int)),(2:Int),(128:Int)))) (cnd
 (decide ((224:Int)≤wr .i64 (↑(UInt8.toNat (List.getD x (0:Nat) (0:UInt8))):Int))) (cnd (decide (wr .i64 (↑(UInt8.toNat (List.getD x (0:Nat) (0
 : UInt8))):Int)≤(239:Int))) (some (Sum.inl (wr .i64 (wr .i64 (↑(UInt8.toNat (List.getD x (0:Nat) (0:UInt8))):Int)-(224:Int)),(3:Int),
 (2048:Int)))) (cnd (decide ((240:Int)≤wr .i64 (↑(UInt8.toNat (List.getD x (0:Nat) (0:UInt8))):Int))) (cnd (decide (wr .i64 (↑(UInt8.toNat
 (List.getD x (0:Nat) (0:UInt8))):Int)≤(244:Int))) (some (Sum.inl (wr .i64 (wr .i64 (↑(UInt8.toNat (List.getD x (0:Nat) (0:UInt8))):Int) -
 (240:Int)),(4:Int),(65536:Int)))) (some (Sum.inr ((-1:Int),(1:Int))))) (some (Sum.inr ((-1:Int),(1:Int)))))) (cnd (decide ((240:Int)≤wr
 .i64 (↑(UInt8.toNat (List.getD x (0:Nat) (0:UInt8))):Int))) (cnd (decide (wr .i64 (↑(UInt8.toNat (List.getD x (0:Nat) (0:UInt8))):Int) ≤
 (244:Int))) (some (Sum.inl (wr .i64 (wr .i64 (↑(UInt8.toNat (List.getD x (0:Nat) (0:UInt8))):Int)-(240:Int)),(4:Int),(65536:Int)))) (some
 (Sum.inr ((-1:Int),(1:Int))))) (some (Sum.inr ((-1:Int),(1:Int))))))) (cnd (decide ((224:Int)≤wr .i64 (↑(UInt8.toNat (List.getD x (0:Nat) (0
 : UInt8))):Int))) (cnd (decide (wr .i64 (↑(UInt8.toNat (List.getD x (0:Nat) (0:UInt8))):Int)≤(239:Int))) (some (Sum.inl (wr .i64 (wr .i64
 (↑(UInt8.toNat (List.getD x (0:Nat) (0:UInt8))):Int)-(224:Int)),(3:Int),(2048:Int)))) (cnd (decide ((240:Int)≤wr .i64 (↑(UInt8.toNat
 (List.getD x (0:Nat) (0:UInt8))):Int))) (cnd (decide (wr .i64 (↑(UInt8.toNat (List.getD x (0:Nat) (0:UInt8))):Int)≤(244:Int))) (some
 (Sum.inl (wr .i64 (wr .i64 (↑(UInt8.toNat (List.getD x (0:Nat) (0:UInt8))):Int)-(240:Int)),(4:Int),(65536:Int)))) (some (Sum.inr ((-1:
 Int),(1:Int))))) (some (Sum.inr ((-1:Int),(1:Int)))))) (cnd (decide ((240:Int)≤wr .i64 (↑(UInt8.toNat (List.getD x (0:Nat) (0:UInt8))):
 Int))) (cnd (decide (wr .i64 (↑(UInt8.toNat (List.getD x (0:Nat) (0:UInt8))):Int)≤(244:Int))) (some (Sum.inl (wr .i64 (wr .i64 (↑(UInt8.toNat
 (List.getD x (0:Nat) (0:UInt8))):Int)-(240:Int)),(4:Int),(65536:Int)))) (some (Sum.inr ((-1:Int),(1:Int))))) (some (Sum.inr ((-1:Int),
 (1:Int)))))))) fun(b:Int×Int×Int⊕Int×Int)=>selim (fun(b:Int×Int×Int)=>cnd (decide ((↑(List.length x):Int)<b.2.1)) (some
 ((-1:Int),(1:Int))) (obind (loopN N (fun(v:Int×Int)=>cnd (decide (v.2<b.2.1)) (cnd (decide ((0:Int)≤v.2)&&decide (v.2 <
 (↑(List.length x):Int))) (cnd (decide ((↑(UInt8.toNat (List.getD x (Int.toNat v.2) (0:UInt8))):Int)<(128:Int))) (some (Sum.inr (Sum.inr ((-1
 : Int),(1:Int))))) (cnd (decide ((0:Int)≤v.2)&&decide (v.2<(↑(List.length x):Int))) (cnd (decide ((191:Int)<(↑(UInt8.toNat (List.getD x
 (Int.toNat v.2) (0:UInt8))):Int))) (some (Sum.inr (Sum.inr ((-1:Int),(1:Int))))) (cnd (decide ((0:Int)≤v.2)&&decide (v.2<(↑(List.length
 x):Int))) (some (Sum.inl (wr .i64 (wr .i64 (wr .i64 (v.1*(64:Int))+wr .i64 (↑(UInt8.toNat (List.getD x (Int.toNat v.2) (0:UInt8))):Int)) -
 (128:Int)),wr .i64 (v.2+(1:Int))))) none)) none)) none) (some (Sum.inr (Sum.inl v.1)))) (b.1,(1:Int))) fun(b_1:Int⊕Int×Int)=>selim (fun
 (b_2:Int)=>obind (cnd (decide (b_2<b.2.2)) (some true) (some (decide ((1114111:Int)<b_2)))) fun(b_3:Bool)=>cnd b_3 (some ((-1:Int),
 (1:Int))) (cnd (decide ((55296:Int)≤b_2)) (cnd (decide (b_2≤(57343:Int))) (some ((-1:Int),(1:Int))) (some (b_2,b.2.1))) (some (b_2,
 b.2.1)))) (fun(c:Int×Int)=>some c) b_1)) (fun(c:Int×Int)=>some c) b) none
theorem q_U:∀N x,u_U.F L0 P0 (orcOf []) N x=V_U N x:=by intros;kernel_rfl
def W_U (N:Nat):=V_U N
theorem con_U_ok (N:Nat):(u_U.con (W_U N)).ok P0:=Uf.ok mixed (q_U N) trivial Tryz.func112 (by kernel_rfl) fun x y=>by kernel_rfl
def u_S:Uf:=⟨55,22,Tryz.f55,[.val .str],[],
⟨[(2,.val (.list (.int .i64)))],[]⟩,[],
[(2,.loop [] ⟨[(0,.val .str),(3,.acc 700003)],[(700003,.nrow 3 (.int .i64) true true)]⟩ [(.exit 0,⟨[(3,.val (.list (.int .i64)))],[]⟩)])],
[],fun y=>(valW (.list (.int .i64)) y,[],[])⟩
def V_S (w_U:List UInt8→Option (Int×Int)) (N:Nat) (x:List UInt8):Option (List Int):=
 obind (loopN N (fun(v:List UInt8×List Int)=>cnd (decide ((0:Int)<(↑(List.length v.1):Int))) (obind (w_U v.1) fun b=>cnd
 (decide ((List.length v.2+List.length [b.1])*(8:Nat)≤(140737488355328:Nat))) (cnd (decide ((0:Int)≤b.2)&&decide (b.2≤(↑(List.length v.1)
 : Int))) (some (Sum.inl (List.drop (Int.toNat b.2) (List.take (List.length v.1) v.1),v.2++[b.1]))) none) none) (some (Sum.inr v.2))) (x,[])) fun
 (b:List Int)=>some b
theorem q_S:∀w_U N x,u_S.F L0 P0 (orcOf [u_U.con w_U]) N x=V_S w_U N x:=by intros;kernel_rfl
def W_S (N:Nat):=V_S (W_U N) N
theorem con_S_ok (N:Nat):(u_S.con (W_S N)).ok P0:=Uf.ok mixed (q_S (W_U N) N) ⟨con_U_ok N,trivial⟩ Tryz.func55 (by kernel_rfl) fun x y=>by kernel_rfl
def u_Y:Uf:=⟨29,40,Tryz.f29,[.val .str],[],
⟨[(2,.val .bool)],[]⟩,[],
[(3,.loop [3] ⟨[(4,.val (.int .i64))],[]⟩ [(.exit 0,⟨[],[]⟩),(.ret,⟨[(2,.val .bool)],[]⟩)])],
[],fun y=>(valW .bool y,[],[])⟩
def V_Y (w_S:List UInt8→Option (List Int)) (N:Nat) (x:List UInt8):Option (Bool):=
 obind (w_S x) fun b=>obind (loopN N (fun(v:Int)=>cnd (decide (v<(↑(List.length b):Int))) (cnd (decide ((0:Int)≤v)&&decide
 (v<(↑(List.length b):Int))) (cnd (decide (List.getD b (Int.toNat v) (0:Int)<(33:Int))) (some (Sum.inr (Sum.inr false))) (cnd (decide ((0:Int)
 ≤ v)&&decide (v<(↑(List.length b):Int))) (cnd (decide ((127:Int)≤List.getD b (Int.toNat v) (0:Int))) (cnd (decide ((0:Int)≤v)&&decide (v
 < (↑(List.length b):Int))) (cnd (decide (List.getD b (Int.toNat v) (0:Int)≤(159:Int))) (some (Sum.inr (Sum.inr false))) (some (Sum.inl (wr .i64
 (v+(1:Int)))))) none) (some (Sum.inl (wr .i64 (v+(1:Int)))))) none)) none) (some (Sum.inr (Sum.inl ())))) (Int.ofNat (0:Nat))) fun(b_1:PUnit
 ⊕ Bool)=>selim (fun(b_2:PUnit)=>cnd (decide ((1:Int)≤(↑(List.length b):Int))) (some (decide ((↑(List.length b):Int)≤(8:Int)))) (some
 false)) (fun(c:Bool)=>some c) b_1
theorem q_Y:∀w_S N x,u_Y.F L0 P0 (orcOf [u_S.con w_S]) N x=V_Y w_S N x:=by intros;kernel_rfl
def W_Y (N:Nat):=V_Y (W_S N) N
theorem con_Y_ok (N:Nat):(u_Y.con (W_Y N)).ok P0:=Uf.ok mixed (q_Y (W_S N) N) ⟨con_S_ok N,trivial⟩ Tryz.func29 (by kernel_rfl) fun x y=>by kernel_rfl
def u_Z:Uf:=⟨30,22,Tryz.f30,[.val (.int .i64),.val (.int .i64),.val (.int .i64),.val (.int .i64)],[],
⟨[(8,.ptr 600008 0)],[(600008,.box 31 (.val T1_))]⟩,[],
[],
[],fun y=>(valW (.agg T1_) y,[],[])⟩
def V_Z (N:Nat) (x:Int×Int×Int×Int):Option A2_:=
 cnd (decide (x.1=(1:Int))) (some (x.1,x.2.1,x.2.2.1,(0:Int),(0:Int),x.2.2.2,[(1:Int)],(0:Int),x.2.2.1,(0:Int),(0:Int),(0:Int),[])) (some (x.1,x.2.1,x.2.2.1,(0:Int),(0:Int),x.2.2.2,[],(0:Int),(0:Int),(0:Int),(0:Int),(0:Int),[]))
theorem q_Z:∀N x,u_Z.F L0 P0 (orcOf []) N x=V_Z N x:=by intros;kernel_rfl
def W_Z (N:Nat):=V_Z N
theorem con_Z_ok (N:Nat):(u_Z.con (W_Z N)).ok P0:=Uf.ok mixed (q_Z N) trivial Tryz.func30 (by kernel_rfl) fun x y=>by kernel_rfl
def u_M:Uf:=⟨13,42,Tryz.f13,[.val (.agg T0_),.val (.int .i64),.val .str,.val (.int .i64)],[],
⟨[(8,.ptr 600008 0),(9,.val .bool)],[(600008,.box 39 (.val T0_))]⟩,[],
[],
[(1000001,.reg [(7,[],⟨[(4,.ptr 600004 0),(8,.ptr 600008 0),(16,.val .bool)],[(600004,.box 39 (.val T0_)),(600008,.box 39 (.val T0_))]⟩),(4,[],⟨[(4,.ptr 600004 0),(8,.ptr 600008 0),(20,.val .bool)],[(600004,.box 39 (.val T0_)),(600008,.box 39 (.val T0_))]⟩),(4,[],⟨[(4,.ptr 600004 0),(8,.ptr 600008 0),(24,.val .bool)],[(600004,.box 39 (.val T0_)),(600008,.box 39 (.val T0_))]⟩)])],fun y=>(.tup [valW (.agg T0_) y.2,valW .bool y.1],[],[])⟩
def V_M (w_Y:List UInt8→Option (Bool)) (w_Z:Int×Int×Int×Int→Option A2_) (N:Nat) (x:A0_×Int×List UInt8×Int):Option (Bool×A0_):=
 obind (cnd x.1.1 (some (true,x.1,false,(0:Int),[],((0:Int),(0:Int),(0:Int),(0:Int),(0:Int),(0:Int),[],(0:Int),(0:Int),(0:Int),(0:Int),
 (0:Int),[]),((0:Int),(0:Int),[],[],[],(0:Int),(0:Int)),(0:Int))) (obind (w_Y x.2.2.1) fun b=>some (!b,x.1,false,(0:Int),[],
 ((0:Int),(0:Int),(0:Int),(0:Int),(0:Int),(0:Int),[],(0:Int),(0:Int),(0:Int),(0:Int),(0:Int),[]),((0:Int),(0:Int),[],[],[],(0:Int),
 (0:Int)),(0:Int)))) fun(b:Bool×A0_×A0_)=>obind (cnd b.1 (some (true,
 b.2)) (some (decide (x.2.1<(1:Int)),b.2))) fun(b:Bool×A0_×A0_)=>obind (cnd
 b.1 (some (true,b.2)) (some (decide ((8:Int)<x.2.1),b.2))) fun(b:Bool×A0_×A0_)=>cnd b.1 (some (false,b.2.1)) (cnd (decide ((1073741824:Int)≤b.2.1.2.1)) (some (false,b.2.1)) (obind (w_Z (x.2.1,wr .i64
 (b.2.1.2.1+(1:Int)),(0:Int),x.2.2.2)) fun b_1=>some (true,true,wr .i64 (b.2.1.2.1+(1:Int)),x.2.2.1,b_1,((0:Int),(0:Int),[],[],[],
 (0:Int),(0:Int)),(0:Int))))
theorem q_M:∀w_Y w_Z N x,u_M.F L0 P0 (orcOf [u_Y.con w_Y,u_Z.con w_Z]) N x=V_M w_Y w_Z N x:=by intros;kernel_rfl
def W_M (N:Nat):=V_M (W_Y N) (W_Z N) N
theorem con_M_ok (N:Nat):(u_M.con (W_M N)).ok P0:=Uf.ok mixed (q_M (W_Y N) (W_Z N) N) ⟨con_Y_ok N,con_Z_ok N,trivial⟩ Tryz.func13 (by kernel_rfl) fun x y=>by kernel_rfl
def u_R:Uf:=⟨56,26,Tryz.f56,[.val (.list (.int .i64)),.val (.list (.int .i64))],[],
⟨[(4,.val .bool)],[]⟩,[],
[(4,.loop [] ⟨[(5,.val (.int .i64))],[]⟩ [(.exit 0,⟨[],[]⟩),(.ret,⟨[(4,.val .bool)],[]⟩)])],
[],fun y=>(valW .bool y,[],[])⟩
def V_R (N:Nat) (x:List Int×List Int):Option (Bool):=
 cnd (decide ((↑(List.length x.1):Int)≠(↑(List.length x.2):Int))) (some false) (obind (loopN N (fun(v:Int)=>cnd (decide (v<(↑(List.length
 x.1):Int))) (cnd (decide ((0:Int)≤v)&&decide (v<(↑(List.length x.1):Int))) (cnd (decide ((0:Int)≤v)&&decide (v<(↑(List.length x.2):
 Int))) (cnd (decide (List.getD x.1 (Int.toNat v) (0:Int)≠List.getD x.2 (Int.toNat v) (0:Int))) (some (Sum.inr (Sum.inr false))) (some (Sum.inl (wr
 .i64 (v+(1:Int)))))) none) none) (some (Sum.inr (Sum.inl ())))) (Int.ofNat (0:Nat))) fun(b:PUnit⊕Bool)=>selim (fun(b:PUnit)=>some
 true) (fun(c:Bool)=>some c) b)
theorem q_R:∀N x,u_R.F L0 P0 (orcOf []) N x=V_R N x:=by intros;kernel_rfl
def W_R (N:Nat):=V_R N
theorem con_R_ok (N:Nat):(u_R.con (W_R N)).ok P0:=Uf.ok mixed (q_R N) trivial Tryz.func56 (by kernel_rfl) fun x y=>by kernel_rfl
def u_af:Uf:=⟨57,26,Tryz.f57,[.val (.list T3_),.val (.list T3_)],[],
⟨[(4,.val .bool)],[]⟩,[],
[(4,.loop [] ⟨[(5,.val (.int .i64))],[]⟩ [(.exit 0,⟨[],[]⟩),(.ret,⟨[(4,.val .bool)],[]⟩)])],
[],fun y=>(valW .bool y,[],[])⟩
def V_af (N:Nat) (x:List (Int×Int×Int)×List (Int×Int×Int)):Option (Bool):=
 cnd (decide ((↑(List.length x.1):Int)≠(↑(List.length x.2):Int))) (some false) (obind (loopN N (fun(v:Int)=>cnd (decide (v<(↑(List.length
 x.1):Int))) (cnd (decide ((0:Int)≤v)&&decide (v<(↑(List.length x.1):Int))) (cnd (decide ((0:Int)≤v)&&decide (v<(↑(List.length x.2):
 Int))) (cnd (!(decide (Prod.fst (List.getD x.1 (Int.toNat v) ((0:Int),(0:Int),(0:Int)))=Prod.fst (List.getD x.2 (Int.toNat v) ((0:Int),(0:Int),
 (0:Int))))&&(decide (Prod.fst (Prod.snd (List.getD x.1 (Int.toNat v) ((0:Int),(0:Int),(0:Int))))=Prod.fst (Prod.snd (List.getD x.2 (Int.toNat
 v) ((0:Int),(0:Int),(0:Int)))))&&decide (Prod.snd (Prod.snd (List.getD x.1 (Int.toNat v) ((0:Int),(0:Int),(0:Int))))=Prod.snd (Prod.snd
 (List.getD x.2 (Int.toNat v) ((0:Int),(0:Int),(0:Int)))))))) (some (Sum.inr (Sum.inr false))) (some (Sum.inl (wr .i64 (v+(1:Int)))))) none)
 none) (some (Sum.inr (Sum.inl ())))) (Int.ofNat (0:Nat))) fun(b:PUnit⊕Bool)=>selim (fun(b:PUnit)=>some true) (fun(c:Bool)=>some c)
 b)
theorem q_af:∀N x,u_af.F L0 P0 (orcOf []) N x=V_af N x:=by intros;kernel_rfl
def W_af (N:Nat):=V_af N
theorem con_af_ok (N:Nat):(u_af.con (W_af N)).ok P0:=Uf.ok mixed (q_af N) trivial Tryz.func57 (by kernel_rfl) fun x y=>by kernel_rfl
def u_3:Uf:=⟨31,94,Tryz.f31,[.val (.agg T1_),.val (.agg T1_)],[],
⟨[(4,.val .bool)],[]⟩,[],
[],
[(1000001,.reg [(12,[],⟨[(2,.ptr 600002 0),(3,.ptr 600003 0),(16,.val .bool)],[(600002,.box 31 (.val T1_)),(600003,.box 31 (.val T1_))]⟩),(7,[],⟨[(2,.ptr 600002 0),(3,.ptr 600003 0),(23,.val .bool)],[(600002,.box 31 (.val T1_)),(600003,.box 31 (.val T1_))]⟩),(7,[],⟨[(2,.ptr 600002 0),(3,.ptr 600003 0),(30,.val .bool)],[(600002,.box 31 (.val T1_)),(600003,.box 31 (.val T1_))]⟩),(7,[],⟨[(2,.ptr 600002 0),(3,.ptr 600003 0),(37,.val .bool)],[(600002,.box 31 (.val T1_)),(600003,.box 31 (.val T1_))]⟩),(7,[],⟨[(2,.ptr 600002 0),(3,.ptr 600003 0),(44,.val .bool)],[(600002,.box 31 (.val T1_)),(600003,.box 31 (.val T1_))]⟩),(7,[],⟨[(2,.ptr 600002 0),(3,.ptr 600003 0),(51,.val .bool)],[(600002,.box 31 (.val T1_)),(600003,.box 31 (.val T1_))]⟩),(7,[],⟨[(2,.ptr 600002 0),(3,.ptr 600003 0),(58,.val .bool)],[(600002,.box 31 (.val T1_)),(600003,.box 31 (.val T1_))]⟩),(7,[],⟨[(2,.ptr 600002 0),(3,.ptr 600003 0),(65,.val .bool)],[(600002,.box 31 (.val T1_)),(600003,.box 31 (.val T1_))]⟩),(7,[],⟨[(2,.ptr 600002 0),(3,.ptr 600003 0),(72,.val .bool)],[(600002,.box 31 (.val T1_)),(600003,.box 31 (.val T1_))]⟩),(7,[],⟨[(2,.ptr 600002 0),(3,.ptr 600003 0),(79,.val .bool)],[(600002,.box 31 (.val T1_)),(600003,.box 31 (.val T1_))]⟩),(7,[],⟨[(2,.ptr 600002 0),(3,.ptr 600003 0),(86,.val .bool)],[(600002,.box 31 (.val T1_)),(600003,.box 31 (.val T1_))]⟩)])],fun y=>(valW .bool y,[],[])⟩
def V_3 (w_R:List Int×List Int→Option (Bool)) (w_af:List (Int×Int×Int)×List (Int×Int×Int)→Option (Bool)) (N:Nat) (x:A2_×A2_):Option (Bool):=
 obind (cnd (decide (x.1.1=x.2.1)) (some (decide (x.1.2.1=x.2.2.1),x)) (some (false,x))) fun(b:Bool×A2_×A2_)=>obind (cnd b.1 (some (decide (b.2.1.2.2.1=b.2.2.2.2.1),b.2)) (some (false,b.2))) fun(b:Bool×A2_×A2_)=>obind (cnd b.1 (some (decide (b.2.1.2.2.2.1=b.2.2.2.2.2.1),b.2)) (some (false,b.2))) fun(b:Bool×A2_×A2_)=>obind (cnd b.1 (some (decide (b.2.1.2.2.2.2.1=b.2.2.2.2.2.2.1),b.2)) (some (false,b.2)))
 fun(b:Bool×A2_×A2_)=>obind (cnd b.1 (some (decide (b.2.1.2.2.2.2.2.1=b.2.2.2.2.2.2.2.1),
 b.2)) (some (false,b.2))) fun(b:Bool×A2_×A2_)=>obind (cnd b.1 (obind (w_R
 (b.2.1.2.2.2.2.2.2.1,b.2.2.2.2.2.2.2.2.1)) fun b_1=>some (b_1,b.2)) (some (false,b.2))) fun(b:Bool×A2_×A2_)=>obind (cnd b.1 (some (decide (b.2.1.2.2.2.2.2.2.2.1=b.2.2.2.2.2.2.2.2.2.1),b.2)) (some (false,b.2))) fun(b:Bool×A2_×A2_)=>obind (cnd b.1 (some (decide (b.2.1.2.2.2.2.2.2.2.2.1=b.2.2.2.2.2.2.2.2.2.2.1),b.2))
 (some (false,b.2))) fun(b:Bool×A2_×A2_)=>obind (cnd b.1 (some (decide
 (b.2.1.2.2.2.2.2.2.2.2.2.1=b.2.2.2.2.2.2.2.2.2.2.2.1),b.2)) (some (false,b.2))) fun(b:Bool×A2_×A2_)=>obind (cnd b.1 (some (decide (b.2.1.2.2.2.2.2.2.2.2.2.2.1=b.2.2.2.2.2.2.2.2.2.2.2.2.1),b.2)) (some (false,b.2))) fun(b:Bool×A2_×A2_)=>obind (cnd b.1 (some (decide (b.2.1.2.2.2.2.2.2.2.2.2.2.2.1=
 b.2.2.2.2.2.2.2.2.2.2.2.2.2.1),b.2)) (some (false,b.2))) fun(b:Bool×A2_×A2_)=>cnd b.1
 (obind (w_af (b.2.1.2.2.2.2.2.2.2.2.2.2.2.2,b.2.2.2.2.2.2.2.2.2.2.2.2.2.2)) fun b=>some b) (some false)
theorem q_3:∀w_R w_af N x,u_3.F L0 P0 (orcOf [u_R.con w_R,u_af.con w_af]) N x=V_3 w_R w_af N x:=by intros;kernel_rfl
def W_3 (N:Nat):=V_3 (W_R N) (W_af N) N
theorem con_3_ok (N:Nat):(u_3.con (W_3 N)).ok P0:=Uf.ok mixed (q_3 (W_R N) (W_af N) N) ⟨con_R_ok N,con_af_ok N,trivial⟩ Tryz.func31 (by kernel_rfl) fun x y=>by kernel_rfl
def u_ad:Uf:=⟨58,26,Tryz.f58,[.val (.list T5_),.val (.list T5_)],[],
⟨[(4,.val .bool)],[]⟩,[],
[(4,.loop [] ⟨[(5,.val (.int .i64))],[]⟩ [(.exit 0,⟨[],[]⟩),(.ret,⟨[(4,.val .bool)],[]⟩)])],
[],fun y=>(valW .bool y,[],[])⟩
def V_ad (N:Nat) (x:List (Int×List UInt8)×List (Int×List UInt8)):Option (Bool):=
 cnd (decide ((↑(List.length x.1):Int)≠(↑(List.length x.2):Int))) (some false) (obind (loopN N (fun(v:Int)=>cnd (decide (v<(↑(List.length
 x.1):Int))) (cnd (decide ((0:Int)≤v)&&decide (v<(↑(List.length x.1):Int))) (cnd (decide ((0:Int)≤v)&&decide (v<(↑(List.length x.2):
 Int))) (cnd (!(decide (Prod.fst (List.getD x.1 (Int.toNat v) ((0:Int),[]))=Prod.fst (List.getD x.2 (Int.toNat v) ((0:Int),[])))&&Prod.snd
 (List.getD x.1 (Int.toNat v) ((0:Int),[]))==Prod.snd (List.getD x.2 (Int.toNat v) ((0:Int),[])))) (some (Sum.inr (Sum.inr false))) (some
 (Sum.inl (wr .i64 (v+(1:Int)))))) none) none) (some (Sum.inr (Sum.inl ())))) (Int.ofNat (0:Nat))) fun(b:PUnit⊕Bool)=>selim (fun(b:PUnit)
 => some true) (fun(c:Bool)=>some c) b)
theorem q_ad:∀N x,u_ad.F L0 P0 (orcOf []) N x=V_ad N x:=by intros;kernel_rfl
def W_ad (N:Nat):=V_ad N
theorem con_ad_ok (N:Nat):(u_ad.con (W_ad N)).ok P0:=Uf.ok mixed (q_ad N) trivial Tryz.func58 (by kernel_rfl) fun x y=>by kernel_rfl
def u_ao:Uf:=⟨59,26,Tryz.f59,[.val (.list T4_),.val (.list T4_)],[],
⟨[(4,.val .bool)],[]⟩,[],
[(4,.loop [] ⟨[(5,.val (.int .i64))],[]⟩ [(.exit 0,⟨[],[]⟩),(.ret,⟨[(4,.val .bool)],[]⟩)])],
[],fun y=>(valW .bool y,[],[])⟩
def V_ao (N:Nat) (x:List A4_×List A4_):Option (Bool):=
 cnd (decide ((↑(List.length x.1):Int)≠(↑(List.length x.2):Int))) (some false) (obind (loopN N (fun(v:Int)=>cnd (decide (v<(↑(List.length
 x.1):Int))) (cnd (decide ((0:Int)≤v)&&decide (v<(↑(List.length x.1):Int))) (cnd (decide ((0:Int)≤v)&&decide (v<(↑(List.length x.2):
 Int))) (cnd (!(decide (Prod.fst (List.getD x.1 (Int.toNat v) ((0:Int),(0:Int),(0:Int),[],(0:Int)))=Prod.fst (List.getD x.2 (Int.toNat v)
 ((0:Int),(0:Int),(0:Int),[],(0:Int))))&&(decide (Prod.fst (Prod.snd (List.getD x.1 (Int.toNat v) ((0:Int),(0:Int),(0:Int),[],(0:Int))))=
 Prod.fst (Prod.snd (List.getD x.2 (Int.toNat v) ((0:Int),(0:Int),(0:Int),[],(0:Int)))))&&(decide (Prod.fst (Prod.snd (Prod.snd (List.getD x.1
 (Int.toNat v) ((0:Int),(0:Int),(0:Int),[],(0:Int)))))=Prod.fst (Prod.snd (Prod.snd (List.getD x.2 (Int.toNat v) ((0:Int),(0:Int),(0:Int),
 [],(0:Int))))))&&(Prod.fst (Prod.snd (Prod.snd (Prod.snd (List.getD x.1 (Int.toNat v) ((0:Int),(0:Int),(0:Int),[],(0:Int))))))==Prod.fst
 (Prod.snd (Prod.snd (Prod.snd (List.getD x.2 (Int.toNat v) ((0:Int),(0:Int),(0:Int),[],(0:Int))))))&&decide (Prod.snd (Prod.snd (Prod.snd
 (Prod.snd (List.getD x.1 (Int.toNat v) ((0:Int),(0:Int),(0:Int),[],(0:Int))))))=Prod.snd (Prod.snd (Prod.snd (Prod.snd (List.getD x.2
 (Int.toNat v) ((0:Int),(0:Int),(0:Int),[],(0:Int)))))))))))) (some (Sum.inr (Sum.inr false))) (some (Sum.inl (wr .i64 (v+(1:Int)))))) none)
 none) (some (Sum.inr (Sum.inl ())))) (Int.ofNat (0:Nat))) fun(b:PUnit⊕Bool)=>selim (fun(b:PUnit)=>some true) (fun(c:Bool)=>some c)
 b)
theorem q_ao:∀N x,u_ao.F L0 P0 (orcOf []) N x=V_ao N x:=by intros;kernel_rfl
def W_ao (N:Nat):=V_ao N
theorem con_ao_ok (N:Nat):(u_ao.con (W_ao N)).ok P0:=Uf.ok mixed (q_ao N) trivial Tryz.func59 (by kernel_rfl) fun x y=>by kernel_rfl
def u_ae:Uf:=⟨32,45,Tryz.f32,[.val (.agg T2_),.val (.agg T2_)],[],
⟨[(4,.val .bool)],[]⟩,[],
[],
[(1000001,.reg [(12,[],⟨[(2,.ptr 600002 0),(3,.ptr 600003 0),(16,.val .bool)],[(600002,.box 37 (.val T2_)),(600003,.box 37 (.val T2_))]⟩),(7,[],⟨[(2,.ptr 600002 0),(3,.ptr 600003 0),(23,.val .bool)],[(600002,.box 37 (.val T2_)),(600003,.box 37 (.val T2_))]⟩),(7,[],⟨[(2,.ptr 600002 0),(3,.ptr 600003 0),(30,.val .bool)],[(600002,.box 37 (.val T2_)),(600003,.box 37 (.val T2_))]⟩),(7,[],⟨[(2,.ptr 600002 0),(3,.ptr 600003 0),(37,.val .bool)],[(600002,.box 37 (.val T2_)),(600003,.box 37 (.val T2_))]⟩)])],fun y=>(valW .bool y,[],[])⟩
def V_ae (w_ad:List (Int×List UInt8)×List (Int×List UInt8)→Option (Bool)) (w_ao:List A4_×List A4_→Option (Bool)) (N:Nat) (x:A1_×A1_):Option (Bool):=
 obind (cnd (decide (x.1.1=x.2.1)) (some (decide (x.1.2.1=x.2.2.1),x)) (some (false,x))) fun(b:Bool×A1_×A1_)=>obind (cnd b.1 (obind (w_ad (b.2.1.2.2.1,b.2.2.2.2.1)) fun b_1=>some
 (b_1,b.2)) (some (false,b.2))) fun(b:Bool×A1_×A1_)=>
 obind (cnd b.1 (obind (w_ad (b.2.1.2.2.2.1,b.2.2.2.2.2.1)) fun b_1=>some (b_1,b.2)) (some (false,b.2))) fun(b:Bool×A1_×A1_)=>obind (cnd b.1 (obind (w_ao
 (b.2.1.2.2.2.2.1,b.2.2.2.2.2.2.1)) fun b_1=>some (b_1,b.2)) (some (false,b.2))) fun(b:Bool×A1_×A1_)=>cnd b.1 (some (decide (b.2.1.2.2.2.2.2.1=b.2.2.2.2.2.2.2.1)&&decide (b.2.1.2.2.2.2.2.2=
 b.2.2.2.2.2.2.2.2))) (some false)
theorem q_ae:∀w_ad w_ao N x,u_ae.F L0 P0 (orcOf [u_ad.con w_ad,u_ao.con w_ao]) N x=V_ae w_ad w_ao N x:=by intros;kernel_rfl
def W_ae (N:Nat):=V_ae (W_ad N) (W_ao N) N
theorem con_ae_ok (N:Nat):(u_ae.con (W_ae N)).ok P0:=Uf.ok mixed (q_ae (W_ad N) (W_ao N) N) ⟨con_ad_ok N,con_ao_ok N,trivial⟩ Tryz.func32 (by kernel_rfl) fun x y=>by kernel_rfl
def u_r:Uf:=⟨14,45,Tryz.f14,[.val (.agg T0_),.val (.agg T0_)],[],
⟨[(4,.val .bool)],[]⟩,[],
[],
[(1000001,.reg [(12,[],⟨[(2,.ptr 600002 0),(3,.ptr 600003 0),(16,.val .bool)],[(600002,.box 39 (.val T0_)),(600003,.box 39 (.val T0_))]⟩),(7,[],⟨[(2,.ptr 600002 0),(3,.ptr 600003 0),(23,.val .bool)],[(600002,.box 39 (.val T0_)),(600003,.box 39 (.val T0_))]⟩),(7,[],⟨[(2,.ptr 600002 0),(3,.ptr 600003 0),(30,.val .bool)],[(600002,.box 39 (.val T0_)),(600003,.box 39 (.val T0_))]⟩),(7,[],⟨[(2,.ptr 600002 0),(3,.ptr 600003 0),(37,.val .bool)],[(600002,.box 39 (.val T0_)),(600003,.box 39 (.val T0_))]⟩)])],fun y=>(valW .bool y,[],[])⟩
def V_r (w_3:A2_×A2_→Option (Bool)) (w_ae:A1_×A1_→Option (Bool)) (N:Nat) (x:A0_×A0_):Option (Bool):=
 obind (cnd (x.1.1==x.2.1) (some (decide (x.1.2.1=x.2.2.1),x)) (some (false,x))) fun(b:Bool×A0_×A0_)=>obind (cnd b.1 (some (b.2.1.2.2.1==b.2.2.2.2.1,b.2)) (some (false,b.2))) fun(b:Bool×A0_×A0_)=>obind (cnd b.1 (obind (w_3 (b.2.1.2.2.2.1,b.2.2.2.2.2.1)) fun b_1=>some
 (b_1,b.2)) (some (false,b.2))) fun(b:Bool×A0_×A0_)=>obind (cnd b.1 (obind
 (w_ae (b.2.1.2.2.2.2.1,b.2.2.2.2.2.2.1)) fun b_1=>some (b_1,b.2)) (some (false,b.2))) fun(b:Bool×A0_×A0_)=>cnd b.1 (some (decide (b.2.1.2.2.2.2.2=b.2.2.2.2.2.2.2))) (some false)
theorem q_r:∀w_3 w_ae N x,u_r.F L0 P0 (orcOf [u_3.con w_3,u_ae.con w_ae]) N x=V_r w_3 w_ae N x:=by intros;kernel_rfl
def W_r (N:Nat):=V_r (W_3 N) (W_ae N) N
theorem con_r_ok (N:Nat):(u_r.con (W_r N)).ok P0:=Uf.ok mixed (q_r (W_3 N) (W_ae N) N) ⟨con_3_ok N,con_ae_ok N,trivial⟩ Tryz.func14 (by kernel_rfl) fun x y=>by kernel_rfl
def u_a1:Uf:=⟨3,115,Tryz.f3,[.val (.int .i64),.val .str,.val (.int .i64),.val (.int .i64),.val (.int .u8)],[],
⟨[(10,.val .bool)],[]⟩,[],
[(8,.unroll 5)],
[(1000014,.reg [(9,[11,12],⟨[(17,.ptr 600017 0),(19,.ptr 600019 0),(102,.val .bool)],[(600017,.box 39 (.val T0_)),(600019,.box 39 (.val T0_))]⟩)]),
(9,.cut [11,12] [(.normal,⟨[],[]⟩),(.ret,⟨[(10,.val .bool)],[]⟩)])],fun y=>(valW .bool y,[],[])⟩
def V_a1 (w_4:Unit→Option (Bool)) (w_ak:List Int→Option (List Int×Int)) (w_W:List Int×Int→Option (List UInt8×List Int×Int)) (w_m:A0_×Int×List UInt8×Int→Option (Bool×A0_)) (w_M:A0_×Int×List UInt8×Int→Option (Bool×A0_)) (w_r:A0_×A0_→Option (Bool)) (N:Nat) (x:Int×List UInt8×Int×Int×Int):Option (Bool):=
 obind (w_4 ()) fun b=>cnd (!b) (some false) (cnd (decide ((40:Int)<(↑(List.length x.2.1):Int))) (some true) (obind (w_ak
 [x.2.2.2.2]) fun b=>obind (w_W b) fun b=>obind (obind (w_m ((false,x.2.2.2.1,[],((0:Int),(0:Int),(0:Int),(0:Int),
 (0:Int),(0:Int),[],(0:Int),(0:Int),(0:Int),(0:Int),(0:Int),[]),((0:Int),(0:Int),[],[],[],(0:Int),(0:Int)),wr .i64 x.2.2.2.2),x.1,
 x.2.1,x.2.2.1)) fun b=>obind (w_M ((false,x.2.2.2.1,[],((0:Int),(0:Int),(0:Int),(0:Int),(0:Int),(0:Int),[],(0:Int),(0:Int),
 (0:Int),(0:Int),(0:Int),[]),((0:Int),(0:Int),[],[],[],(0:Int),(0:Int)),wr .i64 x.2.2.2.2),x.1,x.2.1,x.2.2.1)) fun b_1=>obind
 (w_m (b_1.2,x.1,x.2.1,x.2.2.1)) fun b_2=>obind (cnd (!b.1==b_1.1) (some (true,b_1.2,b_2.2)) (obind (w_r (b.2,
 b_1.2)) fun b=>some (!b,b_1.2,b_2.2))) fun(b:Bool×A0_×A0_)=>cnd b.1
 (some (Sum.inr false)) (cnd b_1.1 (cnd b_2.1 (some (Sum.inr false)) (obind (w_r (b.2.2,b.2.1)) fun b=>cnd (!b) (some (Sum.inr
 false)) (some (Sum.inl ())))) (some (Sum.inl ())))) fun(b_1:PUnit⊕Bool)=>selim (fun(b_2:PUnit)=>obind (obind (w_m ((false,
 x.2.2.2.1,[],((0:Int),(0:Int),(0:Int),(0:Int),(0:Int),(0:Int),[],(0:Int),(0:Int),(0:Int),(0:Int),(0:Int),[]),((0:Int),(0:Int),[],
 [],[],(0:Int),(0:Int)),wr .i64 x.2.2.2.2),wr .i64 ((1:Int)+wr .i64 (Int.tmod x.2.2.2.2 (8:Int))),x.2.1,x.2.2.1)) fun b=>obind
 (w_M ((false,x.2.2.2.1,[],((0:Int),(0:Int),(0:Int),(0:Int),(0:Int),(0:Int),[],(0:Int),(0:Int),(0:Int),(0:Int),(0:Int),[]),
 ((0:Int),(0:Int),[],[],[],(0:Int),(0:Int)),wr .i64 x.2.2.2.2),wr .i64 ((1:Int)+wr .i64 (Int.tmod x.2.2.2.2 (8:Int))),x.2.1,x.2.2.1)) fun
 b_3=>obind (w_m (b_3.2,wr .i64 ((1:Int)+wr .i64 (Int.tmod x.2.2.2.2 (8:Int))),x.2.1,x.2.2.1)) fun b_4=>obind (cnd (!b.1==b_3.1)
 (some (true,b_3.2,b_4.2)) (obind (w_r (b.2,b_3.2)) fun b=>some (!b,b_3.2,b_4.2))) fun(b:Bool×A0_×A0_)=>cnd b.1 (some (Sum.inr false)) (cnd b_3.1 (cnd b_4.1 (some (Sum.inr false)) (obind
 (w_r (b.2.2,b.2.1)) fun b=>cnd (!b) (some (Sum.inr false)) (some (Sum.inl ())))) (some (Sum.inl ())))) fun(b_3:PUnit⊕Bool)=>
 selim (fun(b_4:PUnit)=>obind (obind (w_m ((false,x.2.2.2.1,[],((0:Int),(0:Int),(0:Int),(0:Int),(0:Int),(0:Int),[],(0:Int),
 (0:Int),(0:Int),(0:Int),(0:Int),[]),((0:Int),(0:Int),[],[],[],(0:Int),(0:Int)),wr .i64 x.2.2.2.2),x.1,b.1,x.2.2.1)) fun b_5=>obind
 (w_M ((false,x.2.2.2.1,[],((0:Int),(0:Int),(0:Int),(0:Int),(0:Int),(0:Int),[],(0:Int),(0:Int),(0:Int),(0:Int),(0:Int),[]),
 ((0:Int),(0:Int),[],[],[],(0:Int),(0:Int)),wr .i64 x.2.2.2.2),x.1,b.1,x.2.2.1)) fun b_6=>obind (w_m (b_6.2,x.1,b.1,
 x.2.2.1)) fun b=>obind (cnd (!b_5.1==b_6.1) (some (true,b_6.2,b.2)) (obind (w_r (b_5.2,b_6.2)) fun b_7=>some (!b_7,b_6.2,
 b.2))) fun(b_7:Bool×A0_×A0_)=>cnd b_7.1 (some (Sum.inr false)) (cnd b_6.1 (cnd
 b.1 (some (Sum.inr false)) (obind (w_r (b_7.2.2,b_7.2.1)) fun b=>cnd (!b) (some (Sum.inr false)) (some (Sum.inl ())))) (some
 (Sum.inl ())))) fun(b_5:PUnit⊕Bool)=>selim (fun(b_6:PUnit)=>obind (obind (w_m ((false,x.2.2.2.1,[],((0:Int),(0:Int),
 (0:Int),(0:Int),(0:Int),(0:Int),[],(0:Int),(0:Int),(0:Int),(0:Int),(0:Int),[]),((0:Int),(0:Int),[],[],[],(0:Int),(0:Int)),wr .i64
 x.2.2.2.2),wr .i64 ((1:Int)+wr .i64 (Int.tmod x.2.2.2.2 (8:Int))),b.1,x.2.2.1)) fun b_7=>obind (w_M ((false,x.2.2.2.1,[],
 ((0:Int),(0:Int),(0:Int),(0:Int),(0:Int),(0:Int),[],(0:Int),(0:Int),(0:Int),(0:Int),(0:Int),[]),((0:Int),(0:Int),[],[],[],(0:Int),
 (0:Int)),wr .i64 x.2.2.2.2),wr .i64 ((1:Int)+wr .i64 (Int.tmod x.2.2.2.2 (8:Int))),b.1,x.2.2.1)) fun b_8=>obind (w_m (b_8.2,wr
 .i64 ((1:Int)+wr .i64 (Int.tmod x.2.2.2.2 (8:Int))),b.1,x.2.2.1)) fun b=>obind (cnd (!b_7.1==b_8.1) (some (true,b_8.2,b.2)) (obind
 (w_r (b_7.2,b_8.2)) fun b_9=>some (!b_9,b_8.2,b.2))) fun(b_9:Bool×A0_×A0_)=>cnd b_9.1 (some (Sum.inr false)) (cnd b_8.1 (cnd b.1 (some (Sum.inr false)) (obind (w_r (b_9.2.2,b_9.2.1)) fun
 b=>cnd (!b) (some (Sum.inr false)) (some (Sum.inl ())))) (some (Sum.inl ())))) fun(b:PUnit⊕Bool)=>selim (fun(b:PUnit)=>some true) (fun
 (c:Bool)=>some c) b) (fun(c:Bool)=>some c) b_5) (fun(c:Bool)=>some c) b_3) (fun(c:Bool)=>some c) b_1))
theorem q_a1:∀w_4 w_ak w_W w_m w_M w_r N x,u_a1.F L0 P0 (orcOf [u_4.con w_4,u_ak.con w_ak,u_W.con w_W,u_m.con w_m,u_M.con w_M,u_r.con w_r]) N x=V_a1 w_4 w_ak w_W w_m w_M w_r N x:=by intros;kernel_rfl
def W_a1 (N:Nat):=V_a1 (W_4 N) (W_ak N) (W_W N) (W_m N) (W_M N) (W_r N) N
theorem con_a1_ok (N:Nat):(u_a1.con (W_a1 N)).ok P0:=Uf.ok mixed (q_a1 (W_4 N) (W_ak N) (W_W N) (W_m N) (W_M N) (W_r N) N) ⟨con_4_ok N,con_ak_ok N,con_W_ok N,con_m_ok N,con_M_ok N,con_r_ok N,trivial⟩ Tryz.func3 (by kernel_rfl) fun x y=>by kernel_rfl
/-! What is reckoned. -/
-- PURE
def atL (l:List UInt8) (k:Nat):Nat:=(l.getD k 0).toNat
def ctL (l:List UInt8) (k:Nat):Bool:=decide (k<l.length)&&atL l k / 64==2
def dkN (b0 a1 a2 a3:Nat) (c1 c2 c3:Bool):Nat×Nat:=
  if b0<0x80 then(b0,1)
  else if b0 / 32==6&&c1 then
    if (b0 % 32)*64+a1 % 64 ≥ 0x80 then((b0 % 32)*64+a1 % 64,2) else(65533,1)
  else if b0 / 16==14&&c1&&c2 then
    if (b0 % 16)*4096+(a1 % 64)*64+a2 % 64 ≥ 0x800&&Utf8.valid ((b0 % 16)*4096+(a1 % 64)*64+a2 % 64:Nat) then((b0 % 16)*4096+(a1 % 64)*64+a2 % 64,3) else(65533,1)
  else if b0 / 8==30&&c1&&c2&&c3 then
    if (b0 % 8)*262144+(a1 % 64)*4096+(a2 % 64)*64+a3 % 64 ≥ 0x10000&&Utf8.valid ((b0 % 8)*262144+(a1 % 64)*4096+(a2 % 64)*64+a3 % 64:Nat) then((b0 % 8)*262144+(a1 % 64)*4096+(a2 % 64)*64+a3 % 64,4) else(65533,1)
  else(65533,1)
def dk (l:List UInt8):Nat×Nat:=dkN (atL l 0) (atL l 1) (atL l 2) (atL l 3) (ctL l 1) (ctL l 2) (ctL l 3)
theorem get_eq (s:List UInt8) (j:Nat):(ByteArray.get! ⟨⟨s⟩⟩ j)=s.getD j 0:=by
  show (Array.mk s)[j]! = _
  rw[List.getD_eq_getElem?_getD,getElem!_def]
  simp
  cases s[j]?<;>rfl
theorem at_drop (s:List UInt8) (i k:Nat):atL (s.drop i) k=(s.getD (i+k) 0).toNat:=by
  unfold atL
  rw[List.getD_eq_getElem?_getD,List.getD_eq_getElem?_getD,List.getElem?_drop]
theorem decode_eq (s:List UInt8) (i:Nat):Utf8.decode ⟨⟨s⟩⟩ i=dk (s.drop i):=by
  have hs:(ByteArray.mk ⟨s⟩).size=s.length:=rfl
  have hc:∀k,ctL (s.drop i) k=(decide (i+k<s.length)&&(s.getD (i+k) 0).toNat / 64==2):=by
    intro k
    unfold ctL
    rw[at_drop]
    congr 1
    rw[List.length_drop]
    exact decide_eq_decide.2 (by omega)
  unfold Utf8.decode dk dkN
  simp only[hc,at_drop,get_eq,hs,Utf8.runeError]
theorem dkN_w (b0 a1 a2 a3:Nat) (c1 c2 c3:Bool):1≤(dkN b0 a1 a2 a3 c1 c2 c3).2∧(dkN b0 a1 a2 a3 c1 c2 c3).2≤4:=by
  unfold dkN
  repeat' split
  all_goals simp
theorem dk_w (l:List UInt8):1≤(dk l).2∧(dk l).2≤4:=dkN_w _ _ _ _ _ _ _
theorem ct_lt {l:List UInt8} {k:Nat} (h:ctL l k=true):k<l.length:=by
  unfold ctL at h
  simp at h
  exact h.1
theorem dk_len (l:List UInt8) (h:l≠[]):(dk l).2≤l.length:=by
  have h1:1≤l.length:=by cases l with | nil=>exact(h rfl).elim | cons=>simp
  unfold dk dkN
  split
  · exact h1
  split
  · rename_i g
    simp at g
    have:=ct_lt g.2
    split
    · exact this
    · exact h1
  split
  · rename_i g
    simp at g
    have:=ct_lt g.2
    split
    · exact this
    · exact h1
  split
  · rename_i g
    simp at g
    have:=ct_lt g.2
    split
    · exact this
    · exact h1
  · exact h1
def hpL (l:List UInt8):Bool:=decide (3≤l.length)&&(l.take 3==[(239:UInt8),191,189])
theorem HasPrefix_eq (N:Nat) (l:List UInt8):W_Q N (l,[(239:UInt8),(191:UInt8),(189:UInt8)])=some (hpL l):=by
  unfold W_Q V_Q W_2 V_2 hpL
  simp only[List.length_cons,List.length_nil]
  by_cases h:3≤l.length
  · have e1:decide (((0+1+1+1:Nat):Int)≤(l.length:Int))=true:=dT (by omega)
    have e2:decide ((0:Int)≤((0+1+1+1:Nat):Int))=true:=dT (by omega)
    rw[e1,e2,dT h]
    simp only[Bool.and_self,cnd_t,obind_s,Bool.true_and,List.drop_zero]
    rfl
  · have e1:decide (((0+1+1+1:Nat):Int)≤(l.length:Int))=false:=dF (by omega)
    rw[e1,dF h]
    simp only[cnd_f,obind_s,Bool.false_and]
def vl (l:List UInt8):Int:=if ((dk l).1:Int)=65533 then(if hpL l=true then wr .i64 ((dk l).1:Int) else -1) else wr .i64 ((dk l).1:Int)
theorem letter_eq (N:Nat) (l:List UInt8):W_T N (l,((dk l).1:Int))=some (vl l):=by
  unfold W_T V_T vl
  simp only[HasPrefix_eq,obind_s]
  by_cases h:((dk l).1:Int)=65533
  · rw[if_pos h,dT h,cnd_t]
    cases hpL l
    · rfl
    · rfl
  · rw[if_neg h,dF h,cnd_f]
theorem hp_dk (l:List UInt8) (h:hpL l=true):dk l=(65533,3):=by
  unfold hpL at h
  simp at h
  obtain⟨h1,h2⟩:=h
  match l,h1,h2 with
  | a::b::c::r,_,h2=>
    simp at h2
    obtain⟨rfl,rfl,rfl⟩:=h2
    have l1:decide (1<(r.length+1+1+1))=true:=decide_eq_true (by omega)
    have l2:decide (2<(r.length+1+1+1))=true:=decide_eq_true (by omega)
    simp[dk,atL,ctL,dkN,l1,l2,Utf8.valid]
def letsN:Nat→List UInt8→List Int
  | 0,_=>[]
  | k+1,l=>if l=[] then [] else vl l::letsN k (l.drop (dk l).2)
theorem letsN_nil (k:Nat):letsN k []=[]:=by cases k<;>simp[letsN]
theorem drop_lt (l:List UInt8) (h:l≠[]):(l.drop (dk l).2).length<l.length:=by
  have:=(dk_w l).1
  have h1:1≤l.length:=by cases l with | nil=>exact(h rfl).elim | cons=>simp
  rw[List.length_drop]
  omega
theorem letsN_fuel:∀(k k2:Nat) (l:List UInt8),l.length≤k→l.length≤k2→letsN k l=letsN k2 l
  | 0,k2,l,h,_=>by
    have:l=[]:=List.eq_nil_of_length_eq_zero (by omega)
    subst this
    rw[letsN_nil,letsN_nil]
  | k+1,0,l,_,h=>by
    have:l=[]:=List.eq_nil_of_length_eq_zero (by omega)
    subst this
    rw[letsN_nil,letsN_nil]
  | k+1,k2+1,l,h1,h2=>by
    unfold letsN
    split
    · rfl
    · rename_i hn
      have:=drop_lt l hn
      rw[letsN_fuel k k2 _ (by omega) (by omega)]
def LL (l:List UInt8):List Int:=letsN l.length l
theorem LL_nil:LL []=[]:=rfl
theorem LL_cons (l:List UInt8) (h:l≠[]):LL l=vl l::LL (l.drop (dk l).2):=by
  unfold LL
  obtain⟨k,hk⟩:∃k,l.length=k+1:=⟨l.length-1,by cases l with | nil=>exact(h rfl).elim | cons=>simp⟩
  have:=drop_lt l h
  rw[hk]
  rw[letsN,if_neg h,letsN_fuel k _ _ (by omega) (Nat.le_refl _)]
theorem list_ind {p:List UInt8→Prop} (h0:p []) (h1:∀l,l≠[]→p (l.drop (dk l).2)→p l) (l:List UInt8):p l:=by
  have key:∀(k:Nat) (l:List UInt8),l.length≤k→p l:=by
    intro k
    induction k with
    | zero=>intro l h;have:l=[]:=List.eq_nil_of_length_eq_zero (by omega);subst this;exact h0
    | succ k ih=>
      intro l h
      by_cases hn:l=[]
      · subst hn;exact h0
      · exact h1 l hn (ih _ (by have:=drop_lt l hn;omega))
  exact key l.length l (Nat.le_refl _)
theorem wr_m {z:Int} (h:-140737488355328≤z) (h2:z≤140737488355328):wr .i64 z=z:=wr_i64 (by omega) (by omega)
abbrev It:=Int×List UInt8
abbrev Ev:=Int×Int×Int×List UInt8×Int
abbrev Fd:=Int×Int×List It×List It×List Ev×Int×Int
def z7:Fd:=(0,0,[],[],[],0,0)
theorem u8_lt (b:UInt8):b.toNat<256:=UInt8.toNat_lt b
theorem at_lt (l:List UInt8) (k:Nat):atL l k<256:=u8_lt _
theorem loop_inl {σ ρ:Type} {f:σ→Option (σ⊕ρ)} {n:Nat} {x y:σ} (h:f x=some (.inl y)):loopN (n+1) f x=loopN n f y:=by
  simp only[loopN,h]
theorem loop_inr {σ ρ:Type} {f:σ→Option (σ⊕ρ)} {n:Nat} {x:σ} {r:ρ} (h:f x=some (.inr r)):loopN (n+1) f x=some r:=by
  simp only[loopN,h]
theorem vl_bad {l:List UInt8} (h:dk l=(65533,1)):vl l=-1:=by
  have hp:hpL l=false:=by
    cases q:hpL l with
    | false=>rfl
    | true=>
      have:=hp_dk l q
      rw[h] at this
      injection this with _ e
      cases e
  unfold vl
  rw[h,hp]
  rfl
theorem vl_good {l:List UInt8} {c n:Nat} (h:dk l=(c,n)) (hc:c≠65533) (hb:c<1114112):vl l=c:=by
  unfold vl
  rw[h]
  try simp only
  rw[if_neg (by omega)]
  exact wr_i64 (z:=(c:Int)) (by omega) (by omega)
theorem vl_fffd {l:List UInt8} (h:dk l=(65533,3)) (hp:hpL l=true):vl l=65533:=by
  unfold vl
  rw[h,hp]
  exact wr_i64 (z:=65533) (by omega) (by omega)
def refC (l:List UInt8):Nat→Nat→Int→Option Int
  | 0,_,c=>some c
  | k+1,i,c=>if (atL l i:Int)<128∨191<(atL l i:Int) then none else refC l k (i+1) (c*64+atL l i-128)
def refM (l:List UInt8) (c:Int) (n:Nat) (least:Int):Int×Int:=
  if (l.length:Int)<n then(-1,1) else
    match refC l (n-1) 1 c with
    | none=>(-1,1)
    | some v=>if v<least∨1114111<v∨(55296≤v∧v≤57343) then(-1,1) else(v,n)
def refL (l:List UInt8):Int×Int:=
  if atL l 0<128 then(atL l 0,1)
  else if 194≤atL l 0∧atL l 0≤223 then refM l (atL l 0-192) 2 128
  else if 224≤atL l 0∧atL l 0≤239 then refM l (atL l 0-224) 3 2048
  else if 240≤atL l 0∧atL l 0≤244 then refM l (atL l 0-240) 4 65536
  else(-1,1)
theorem ct_iff (l:List UInt8) (k:Nat):ctL l k=true↔(k<l.length∧128≤atL l k∧atL l k≤191):=by
  unfold ctL
  rw[Bool.and_eq_true,decide_eq_true_iff,beq_iff_eq]
  omega
theorem ct_no (l:List UInt8) (k:Nat) (h:¬(k<l.length∧128≤atL l k∧atL l k≤191)):ctL l k=false:=by
  cases q:ctL l k with
  | false=>rfl
  | true=>exact absurd ((ct_iff l k).1 q) h
theorem hp_of:∀(l:List UInt8),3≤l.length→atL l 0=239→atL l 1=191→atL l 2=189→hpL l=true
  | x::y::z::r,h,a0,a1,a2=>by
    have x1:x=239:=UInt8.toNat_inj.1 a0
    have y1:y=191:=UInt8.toNat_inj.1 a1
    have z1:z=189:=UInt8.toNat_inj.1 a2
    subst x1 y1 z1
    unfold hpL
    rw[decide_eq_true h];rfl
  | [_,_],h,_,_,_=>by simp at h
  | [_],h,_,_,_=>by simp at h
  | [],h,_,_,_=>by simp at h
theorem refL2 (l:List UInt8) (d2:194≤atL l 0∧atL l 0≤223) (bad:dk l=(65533,1)→((-1:Int),(1:Int))=(vl l,((dk l).2:Int))) (good:∀c n,dk l=(c,n)→c≠65533→c<1114112→((c:Int),(n:Int))=(vl l,((dk l).2:Int))):refM l (atL l 0-192) 2 128=(vl l,((dk l).2:Int)):=by
  have h0:=at_lt l 0;have h1:=at_lt l 1;have h2:=at_lt l 2;have h3:=at_lt l 3
  have ct:∀k,ctL l k=true↔(k<l.length∧128≤atL l k∧atL l k≤191):=ct_iff l
  have ctf:∀k,¬(k<l.length∧128≤atL l k∧atL l k≤191)→ctL l k=false:=ct_no l
  have c1:¬atL l 0<128:=by omega
  have C1:∀i (c:Int),refC l 1 i c=if (atL l i:Int)<128∨191<(atL l i:Int) then none else some (c*64+atL l i-128):=fun i c=>rfl
  have C2:∀i (c:Int),refC l 2 i c=if (atL l i:Int)<128∨191<(atL l i:Int) then none else refC l 1 (i+1) (c*64+atL l i-128):=fun i c=>rfl
  have C3:∀i (c:Int),refC l 3 i c=if (atL l i:Int)<128∨191<(atL l i:Int) then none else refC l 2 (i+1) (c*64+atL l i-128):=fun i c=>rfl
  have bt:∀{b:Bool},∀{α:Type} {x y:α},b=true→(if b=true then x else y)=x:=fun h=>if_pos h
  have bf:∀{b:Bool},∀{α:Type} {x y:α},b=false→(if b=true then x else y)=y:=fun {b} {α} {x y} h=>if_neg (by rw[h];decide)
  have h32:(atL l 0 / 32==6)=true:=beq_iff_eq.2 (by omega)
  have h16:(atL l 0 / 16==14)=false:=beq_eq_false_iff_ne.2 (by omega)
  have h8:(atL l 0 / 8==30)=false:=beq_eq_false_iff_ne.2 (by omega)
  unfold refM
  by_cases k1:1<l.length∧128≤atL l 1∧atL l 1≤191
  · rw[if_neg (by omega),show 2-1=1 from rfl,C1,if_neg (by omega)]
    try simp only
    rw[if_neg (by omega)]
    have e:dk l=((atL l 0 % 32)*64+atL l 1 % 64,2):=by
      unfold dk dkN
      rw[if_neg c1,h32,(ct 1).2 k1,Bool.and_self,bt rfl,if_pos (by omega)]
    rw[←good _ _ e (by omega) (by omega)]
    exact Prod.ext (by simp only;omega) rfl
  · rw[←bad (by
      unfold dk dkN
      rw[if_neg c1,ctf 1 k1,h16,h8]
      simp only[Bool.and_false,Bool.false_and,Bool.false_eq_true,if_false])]
    by_cases q:(l.length:Int)<(2:Nat)
    · rw[if_pos q]
    · rw[if_neg q,show 2-1=1 from rfl,C1,if_pos (by omega)]
theorem refL3 (l:List UInt8) (d3:224≤atL l 0∧atL l 0≤239) (bad:dk l=(65533,1)→((-1:Int),(1:Int))=(vl l,((dk l).2:Int))) (good:∀c n,dk l=(c,n)→c≠65533→c<1114112→((c:Int),(n:Int))=(vl l,((dk l).2:Int))):refM l (atL l 0-224) 3 2048=(vl l,((dk l).2:Int)):=by
  have h0:=at_lt l 0;have h1:=at_lt l 1;have h2:=at_lt l 2;have h3:=at_lt l 3
  have ct:∀k,ctL l k=true↔(k<l.length∧128≤atL l k∧atL l k≤191):=ct_iff l
  have ctf:∀k,¬(k<l.length∧128≤atL l k∧atL l k≤191)→ctL l k=false:=ct_no l
  have c1:¬atL l 0<128:=by omega
  have C1:∀i (c:Int),refC l 1 i c=if (atL l i:Int)<128∨191<(atL l i:Int) then none else some (c*64+atL l i-128):=fun i c=>rfl
  have C2:∀i (c:Int),refC l 2 i c=if (atL l i:Int)<128∨191<(atL l i:Int) then none else refC l 1 (i+1) (c*64+atL l i-128):=fun i c=>rfl
  have C3:∀i (c:Int),refC l 3 i c=if (atL l i:Int)<128∨191<(atL l i:Int) then none else refC l 2 (i+1) (c*64+atL l i-128):=fun i c=>rfl
  have bt:∀{b:Bool},∀{α:Type} {x y:α},b=true→(if b=true then x else y)=x:=fun h=>if_pos h
  have bf:∀{b:Bool},∀{α:Type} {x y:α},b=false→(if b=true then x else y)=y:=fun {b} {α} {x y} h=>if_neg (by rw[h];decide)
  have h32:(atL l 0 / 32==6)=false:=beq_eq_false_iff_ne.2 (by omega)
  have h16:(atL l 0 / 16==14)=true:=beq_iff_eq.2 (by omega)
  have h8:(atL l 0 / 8==30)=false:=beq_eq_false_iff_ne.2 (by omega)
  unfold refM
  by_cases k1:(1<l.length∧128≤atL l 1∧atL l 1≤191)∧(2<l.length∧128≤atL l 2∧atL l 2≤191)
  · rw[if_neg (by omega),show 3-1=2 from rfl,C2,if_neg (by omega),C1,if_neg (by
      show ¬((atL l 2:Int)<128∨191<(atL l 2:Int));omega)]
    try simp only
    have e0:dk l=if (decide ((atL l 0 % 16)*4096+(atL l 1 % 64)*64+atL l 2 % 64 ≥ 0x800)&&Utf8.valid ((atL l 0 % 16)*4096+(atL l 1 % 64)*64+atL l 2 % 64:Nat))=true then((atL l 0 % 16)*4096+(atL l 1 % 64)*64+atL l 2 % 64,3) else(65533,1):=by
      unfold dk dkN
      rw[if_neg c1,h32,h16,(ct 1).2 k1.1,(ct 2).2 k1.2]
      rfl
    obtain⟨v,hv⟩:∃v,(atL l 0 % 16)*4096+(atL l 1 % 64)*64+atL l 2 % 64=v:=⟨_,rfl⟩
    rw[hv] at e0
    rw[show ((((atL l 0:Int)-224)*64+(atL l 1:Int)-128)*64+((atL l (1+1):Nat):Int)-128)=(v:Int) by
      show ((((atL l 0:Int)-224)*64+(atL l 1:Int)-128)*64+((atL l 2:Nat):Int)-128)=(v:Int)
      omega]
    by_cases q:(v:Int)<2048∨1114111<(v:Int)∨(55296≤(v:Int)∧(v:Int)≤57343)
    · rw[if_pos q]
      refine bad (e0.trans (bf ?_))
      unfold Utf8.valid
      by_cases q1:v ≥ 0x800
      · rw[decide_eq_true q1,Bool.true_and,decide_eq_false (show ¬(v:Int)<0xD800 by omega),decide_eq_false (show ¬0xE000≤(v:Int) by omega),Bool.and_false,Bool.false_and];rfl
      · rw[decide_eq_false q1,Bool.false_and]
    · rw[if_neg q]
      have e:dk l=(v,3):=e0.trans (bt (by
        unfold Utf8.valid
        rw[decide_eq_true (show v ≥ 0x800 by omega),Bool.true_and,decide_eq_true (show (0:Int)≤(v:Int) by omega),Bool.true_and]
        by_cases q1:(v:Int)<0xD800
        · rw[decide_eq_true q1];rfl
        · rw[decide_eq_false q1,decide_eq_true (show 0xE000≤(v:Int) by omega),decide_eq_true (show (v:Int)≤0x10FFFF by omega)];rfl))
      by_cases w:v=65533
      · have hp:hpL l=true:=hp_of l (by omega) (by omega) (by omega) (by omega)
        rw[w] at e ⊢
        rw[vl_fffd e hp,e];rfl
      · exact good v 3 e w (by omega)
  · rw[←bad (by
      have:(ctL l 1&&ctL l 2)=false:=by
        by_cases k2:1<l.length∧128≤atL l 1∧atL l 1≤191
        · rw[ctf 2 (fun q=>k1 ⟨k2,q⟩),Bool.and_false]
        · rw[ctf 1 k2,Bool.false_and]
      unfold dk dkN
      rw[if_neg c1,h32,h16,h8]
      simp only[Bool.true_and,this,Bool.and_false,Bool.false_and,Bool.false_eq_true,if_false])]
    by_cases q:(l.length:Int)<(3:Nat)
    · rw[if_pos q]
    · rw[if_neg q,show 3-1=2 from rfl,C2]
      by_cases q1:(atL l 1:Int)<128∨191<(atL l 1:Int)
      · rw[if_pos q1]
      · rw[if_neg q1,C1,if_pos (by
          show (atL l 2:Int)<128∨191<(atL l 2:Int)
          omega)]
theorem refL4 (l:List UInt8) (d4:240≤atL l 0∧atL l 0≤244) (bad:dk l=(65533,1)→((-1:Int),(1:Int))=(vl l,((dk l).2:Int))) (good:∀c n,dk l=(c,n)→c≠65533→c<1114112→((c:Int),(n:Int))=(vl l,((dk l).2:Int))):refM l (atL l 0-240) 4 65536=(vl l,((dk l).2:Int)):=by
  have h0:=at_lt l 0;have h1:=at_lt l 1;have h2:=at_lt l 2;have h3:=at_lt l 3
  have ct:∀k,ctL l k=true↔(k<l.length∧128≤atL l k∧atL l k≤191):=ct_iff l
  have ctf:∀k,¬(k<l.length∧128≤atL l k∧atL l k≤191)→ctL l k=false:=ct_no l
  have c1:¬atL l 0<128:=by omega
  have C1:∀i (c:Int),refC l 1 i c=if (atL l i:Int)<128∨191<(atL l i:Int) then none else some (c*64+atL l i-128):=fun i c=>rfl
  have C2:∀i (c:Int),refC l 2 i c=if (atL l i:Int)<128∨191<(atL l i:Int) then none else refC l 1 (i+1) (c*64+atL l i-128):=fun i c=>rfl
  have C3:∀i (c:Int),refC l 3 i c=if (atL l i:Int)<128∨191<(atL l i:Int) then none else refC l 2 (i+1) (c*64+atL l i-128):=fun i c=>rfl
  have bt:∀{b:Bool},∀{α:Type} {x y:α},b=true→(if b=true then x else y)=x:=fun h=>if_pos h
  have bf:∀{b:Bool},∀{α:Type} {x y:α},b=false→(if b=true then x else y)=y:=fun {b} {α} {x y} h=>if_neg (by rw[h];decide)
  have h32:(atL l 0 / 32==6)=false:=beq_eq_false_iff_ne.2 (by omega)
  have h16:(atL l 0 / 16==14)=false:=beq_eq_false_iff_ne.2 (by omega)
  have h8:(atL l 0 / 8==30)=true:=beq_iff_eq.2 (by omega)
  unfold refM
  by_cases k1:(1<l.length∧128≤atL l 1∧atL l 1≤191)∧(2<l.length∧128≤atL l 2∧atL l 2≤191)∧(3<l.length∧128≤atL l 3∧atL l 3≤191)
  · rw[if_neg (by omega),show 4-1=3 from rfl,C3,if_neg (by omega),C2,if_neg (by
      show ¬((atL l 2:Int)<128∨191<(atL l 2:Int));omega),C1,if_neg (by
      show ¬((atL l 3:Int)<128∨191<(atL l 3:Int));omega)]
    try simp only
    have e0:dk l=if (decide ((atL l 0 % 8)*262144+(atL l 1 % 64)*4096+(atL l 2 % 64)*64+atL l 3 % 64 ≥ 0x10000)&&Utf8.valid ((atL l 0 % 8)*262144+(atL l 1 % 64)*4096+(atL l 2 % 64)*64+atL l 3 % 64:Nat))=true then((atL l 0 % 8)*262144+(atL l 1 % 64)*4096+(atL l 2 % 64)*64+atL l 3 % 64,4) else(65533,1):=by
      unfold dk dkN
      rw[if_neg c1,h32,h16,h8,(ct 1).2 k1.1,(ct 2).2 k1.2.1,(ct 3).2 k1.2.2]
      rfl
    obtain⟨v,hv⟩:∃v,(atL l 0 % 8)*262144+(atL l 1 % 64)*4096+(atL l 2 % 64)*64+atL l 3 % 64=v:=⟨_,rfl⟩
    rw[hv] at e0
    rw[show (((((atL l 0:Int)-240)*64+(atL l 1:Int)-128)*64+((atL l (1+1):Nat):Int)-128)*64+((atL l (1+1+1):Nat):Int)-128)=(v:Int) by
      show (((((atL l 0:Int)-240)*64+(atL l 1:Int)-128)*64+((atL l 2:Nat):Int)-128)*64+((atL l 3:Nat):Int)-128)=(v:Int)
      omega]
    by_cases q:(v:Int)<65536∨1114111<(v:Int)∨(55296≤(v:Int)∧(v:Int)≤57343)
    · rw[if_pos q]
      refine bad (e0.trans (bf ?_))
      unfold Utf8.valid
      by_cases q1:v ≥ 0x10000
      · rw[decide_eq_true q1,Bool.true_and,decide_eq_false (show ¬(v:Int)<0xD800 by omega),decide_eq_false (show ¬(v:Int)≤0x10FFFF by omega),Bool.and_false,Bool.and_false];rfl
      · rw[decide_eq_false q1,Bool.false_and]
    · rw[if_neg q]
      have e:dk l=(v,4):=e0.trans (bt (by
        unfold Utf8.valid
        rw[decide_eq_true (show v ≥ 0x10000 by omega),Bool.true_and,decide_eq_true (show 0xE000≤(v:Int) by omega),decide_eq_true (show (v:Int)≤0x10FFFF by omega),Bool.and_self,Bool.or_true]))
      exact good v 4 e (by omega) (by omega)
  · rw[←bad (by
      have:(ctL l 1&&ctL l 2&&ctL l 3)=false:=by
        by_cases k2:1<l.length∧128≤atL l 1∧atL l 1≤191
        · by_cases k3:2<l.length∧128≤atL l 2∧atL l 2≤191
          · rw[ctf 3 (fun q=>k1 ⟨k2,k3,q⟩),Bool.and_false]
          · rw[ctf 2 k3,Bool.and_false,Bool.false_and]
        · rw[ctf 1 k2,Bool.false_and,Bool.false_and]
      unfold dk dkN
      rw[if_neg c1,h32,h16,h8]
      simp only[Bool.true_and,this,Bool.and_false,Bool.false_and,Bool.false_eq_true,if_false])]
    by_cases q:(l.length:Int)<(4:Nat)
    · rw[if_pos q]
    · rw[if_neg q,show 4-1=3 from rfl,C3]
      by_cases q1:(atL l 1:Int)<128∨191<(atL l 1:Int)
      · rw[if_pos q1]
      · rw[if_neg q1,C2]
        by_cases q2:((atL l (1+1):Nat):Int)<128∨191<((atL l (1+1):Nat):Int)
        · rw[if_pos q2]
        · have q2':¬((atL l 2:Int)<128∨191<(atL l 2:Int)):=q2
          rw[if_neg q2,C1,if_pos (by
            show (atL l 3:Int)<128∨191<(atL l 3:Int)
            omega)]
theorem refL5 (l:List UInt8) (c1:¬atL l 0<128) (d2:¬(194≤atL l 0∧atL l 0≤223)) (d3:¬(224≤atL l 0∧atL l 0≤239)) (d4:¬(240≤atL l 0∧atL l 0≤244)) (bad:dk l=(65533,1)→((-1:Int),(1:Int))=(vl l,((dk l).2:Int))):((-1:Int),(1:Int))=(vl l,((dk l).2:Int)):=by
  have h0:=at_lt l 0;have h1:=at_lt l 1;have h2:=at_lt l 2;have h3:=at_lt l 3
  refine bad ?_
  unfold dk dkN
  rw[if_neg c1]
  by_cases z1:atL l 0<194
  · have h16:(atL l 0 / 16==14)=false:=beq_eq_false_iff_ne.2 (by omega)
    have h8:(atL l 0 / 8==30)=false:=beq_eq_false_iff_ne.2 (by omega)
    rw[h16,h8]
    simp only[Bool.false_and,Bool.false_eq_true,if_false]
    split
    · rename_i w
      rw[Bool.and_eq_true,beq_iff_eq] at w
      rw[if_neg (by omega)]
    · rfl
  · have h32:(atL l 0 / 32==6)=false:=beq_eq_false_iff_ne.2 (by omega)
    have h16:(atL l 0 / 16==14)=false:=beq_eq_false_iff_ne.2 (by omega)
    rw[h32,h16]
    simp only[Bool.false_and,Bool.false_eq_true,if_false]
    split
    · rename_i w
      rw[Bool.and_eq_true,Bool.and_eq_true,Bool.and_eq_true,beq_iff_eq] at w
      rw[if_neg]
      intro w2
      unfold Utf8.valid at w2
      rw[decide_eq_false (show ¬(((atL l 0 % 8)*262144+(atL l 1 % 64)*4096+(atL l 2 % 64)*64+atL l 3 % 64:Nat):Int)<0xD800 by omega),decide_eq_false (show ¬(((atL l 0 % 8)*262144+(atL l 1 % 64)*4096+(atL l 2 % 64)*64+atL l 3 % 64:Nat):Int)≤0x10FFFF by omega)] at w2
      simp at w2
    · rfl
theorem refL_eq (l:List UInt8):refL l=(vl l,((dk l).2:Int)):=by
  have h0:=at_lt l 0
  have bad:dk l=(65533,1)→((-1:Int),(1:Int))=(vl l,((dk l).2:Int)):=fun h=>by rw[vl_bad h,h];rfl
  have good:∀c n,dk l=(c,n)→c≠65533→c<1114112→((c:Int),(n:Int))=(vl l,((dk l).2:Int)):=fun c n h a b=>by rw[vl_good h a b,h]
  unfold refL
  by_cases c1:atL l 0<128
  · rw[if_pos c1]
    refine good (atL l 0) 1 ?_ (by omega) (by omega)
    unfold dk dkN
    rw[if_pos c1]
  rw[if_neg c1]
  by_cases d2:194≤atL l 0∧atL l 0≤223
  · rw[if_pos d2];exact refL2 l d2 bad good
  rw[if_neg d2]
  by_cases d3:224≤atL l 0∧atL l 0≤239
  · rw[if_pos d3];exact refL3 l d3 bad good
  rw[if_neg d3]
  by_cases d4:240≤atL l 0∧atL l 0≤244
  · rw[if_pos d4];exact refL4 l d4 bad good
  rw[if_neg d4]
  exact refL5 l c1 d2 d3 d4 bad
theorem rLetter_eq (N : Nat) (hN : 1000 ≤ N) (l : List UInt8) (hl : l ≠ []) (hlen : l.length ≤ 1000) : W_U N l = some (vl l, ((dk l).2 : Int)) := by
  rw[←refL_eq]
  have hl0:0<l.length:=List.length_pos_iff.2 hl
  have h0:=at_lt l 0
  have e0:wr .i64 ((List.getD l 0 (0:UInt8)).toNat:Int)=(atL l 0:Int):=wr_m (by omega) (by have:(List.getD l 0 (0:UInt8)).toNat=atL l 0:=rfl;omega)
  obtain⟨M,rfl⟩:∃M,N=M+4:=⟨N-4,by omega⟩
  unfold W_U V_U
  rw[dT (Int.le_refl (0:Int)),dT (show (0:Int)<l.length by omega),Bool.and_self,cnd_t]
  simp only[e0]
  unfold refL
  by_cases c1:atL l 0<128
  · rw[dT (show (atL l 0:Int)<128 by omega),cnd_t,obind_s,selim_r,if_pos c1]
  rw[dF (show ¬(atL l 0:Int)<128 by omega),cnd_f,if_neg c1]
  have key : ∀ (c : Int) (n : Nat) (least : Int), 0 ≤ c → c ≤ 63 → 2 ≤ n → n ≤ 4 → (cnd (decide ((l.length : Int) < (n : Int))) (some ((-1 : Int), (1 : Int))) (obind (loopN (M + 4) (fun (v : Int × Int) =>
                cnd (decide (Prod.snd v<(n:Int)))
                  (cnd (decide ((0 : Int) ≤ Prod.snd v) && decide (Prod.snd v < (↑(List.length l) : Int)))
                    (cnd (decide ((↑(UInt8.toNat (List.getD l (Int.toNat (Prod.snd v)) (0 : UInt8))) : Int) < (128 : Int)))
                      (some (Sum.inr (Sum.inr ((-1:Int),(1:Int)))))
                      (cnd (decide ((0 : Int) ≤ Prod.snd v) && decide (Prod.snd v < (↑(List.length l) : Int)))
                        (cnd (decide ((191 : Int) < (↑(UInt8.toNat (List.getD l (Int.toNat (Prod.snd v)) (0 : UInt8))) : Int)))
                          (some (Sum.inr (Sum.inr ((-1:Int),(1:Int)))))
                          (cnd (decide ((0 : Int) ≤ Prod.snd v) && decide (Prod.snd v < (↑(List.length l) : Int)))
                            (some
                              (Sum.inl
                                (wr IntKind.i64
                                    (wr IntKind.i64
                                        (wr IntKind.i64 (Prod.fst v*(64:Int)) +
                                          wr IntKind.i64
                                            (↑(UInt8.toNat (List.getD l (Int.toNat (Prod.snd v)) (0:UInt8))):Int)) -
                                      (128:Int)),
                                  wr IntKind.i64 (Prod.snd v+(1:Int)))))
                            none))
                        none))
                    none)
                  (some (Sum.inr (Sum.inl (Prod.fst v))))) (c,(1:Int))) fun(b_1:Int⊕Int×Int)=>
            selim
              (fun (b_2 : Int) =>
                obind (cnd (decide (b_2<least)) (some true) (some (decide ((1114111:Int)<b_2))))
                  fun(b_3:Bool)=>
                  cnd b_3 (some ((-1:Int),(1:Int)))
                    (cnd (decide ((55296:Int)≤b_2))
                      (cnd (decide (b_2≤(57343:Int))) (some ((-1:Int),(1:Int)))
                        (some (b_2,(n:Int))))
                      (some (b_2,(n:Int)))))
              (fun(c:Int×Int)=>some (Prod.fst c,Prod.snd c)) b_1))=some (refM l c n least):=fun c n least hc0 hc1 hn2 hn4=>by
    unfold refM
    by_cases q:(l.length:Int)<(n:Int)
    · rw[dT q,cnd_t,if_pos q]
    rw[dF q,cnd_f,if_neg q]
    generalize hF:(fun(v:Int×Int)=>_)=F
    have step:∀(i:Nat) (c:Int),i<n→0≤c→c≤2147483648→F (c,(i:Int))=if (atL l i:Int)<128∨191<(atL l i:Int) then some (.inr (.inr (-1,1))) else some (.inl (c*64+atL l i-128,((i+1:Nat):Int))):=fun i c hi a b=>by
      subst hF
      have hb:=at_lt l i
      have eb:((UInt8.toNat (List.getD l i (0:UInt8)):Nat):Int)=(atL l i:Int):=rfl
      simp only[Int.toNat_natCast,eb]
      rw[dT (show (i:Int)<(n:Int) by omega),cnd_t,dT (show (0:Int)≤(i:Int) by omega),dT (show (i:Int)<(l.length:Int) by omega),Bool.and_self,cnd_t]
      by_cases k1:(atL l i:Int)<128
      · rw[dT k1,cnd_t,if_pos (.inl k1)]
      rw[dF k1,cnd_f,cnd_t]
      by_cases k2:191<(atL l i:Int)
      · rw[dT k2,cnd_t,if_pos (.inr k2)]
      rw[dF k2,cnd_f,cnd_t,if_neg (by omega),wr_m (z:=c*64) (by omega) (by omega),wr_m (z:=((atL l i:Nat):Int)) (by omega) (by omega),wr_m (z:=c*64+(atL l i:Int)) (by omega) (by omega),wr_m (z:=c*64+(atL l i:Int)-128) (by omega) (by omega),wr_m (z:=(i:Int)+1) (by omega) (by omega)]
      rfl
    have stop:∀(c:Int),F (c,(n:Int))=some (.inr (.inl c)):=fun c=>by
      subst hF
      try simp only
      rw[dF (show ¬(n:Int)<(n:Int) by omega),cnd_f]
    have run:∀(k:Nat) (i:Nat) (c:Int) (m:Nat),i+k=n→k≤3→0≤c→(k=3→c≤63)→(k=2→c≤4095)→(k=1→c≤262143)→loopN (m+k+1) F (c,(i:Int))=some (match refC l k i c with | none=>.inr (-1,1) | some v=>.inl v):=fun k=>by
      induction k with
      | zero=>
        intro i c m hi hk a b1 b2 b3
        have:i=n:=by omega
        subst this
        rw[loop_inr (stop c)]
        rfl
      | succ k ih=>
        intro i c m hi hk a b1 b2 b3
        have hst:=step i c (by omega) a (by omega)
        have hb:=at_lt l i
        have er:refC l (k+1) i c=if (atL l i:Int)<128∨191<(atL l i:Int) then none else refC l k (i+1) (c*64+atL l i-128):=rfl
        rw[er]
        by_cases w:(atL l i:Int)<128∨191<(atL l i:Int)
        · rw[if_pos w] at hst ⊢
          rw[loop_inr hst]
        · rw[if_neg w] at hst ⊢
          rw[show m+(k+1)+1=(m+k+1)+1 by omega,loop_inl hst]
          exact ih (i+1) _ m (by omega) (by omega) (by omega) (by omega) (by omega) (by omega)
    have r:=run (n-1) 1 c (M+4-n) (by omega) (by omega) hc0 (by omega) (by omega) (by omega)
    rw[show M+4-n+(n-1)+1=M+4 by omega] at r
    refine(congrArg (fun o=>obind o _) r).trans ?_
    rw[obind_s]
    cases hr:refC l (n-1) 1 c with
    | none=>rfl
    | some v=>
      try simp only
      rw[selim_l]
      by_cases w1:v<least
      · rw[dT w1,cnd_t,obind_s,cnd_t,if_pos (.inl w1)]
      rw[dF w1,cnd_f,obind_s]
      by_cases w2:1114111<v
      · rw[dT w2,cnd_t,if_pos (.inr (.inl w2))]
      rw[dF w2,cnd_f]
      by_cases w3:55296≤v
      · rw[dT w3,cnd_t]
        by_cases w4:v≤57343
        · rw[dT w4,cnd_t,if_pos (.inr (.inr ⟨w3,w4⟩))]
        · rw[dF w4,cnd_f,if_neg (by omega)]
      · rw[dF w3,cnd_f,if_neg (by omega)]
  have s2:∀z:Int,0≤z→z≤255→wr .i64 z=z:=fun z a b=>wr_m (by omega) (by omega)
  by_cases d2:194≤atL l 0∧atL l 0≤223
  · rw[dT (show (194:Int)≤(atL l 0:Int) by omega),cnd_t,dT (show (atL l 0:Int)≤223 by omega),cnd_t,obind_s,selim_l,if_pos d2,s2 _ (by omega) (by omega)]
    exact key (atL l 0-192) 2 128 (by omega) (by omega) (by omega) (by omega)
  rw[if_neg d2]
  by_cases d3:224≤atL l 0∧atL l 0≤239
  · rw[dT (show (194:Int)≤(atL l 0:Int) by omega),cnd_t,dF (show ¬(atL l 0:Int)≤223 by omega),cnd_f,dT (show (224:Int)≤(atL l 0:Int) by omega),cnd_t,dT (show (atL l 0:Int)≤239 by omega),cnd_t,obind_s,selim_l,if_pos d3,s2 _ (by omega) (by omega)]
    exact key (atL l 0-224) 3 2048 (by omega) (by omega) (by omega) (by omega)
  rw[if_neg d3]
  by_cases d4:240≤atL l 0∧atL l 0≤244
  · rw[dT (show (194:Int)≤(atL l 0:Int) by omega),cnd_t,dF (show ¬(atL l 0:Int)≤223 by omega),cnd_f,dT (show (224:Int)≤(atL l 0:Int) by omega),cnd_t,dF (show ¬(atL l 0:Int)≤239 by omega),cnd_f,dT (show (240:Int)≤(atL l 0:Int) by omega),cnd_t,dT (show (atL l 0:Int)≤244 by omega),cnd_t,obind_s,selim_l,if_pos d4,s2 _ (by omega) (by omega)]
    exact key (atL l 0-240) 4 65536 (by omega) (by omega) (by omega) (by omega)
  rw[if_neg d4]
  by_cases z1:194≤atL l 0
  · rw[dT (show (194:Int)≤(atL l 0:Int) by omega),cnd_t,dF (show ¬(atL l 0:Int)≤223 by omega),cnd_f,dT (show (224:Int)≤(atL l 0:Int) by omega),cnd_t,dF (show ¬(atL l 0:Int)≤239 by omega),cnd_f,dT (show (240:Int)≤(atL l 0:Int) by omega),cnd_t,dF (show ¬(atL l 0:Int)≤244 by omega),cnd_f,obind_s,selim_r]
  · rw[dF (show ¬(194:Int)≤(atL l 0:Int) by omega),cnd_f,dF (show ¬(224:Int)≤(atL l 0:Int) by omega),cnd_f,dF (show ¬(240:Int)≤(atL l 0:Int) by omega),cnd_f,obind_s,selim_r]
theorem loop_post {σ ρ β:Type} {f:σ→Option (σ⊕ρ)} {k:ρ→Option β} {x:σ} {N:Nat} (Q:Option β→Prop) (I:σ→Prop) (m:σ→Nat) (J:ρ→Prop) (hx:I x) (hm:m x<N) (hk:∀r,J r→Q (k r))
    (hs:∀x,I x→(∃y,f x=some (.inl y)∧I y∧m y<m x)∨∃r,f x=some (.inr r)∧J r):Q (obind (loopN N f x) k):=by
  obtain⟨r,h1,h2⟩:=loopN_run I m J hs N x hx hm
  rw[h1];exact hk r h2
theorem LL_le (l:List UInt8):(LL l).length≤l.length:=by
  refine list_ind (p:=fun l=>(LL l).length≤l.length) (by simp[LL_nil]) ?_ l
  intro l hn ih
  have:=drop_lt l hn
  rw[LL_cons l hn,List.length_cons]
  omega
theorem rLetters_eq (N:Nat) (hN:2000≤N) (x:List UInt8) (hx:x.length≤1000):W_S N x=some (LL x):=by
  unfold W_S V_S
  refine loop_post (σ:=List UInt8×List Int) (ρ:=List Int) (β:=List Int) (fun o=>o=some (LL x)) (fun v=>v.2++LL v.1=LL x∧v.1.length≤x.length) (fun v=>v.1.length) (fun r=>r=LL x) ⟨rfl,Nat.le_refl _⟩ (by simp only;omega) (fun r h=>by rw[h]) ?_
  rintro⟨s,acc⟩ ⟨h1,h2⟩
  simp only at h1 h2 ⊢
  by_cases c:(0:Int)<s.length
  case neg=>
    right
    have:s=[]:=List.eq_nil_of_length_eq_zero (by omega)
    subst this
    rw[dF c,cnd_f]
    rw[LL_nil,List.append_nil] at h1
    exact⟨_,rfl,h1⟩
  left
  have hn:s≠[]:=fun e=>by rw[e] at c;simp at c
  have hw:=dk_w s
  have hl:=dk_len s hn
  have hlx:=LL_le x
  have ha:acc.length≤x.length:=by
    have:=congrArg List.length h1
    rw[List.length_append] at this
    omega
  rw[dT c,cnd_t,rLetter_eq N (by omega) s hn (by omega),obind_s]
  try simp only
  rw[dT (show (acc.length+[vl s].length)*8≤140737488355328 by rw[List.length_singleton];omega),cnd_t,dT (show (0:Int)≤((dk s).2:Int) by omega),dT (show ((dk s).2:Int)≤s.length by omega),Bool.and_self,cnd_t,Int.toNat_natCast,List.take_length]
  refine⟨_,rfl,⟨?_,?_⟩,?_⟩
  · simp only
    rw[←h1,LL_cons s hn,List.append_assoc];rfl
  · simp only[List.length_drop];omega
  · simp only[List.length_drop];omega
def okc (c:Int):Prop:=¬(c<33∨(127≤c∧c≤159))
open Classical in
def nameM (L:List Int):Bool:=decide ((∀c∈L,okc c)∧1≤L.length∧L.length≤8)
open Classical in
theorem rName_eq (N:Nat) (hN:2000≤N) (x:List UInt8) (hx:x.length≤1000):W_Y N x=some (nameM (LL x)):=by
  have hlx:=LL_le x
  unfold W_Y V_Y
  rw[rLetters_eq N hN x hx,obind_s]
  generalize LL x=L at hlx ⊢
  refine loop_post (σ:=Int) (ρ:=Unit⊕Bool) (β:=Bool) (fun o=>o=some (nameM L)) (fun v=>∃i:Nat,v=i∧i≤L.length∧∀j,j<i→okc (L.getD j 0)) (fun v=>L.length-v.toNat) (fun r=>(r=.inl ()∧∀c∈L,okc c)∨(r=.inr false∧∃c∈L,¬okc c)) ⟨0,rfl,by omega,fun j hj=>by omega⟩ (by simp;omega) ?_ ?_
  · rintro r (⟨rfl,h⟩ | ⟨rfl,c,hc,h⟩)
    · rw[selim_l]
      unfold nameM
      by_cases c1:1≤L.length
      · rw[dT (show (1:Int)≤L.length by omega),cnd_t]
        by_cases c2:L.length≤8
        · rw[dT (show (L.length:Int)≤8 by omega),decide_eq_true (show (∀c∈L,okc c)∧1≤L.length∧L.length≤8 from⟨h,c1,c2⟩)]
        · rw[dF (show ¬(L.length:Int)≤8 by omega),decide_eq_false (fun q:(∀c∈L,okc c)∧1≤L.length∧L.length≤8=>c2 q.2.2)]
      · rw[dF (show ¬(1:Int)≤L.length by omega),cnd_f,decide_eq_false (fun q:(∀c∈L,okc c)∧1≤L.length∧L.length≤8=>c1 q.2.1)]
    · rw[selim_r]
      unfold nameM
      rw[decide_eq_false (fun q:(∀c∈L,okc c)∧1≤L.length∧L.length≤8=>h (q.1 c hc))]
  rintro v ⟨i,rfl,hi,ha⟩
  by_cases c:(i:Int)<L.length
  case neg=>
    right
    rw[dF c,cnd_f]
    refine⟨_,rfl,.inl ⟨rfl,fun d hd=>?_⟩⟩
    obtain⟨j,hj,e⟩:=List.getElem_of_mem hd
    have:=ha j (by omega)
    rw[List.getD_eq_getElem?_getD,List.getElem?_eq_getElem hj] at this
    rw[←e];exact this
  have hm:L.getD i 0∈L:=by
    rw[List.getD_eq_getElem?_getD,List.getElem?_eq_getElem (show i<L.length by omega)];exact List.getElem_mem _
  have dc:(decide ((0:Int)≤(i:Int))&&decide ((i:Int)<(L.length:Int)))=true:=by rw[dT (show (0:Int)≤(i:Int) by omega),dT c];rfl
  simp only[dc,dT c,cnd_t,Int.toNat_natCast]
  by_cases k1:L.getD i 0<33
  · right
    rw[dT k1,cnd_t]
    exact⟨_,rfl,.inr ⟨rfl,_,hm,fun q=>q (.inl k1)⟩⟩
  rw[dF k1,cnd_f]
  have go:okc (L.getD i 0)→∀j,j<i+1→okc (L.getD j 0):=fun q j hj=>by
    by_cases e:j=i
    · subst e;exact q
    · exact ha j (by omega)
  by_cases k2:127≤L.getD i 0
  · rw[dT k2,cnd_t]
    by_cases k3:L.getD i 0≤159
    · right
      rw[dT k3,cnd_t]
      exact⟨_,rfl,.inr ⟨rfl,_,hm,fun q=>q (.inr ⟨k2,k3⟩)⟩⟩
    · left
      rw[dF k3,cnd_f,wr_m (by omega) (by omega)]
      exact⟨_,rfl,⟨i+1,by omega,by omega,go fun q=>by omega⟩,by omega⟩
  · left
    rw[dF k2,cnd_f,wr_m (by omega) (by omega)]
    exact⟨_,rfl,⟨i+1,by omega,by omega,go fun q=>by omega⟩,by omega⟩
open Classical in
theorem pName_eq (N:Nat) (hN:2000≤N) (x:List UInt8) (hx:x.length≤1000):W_0 N x=some (nameM (LL x)):=by
  have hlx:=LL_le x
  unfold W_0 V_0
  refine loop_post (σ:=Int×List UInt8×Int) (ρ:=Int⊕Bool) (β:=Bool) (fun o=>o=some (nameM (LL x))) (fun v=>∃(i:Nat) (pre:List Int),v=((pre.length:Int),x,(i:Int))∧i≤x.length∧pre++LL (x.drop i)=LL x∧∀c∈pre,okc c) (fun v=>x.length-v.2.2.toNat) (fun r=>(r=.inl ((LL x).length:Int)∧∀c∈LL x,okc c)∨(r=.inr false∧∃c∈LL x,¬okc c)) ⟨0,[],rfl,by omega,by rw[List.drop_zero];rfl,fun c hc=>by cases hc⟩ (by simp;omega) ?_ ?_
  · generalize LL x=L at hlx ⊢
    rintro r (⟨rfl,h⟩ | ⟨rfl,c,hc,h⟩)
    · rw[selim_l]
      unfold nameM
      by_cases c1:1≤L.length
      · rw[dT (show (1:Int)≤L.length by omega),cnd_t]
        by_cases c2:L.length≤8
        · rw[dT (show (L.length:Int)≤8 by omega),decide_eq_true (show (∀c∈L,okc c)∧1≤L.length∧L.length≤8 from⟨h,c1,c2⟩)]
        · rw[dF (show ¬(L.length:Int)≤8 by omega),decide_eq_false (fun q:(∀c∈L,okc c)∧1≤L.length∧L.length≤8=>c2 q.2.2)]
      · rw[dF (show ¬(1:Int)≤L.length by omega),cnd_f,decide_eq_false (fun q:(∀c∈L,okc c)∧1≤L.length∧L.length≤8=>c1 q.2.1)]
    · rw[selim_r]
      unfold nameM
      rw[decide_eq_false (fun q:(∀c∈L,okc c)∧1≤L.length∧L.length≤8=>h (q.1 c hc))]
  rintro v ⟨i,pre,rfl,hi,h1,h2⟩
  simp only[Int.toNat_natCast,decode_eq,List.take_length]
  by_cases c:i<x.length
  case neg=>
    right
    rw[dF c,cnd_f]
    rw[List.drop_eq_nil_of_le (by omega),LL_nil,List.append_nil] at h1
    exact⟨_,rfl,.inl ⟨by rw[h1],by rw[←h1];exact h2⟩⟩
  have hne:x.drop i≠[]:=fun e=>by
    have:=congrArg List.length e
    rw[List.length_drop,List.length_nil] at this;omega
  have hw:=dk_w (x.drop i)
  have hl:=dk_len _ hne
  rw[List.length_drop] at hl
  have hpl:pre.length≤x.length:=by
    have:=congrArg List.length h1
    rw[List.length_append] at this
    omega
  rw[LL_cons _ hne] at h1
  have hm:vl (x.drop i)∈LL x:=by rw[←h1];simp
  rw[dT c,cnd_t,dT (show (0:Int)≤(i:Int) by omega),dT (show (i:Int)≤(x.length:Int) by omega),Bool.and_self,cnd_t,letter_eq,obind_s]
  have go:okc (vl (x.drop i))→∃y:Int×List UInt8×Int,(some (.inl ((pre.length:Int)+1,x,((i+(dk (x.drop i)).2:Nat):Int))):Option ((Int×List UInt8×Int)⊕(Int⊕Bool)))=some (.inl y)∧(∃(i:Nat) (pre:List Int),y=((pre.length:Int),x,(i:Int))∧i≤x.length∧pre++LL (x.drop i)=LL x∧∀c∈pre,okc c)∧x.length-y.2.2.toNat<x.length-i:=fun q=>by
    refine⟨_,rfl,⟨i+(dk (x.drop i)).2,pre++[vl (x.drop i)],by rw[List.length_append,List.length_singleton];rfl,by omega,?_,fun c hc=>?_⟩,by simp only;omega⟩
    · rw[←h1,List.drop_drop,List.append_assoc];rfl
    · rw[List.mem_append,List.mem_singleton] at hc
      rcases hc with hc | hc
      · exact h2 c hc
      · rw[hc];exact q
  rw[wr_m (z:=(pre.length:Int)+1) (by omega) (by omega)]
  by_cases k1:vl (x.drop i)<33
  · right
    rw[dT k1,cnd_t]
    exact⟨_,rfl,.inr ⟨rfl,_,hm,fun q=>q (.inl k1)⟩⟩
  rw[dF k1,cnd_f]
  by_cases k2:127≤vl (x.drop i)
  · rw[dT k2,cnd_t]
    by_cases k3:vl (x.drop i)≤159
    · right
      rw[dT k3,cnd_t]
      exact⟨_,rfl,.inr ⟨rfl,_,hm,fun q=>q (.inr ⟨k2,k3⟩)⟩⟩
    · left
      rw[dF k3,cnd_f]
      exact go fun q=>by omega
  · left
    rw[dF k2,cnd_f]
    exact go fun q=>by omega
abbrev Tt:=Int×Int×Int×Int×Int×Int×List Int×Int×Int×Int×Int×Int×List (Int×Int×Int)
abbrev Nd:=Bool×Int×List UInt8×Tt×Fd×Int
def tnew (id inc grand:Int):Tt:=if id=1 then(id,inc,0,0,0,grand,[1],0,0,0,0,0,[]) else(id,inc,0,0,0,grand,[],0,0,0,0,0,[])
structure Sm (n:Nd):Prop where
  p:n.2.2.2.1.2.2.2.2.2.2.1.length≤1
  k:n.2.2.2.1.2.2.2.2.2.2.2.2.2.2.2.2=[]
  f:n.2.2.2.2.1=z7
theorem twinN_eq (N:Nat) {n:Nd} (h:Sm n):W_j N n=some n:=by
  obtain⟨on,inc,nm,⟨a1,a2,a3,a4,a5,a6,p,a8,a9,a10,a11,a12,k⟩,f,bad⟩:=n
  obtain⟨h1,h2,h3⟩:=h
  simp only at h1 h2 h3
  subst h2 h3
  unfold W_j V_j W_t V_t
  try simp only
  have c1:W_d N p=some p:=by
    unfold W_d V_d
    rw[dT (by omega),cnd_t]
  have c2:W_e N []=some []:=rfl
  have c3:W_a N z7=some z7:=rfl
  rw[c1,obind_s,c2,obind_s,obind_s,c3,obind_s]
open Classical in
def JM (n:Nd) (id:Int) (nm:List UInt8) (grand:Int):Bool×Nd:=
  if n.1=false∧nameM (LL nm)=true∧1≤id∧id≤8∧n.2.1<1073741824 then(true,true,n.2.1+1,nm,tnew id (n.2.1+1) grand,z7,0) else(false,n)
theorem JM_sm {n:Nd} (h:Sm n) (id:Int) (nm:List UInt8) (grand:Int):Sm (JM n id nm grand).2:=by
  unfold JM
  split
  · refine⟨?_,?_,rfl⟩
    · show (tnew id (n.2.1+1) grand).2.2.2.2.2.2.1.length≤1
      unfold tnew;split<;>simp
    · show (tnew id (n.2.1+1) grand).2.2.2.2.2.2.2.2.2.2.2.2=[]
      unfold tnew;split<;>rfl
  · exact h
theorem pNewT (N:Nat) (id inc grand:Int):W_1 N (id,inc,0,grand)=some (tnew id inc grand):=by
  unfold W_1 V_1 tnew
  try simp only
  by_cases c:id=1
  · rw[dT c,cnd_t,if_pos c]
  · rw[dF c,cnd_f,if_neg c]
theorem rNewT (N:Nat) (id inc grand:Int):W_Z N (id,inc,0,grand)=some (tnew id inc grand):=by
  unfold W_Z V_Z tnew
  try simp only
  by_cases c:id=1
  · rw[dT c,cnd_t,if_pos c]
  · rw[dF c,cnd_f,if_neg c]
theorem pJoin_eq (N:Nat) (hN:2000≤N) {n:Nd} (h:Sm n) (hi:-9223372036854775808≤n.2.1) (id:Int) (nm:List UInt8) (hn:nm.length≤1000) (grand:Int):W_m N (n,id,nm,grand)=some (JM n id nm grand):=by
  unfold W_m V_m JM
  have tw:=twinN_eq N h
  have nmq:=pName_eq N hN nm hn
  obtain⟨on,inc,nm0,t,f,bad⟩:=n
  simp only at tw hi ⊢
  cases on with
  | true=>
    rw[cnd_t,obind_s,if_neg (by simp)]
    simp only[cnd_t,obind_s,tw]
  | false=>
    rw[cnd_f,nmq,obind_s,obind_s]
    cases nameM (LL nm) with
    | false=>
      rw[if_neg (by simp)]
      simp only[Bool.not_false,cnd_t,obind_s,tw]
    | true=>
      simp only[Bool.not_true,cnd_f,obind_s]
      by_cases c1:id<1
      · rw[dT c1,if_neg (by omega)]
        simp only[cnd_t,obind_s,tw]
      rw[dF c1]
      simp only[cnd_f,obind_s]
      by_cases c2:8<id
      · rw[dT c2,if_neg (by omega)]
        simp only[cnd_t,obind_s,tw]
      rw[dF c2]
      simp only[cnd_f,obind_s]
      by_cases c3:1073741824≤inc
      · rw[dT c3,cnd_t,if_neg (by omega),tw,obind_s]
      rw[dF c3,cnd_f,wr_i64 (z:=inc+1) (by omega) (by omega),pNewT,obind_s,if_pos ⟨trivial,trivial,by omega,by omega,by omega⟩]
      rfl
theorem rJoin_eq (N:Nat) (hN:2000≤N) {n:Nd} (hi:-9223372036854775808≤n.2.1) (id:Int) (nm:List UInt8) (hn:nm.length≤1000) (grand:Int):W_M N (n,id,nm,grand)=some (JM n id nm grand):=by
  unfold W_M V_M JM
  have nmq:=rName_eq N hN nm hn
  obtain⟨on,inc,nm0,t,f,bad⟩:=n
  simp only at hi ⊢
  cases on with
  | true=>
    rw[cnd_t,obind_s,if_neg (by simp)]
    simp only[cnd_t,obind_s]
  | false=>
    rw[cnd_f,nmq,obind_s,obind_s]
    cases nameM (LL nm) with
    | false=>
      rw[if_neg (by simp)]
      simp only[Bool.not_false,cnd_t,obind_s]
    | true=>
      simp only[Bool.not_true,cnd_f,obind_s]
      by_cases c1:id<1
      · rw[dT c1,if_neg (by omega)]
        simp only[cnd_t,obind_s]
      rw[dF c1]
      simp only[cnd_f,obind_s]
      by_cases c2:8<id
      · rw[dT c2,if_neg (by omega)]
        simp only[cnd_t,obind_s]
      rw[dF c2]
      simp only[cnd_f,obind_s]
      by_cases c3:1073741824≤inc
      · rw[dT c3,cnd_t,if_neg (by omega)]
      rw[dF c3,cnd_f,wr_i64 (z:=inc+1) (by omega) (by omega),rNewT,obind_s,if_pos ⟨trivial,trivial,by omega,by omega,by omega⟩]
      rfl
theorem SameN_self (N:Nat) (hN:2000≤N) {n:Nd} (h:Sm n):W_r N (n,n)=some true:=by
  obtain⟨on,inc,nm,⟨a1,a2,a3,a4,a5,a6,p,a8,a9,a10,a11,a12,k⟩,f,bad⟩:=n
  obtain⟨h1,h2,h3⟩:=h
  simp only at h1 h2 h3
  subst h2 h3
  obtain⟨M,rfl⟩:∃M,N=M+4:=⟨N-4,by omega⟩
  have sf:W_ae (M+4) (z7,z7)=some true:=rfl
  have sk:W_af (M+4) ([],[])=some true:=rfl
  have si:W_R (M+4) (p,p)=some true:=by
    match p,h1 with
    | [],_=>rfl
    | [x],_=>
      unfold W_R V_R
      simp[loopN,cnd,obind,selim,wr_m]
  unfold W_r V_r W_3 V_3
  simp[obind_s,cnd_t,sf,sk,si]
theorem JM_twice {n:Nd} {id:Int} {nm:List UInt8} {grand:Int} (h:(JM n id nm grand).1=true):JM (JM n id nm grand).2 id nm grand=(false,(JM n id nm grand).2):=by
  have hon:(JM n id nm grand).2.1=true:=by
    unfold JM at h ⊢
    split
    · rfl
    · rename_i q
      rw[if_neg q] at h
      cases h
  generalize (JM n id nm grand).2=m at hon ⊢
  unfold JM
  rw[if_neg (by rw[hon];simp)]
theorem JM_inc {n:Nd} (hi:-9223372036854775808≤n.2.1) (id:Int) (nm:List UInt8) (grand:Int):-9223372036854775808≤(JM n id nm grand).2.2.1:=by
  unfold JM
  split
  · show -9223372036854775808≤n.2.1+1
    omega
  · exact hi
theorem Name_ex (N:Nat) (w:Int) (hw:0≤w∧w≤255):∃nm l' n',W_W N ([w],0)=some (nm,l',n')∧nm.length≤1000:=by
  obtain⟨k,n',e,k0,k1⟩:∃k n',W_X N (9,[w],0)=some (k,[w],n')∧0≤k∧k<9:=by
    unfold W_X V_X
    try simp only
    rw[dF (show ¬(([w]:List Int).length:Int)≤0 by simp),cnd_f,dF (show ¬(9:Int)<1 by omega),cnd_f,wr_m (z:=(0:Int)+1) (by omega) (by omega),wr_m (z:=(0:Int)+1-1) (by omega) (by omega),dT (show (0:Int)≤0+1-1 by omega),dT (show (0:Int)+1-1<(([w]:List Int).length:Int) by simp),Bool.and_self,cnd_t,dF (show ¬(9:Int)=0 by omega),Bool.not_false,cnd_t]
    refine⟨_,_,rfl,?_,?_⟩
    · show 0≤Int.tmod (wr .i64 w) 9
      rw[wr_m (z:=w) (by omega) (by omega)];exact Int.tmod_nonneg _ hw.1
    · show Int.tmod (wr .i64 w) 9<9
      exact Int.tmod_lt_of_pos _ (by omega)
  have:∀j:Nat,j<9→(List.getD [[(97:UInt8),(110:UInt8),(110:UInt8)],[(98:UInt8),(195:UInt8),(182:UInt8),(98:UInt8)],[(230:UInt8),(151:UInt8),(165:UInt8),(230:UInt8),(156:UInt8),(172:UInt8)],[(120:UInt8)],[(195:UInt8),(169:UInt8),(195:UInt8),(169:UInt8),(195:UInt8),(169:UInt8),(195:UInt8),(169:UInt8),(195:UInt8),(169:UInt8)],[],[(116:UInt8),(119:UInt8),(111:UInt8),(32:UInt8),(119:UInt8),(111:UInt8),(114:UInt8),(100:UInt8),(115:UInt8)],[(97:UInt8),(255:UInt8),(98:UInt8)],[(110:UInt8),(105:UInt8),(110:UInt8),(101:UInt8),(99:UInt8),(104:UInt8),(97:UInt8),(114:UInt8),(115:UInt8)]] j []).length≤1000:=by decide
  unfold W_W V_W
  try simp only
  rw[e,obind_s]
  try simp only
  rw[dT k0,cnd_t,dT (show k<((9:Nat):Int) by omega),cnd_t]
  exact⟨_,_,_,rfl,this _ (by omega)⟩
theorem law_aux (N:Nat) (hN:2000≤N) (hbeg:W_4 N ()=some true) (id:Int) (name:List UInt8) (grand inc w:Int) (hw:0≤w∧w≤255) (hinc:-9223372036854775808≤inc):W_a1 N (id,name,grand,inc,w)=some true:=by
  have m1:0≤Int.tmod w 8:=Int.tmod_nonneg _ hw.1
  have m2:Int.tmod w 8<8:=Int.tmod_lt_of_pos _ (by omega)
  by_cases c1:(40:Int)<name.length
  · unfold W_a1 V_a1
    try simp only
    rw[hbeg,obind_s,Bool.not_true,cnd_f,dT c1,cnd_t]
  obtain⟨nm2,l',n',e2,h2⟩:=Name_ex N w hw
  have hM:W_ak N [w]=some ([w],0):=rfl
  obtain⟨n0,en0⟩:∃n0:Nd,((false,inc,[],((0:Int),(0:Int),(0:Int),(0:Int),(0:Int),(0:Int),[],(0:Int),(0:Int),(0:Int),(0:Int),(0:Int),[]),((0:Int),(0:Int),[],[],[],(0:Int),(0:Int)),wr .i64 w):Nd)=n0:=⟨_,rfl⟩
  have s0:Sm n0:=by subst en0;exact⟨by show ([]:List Int).length≤1;simp,rfl,rfl⟩
  have i0:-9223372036854775808≤n0.2.1:=by subst en0;exact hinc
  have A1:∀(i:Int) (nm:List UInt8),nm.length≤1000→W_m N (n0,i,nm,grand)=some (JM n0 i nm grand):=fun i nm h=>pJoin_eq N hN s0 i0 i nm h grand
  have A2:∀(i:Int) (nm:List UInt8),nm.length≤1000→W_M N (n0,i,nm,grand)=some (JM n0 i nm grand):=fun i nm h=>rJoin_eq N hN i0 i nm h grand
  have A3:∀(i:Int) (nm:List UInt8),nm.length≤1000→W_m N ((JM n0 i nm grand).2,i,nm,grand)=some (JM (JM n0 i nm grand).2 i nm grand):=fun i nm h=>pJoin_eq N hN (JM_sm s0 i nm grand) (JM_inc i0 i nm grand) i nm h grand
  have S1:∀(i:Int) (nm:List UInt8),W_r N ((JM n0 i nm grand).2,(JM n0 i nm grand).2)=some true:=fun i nm=>SameN_self N hN (JM_sm s0 i nm grand)
  have T1:∀(i:Int) (nm:List UInt8),(JM n0 i nm grand).1=true→JM (JM n0 i nm grand).2 i nm grand=(false,(JM n0 i nm grand).2):=fun i nm h=>JM_twice h
  have q1:=A1 id name (by omega)
  have q2:=A2 id name (by omega)
  have q3:=A3 id name (by omega)
  have q4:=A1 (1+Int.tmod w 8) name (by omega)
  have q5:=A2 (1+Int.tmod w 8) name (by omega)
  have q6:=A3 (1+Int.tmod w 8) name (by omega)
  have q7:=A1 id nm2 h2
  have q8:=A2 id nm2 h2
  have q9:=A3 id nm2 h2
  have qa:=A1 (1+Int.tmod w 8) nm2 h2
  have qb:=A2 (1+Int.tmod w 8) nm2 h2
  have qc:=A3 (1+Int.tmod w 8) nm2 h2
  have w1:wr .i64 (Int.tmod w 8)=Int.tmod w 8:=wr_m (by omega) (by omega)
  have w2:wr .i64 (1+Int.tmod w 8)=1+Int.tmod w 8:=wr_m (by omega) (by omega)
  have bb:∀b:Bool,(!(b==b))=false:=by decide
  unfold W_a1 V_a1
  try simp only
  rw[hbeg,obind_s,Bool.not_true,cnd_f,dF c1,cnd_f,hM,obind_s,e2,obind_s]
  simp only[en0,w1,w2,q1,q2,q3,obind_s,bb,cnd_f,S1,Bool.not_true]
  cases j1:(JM n0 id name grand).1 <;>
  cases j2:(JM n0 (1+Int.tmod w 8) name grand).1 <;>
  cases j3:(JM n0 id nm2 grand).1 <;>
  cases j4:(JM n0 (1+Int.tmod w 8) nm2 grand).1 <;>
  simp only[w1,w2,q1,q2,q3,q4,q5,q6,q7,q8,q9,qa,qb,qc,obind_s,bb,cnd_f,cnd_t,S1,Bool.not_true,j1,j2,j3,j4,T1,selim]
def NN:Nat:=2000
theorem begun_joins:W_4 NN ()=some true:=by decide +kernel
theorem law_true (y0:Int) (y1:List UInt8) (y2:Int) (y3:Int) (y4:Int) (h0:Twf (.int .i64) y0) (h1:Twf .str y1) (h2:Twf (.int .i64) y2) (h3:Twf (.int .i64) y3) (h4:Twf (.int .u8) y4):W_a1 NN (y0,y1,y2,y3,y4)=some true:=by
  exact law_aux NN (Nat.le_refl _) begun_joins y0 y1 y2 y3 y4 h4 h3.1

theorem spec (y0:Int) (y1:List UInt8) (y2:Int) (y3:Int) (y4:Int) (h0:Twf (.int .i64) y0) (h1:Twf .str y1) (h2:Twf (.int .i64) y2) (h3:Twf (.int .i64) y3) (h4:Twf (.int .u8) y4):Spec2 P0 3 [valW (.int .i64) y0,valW .str y1,valW (.int .i64) y2,valW (.int .i64) y3,valW (.int .u8) y4] [] (.bs true) [] []:=(con_a1_ok NN).2 (y0,y1,y2,y3,y4) true (law_true y0 y1 y2 y3 y4 h0 h1 h2 h3 h4)
theorem lifted (os:Os) (started:os.Started) (H:Type) (enc:TypeId×Value→H):
    ReturnsInHanded {} Tryz.checked os 3 .any (Rows.nodeJoinsSpec.pre6 enc Tryz.prog Tryz.f3 Rows.nodeJoinsRow.domain false) (Rows.nodeJoinsSpec.post enc Tryz.prog Tryz.f3 false true false false):=by
  refine returnsInHanded_of_change (C:=Tryz.checked) own started (by kernel_rfl) Tryz.func3
    (ChangeSpec.witness6 (enc:=enc) (C:=Tryz.checked) false ⟨#[],#[.int .i64 0,.string ⟨#[]⟩,.int .i64 0,.int .i64 0,.int .u8 0],[]⟩ 8 (by kernel_rfl) (by kernel_rfl) (by kernel_rfl) (by kernel_rfl)) ?_
  intro W base args ds gs before hval0 hW hcnd _
  have hval:∀(j:Nat) t v,Tryz.f3.params[j]? = some t→args[j]? = some v→Value.okWide Tryz.prog W .any base t v:=hval0
  have hW':=hW
  obtain⟨p,q,hA0,hV,rfl,hfz,hnd⟩:=hW
  have hA:DataW.TrodAll enc Tryz.prog W 0 (fun _=>true) true Tryz.f3.params.toList args.toList ds p:=hA0
  rw[Tryz.params3] at hA hval
  obtain⟨v0,vs0,d0,ds0,p0,q0,hargs,rfl,rfl,h0,r0⟩:=trodAll_cons hA
  obtain⟨v1,vs1,d1,ds1,p1,q1,rfl,rfl,rfl,h1,r1⟩:=trodAll_cons r0
  obtain⟨v2,vs2,d2,ds2,p2,q2,rfl,rfl,rfl,h2,r2⟩:=trodAll_cons r1
  obtain⟨v3,vs3,d3,ds3,p3,q3,rfl,rfl,rfl,h3,r3⟩:=trodAll_cons r2
  obtain⟨v4,vs4,d4,ds4,p4,q4,rfl,rfl,rfl,h4,r4⟩:=trodAll_cons r3
  obtain⟨rfl,rfl,rfl⟩:=trodAll_nil r4
  obtain rfl:args=#[v0,v1,v2,v3,v4]:=by cases args;simp_all
  obtain⟨rfl,rfl⟩:=trodVars_none hV
  have k0:=h0
  have lt0:∀x∈p0,x.block<W.heap.size:=by obtain⟨m,hm⟩:=k0;exact DataW.trod_lt m _ _ _ hm
  obtain⟨y0,rp0,wf0⟩:=arg_ok (n:=12) (ty:=(.int .i64)) (by kernel_rfl) (hval 0 _ v0 rfl rfl) h0
  have k1:=h1
  have lt1:∀x∈p1,x.block<W.heap.size:=by obtain⟨m,hm⟩:=k1;exact DataW.trod_lt m _ _ _ hm
  obtain⟨y1,rp1,wf1⟩:=arg_ok (n:=12) (ty:=.str) (by kernel_rfl) (hval 1 _ v1 rfl rfl) h1
  have k2:=h2
  have lt2:∀x∈p2,x.block<W.heap.size:=by obtain⟨m,hm⟩:=k2;exact DataW.trod_lt m _ _ _ hm
  obtain⟨y2,rp2,wf2⟩:=arg_ok (n:=12) (ty:=(.int .i64)) (by kernel_rfl) (hval 2 _ v2 rfl rfl) h2
  have k3:=h3
  have lt3:∀x∈p3,x.block<W.heap.size:=by obtain⟨m,hm⟩:=k3;exact DataW.trod_lt m _ _ _ hm
  obtain⟨y3,rp3,wf3⟩:=arg_ok (n:=12) (ty:=(.int .i64)) (by kernel_rfl) (hval 3 _ v3 rfl rfl) h3
  have k4:=h4
  have lt4:∀x∈p4,x.block<W.heap.size:=by obtain⟨m,hm⟩:=k4;exact DataW.trod_lt m _ _ _ hm
  obtain⟨y4,rp4,wf4⟩:=arg_ok (n:=12) (ty:=(.int .u8)) (by kernel_rfl) (hval 4 _ v4 rfl rfl) h4
  clear hA0 hval0
  refine(law_of2 (spec y0 y1 y2 y3 y4 wf0 wf1 wf2 wf3 wf4) W #[v0,v1,v2,v3,v4] (.cons rp0 (.cons rp1 (.cons rp2 (.cons rp3 (.cons rp4 .nil)))))).mono fun e W' ⟨he,bel⟩=>?_
  subst he
  exact⟨_,rfl,_,_,_,[],_,[],hW',trodAll_mk1 (shut_bool Tryz.underlying4 _),(trodAll_cons_mk (Below.trod laidOut (by kernel_rfl) (of_decide_eq_true (by kernel_rfl)) k0 bel lt0) (trodAll_cons_mk (Below.trod laidOut (by kernel_rfl) (of_decide_eq_true (by kernel_rfl)) k1 bel lt1) (trodAll_cons_mk (Below.trod laidOut (by kernel_rfl) (of_decide_eq_true (by kernel_rfl)) k2 bel lt2) (trodAll_cons_mk (Below.trod laidOut (by kernel_rfl) (of_decide_eq_true (by kernel_rfl)) k3 bel lt3) (trodAll_cons_mk (Below.trod laidOut (by kernel_rfl) (of_decide_eq_true (by kernel_rfl)) k4 bel lt4) trodAll_mk0))))),rfl,bel.frame _,fun h=>by cases h⟩

theorem over:Rows.nodeJoinsRow.holds Tryz.pinned (OpenSpec.ofChange Rows.nodeJoinsSpec):=
  OpenClaim.holds_of_wide 3 Tryz.f3 rfl rfl rfl rfl rfl rfl rfl ⟨rfl,rfl,rfl,rfl,rfl⟩ rfl rfl rfl rfl rfl (by kernel_rfl) Tryz.func3 (by kernel_rfl)
    (of_decide_eq_true (by kernel_rfl)) (by unfold Func.isWrapper;first | (rw[if_pos (by decide +kernel)];kernel_rfl) | (rw[if_neg (by decide +kernel)];exact⟨rfl,rfl⟩))
    (fun os started H enc _=>lifted os started H enc)

theorem holds:Rows.NodeJoinsSaid:=over
end
end Go.Proofs.YtgpgmncgbebgdaaGreat.nodeJoinsX
