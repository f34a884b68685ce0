/- ClusGroup: for all arguments the call returns true. The law is brought to a function of Lean's own (W_..) by the machine of the texts beside it, and that is reckoned; no condition. -/
import Derived.Test.YtnjmmfcikdfinaaExtSo
import Derived.Test.YtnjmmfcikdfinaaExtL
import Derived.Test.YtnjmmfcikdfinaaRows
import Derived.WalkKit
import Derived.ProofKit
import Derived.OpenShut
import Derived.ShutString
import Derived.ChangeOld
import Derived.Below
import Derived.Shelf.Sort.Plain
import Derived.Shelf.SlicesE.DeleteFunc
import Derived.Shelf.RegionOpenPlain
import Derived.Deep.RegionLaw
import Derived.Lib.Walk
namespace Go.Proofs.Ytnjmmfcikdfinaa.clusGroupX
open Go.Abs Go.RowKit Go.ChangeShapes Go.WideShapes Go.ChangeAt
set_option maxRecDepth 100000
set_option linter.unusedVariables false
set_option linter.unusedSimpArgs false
noncomputable abbrev P0 : Program := Try.prog
noncomputable def bodyOf (fn : Func) : Code := fn.body.getD .skip
def L0 : Lend := fun f => aget [] [(52, [0]), (53, [0]), (57, [0]), (60, [0]), (61, [0]), (62, [0]), (64, [0]), (65, [0]), (67, [0]), (68, [0]), (71, [0])] f
def kpL (l : List Bool) : Nat → Bool := fun j => l.getD j true
theorem own : ownKnob Try.prog.godebug = none := by kernel_rfl
theorem laidOut : laidOutB Try.prog = true := by kernel_rfl
theorem mixed : P0.follows .mixedOrders = true := by decide +kernel
theorem progOk_ : progOk P0 = true := by decide +kernel
def soRen : Go.Shelf.Ren := ⟨fun | 189 => 52 | 125 => 58 | 257 => 57 | 128 => 69 | 129 => 70 | 294 => 60 | 295 => 61 | 296 => 62 | 297 => 63 | 298 => 64 | 299 => 65 | 216 => 66 | 300 => 67 | 301 => 68 | 328 => 71 | 329 => 72 | 330 => 73 | 331 => 74 | 332 => 75 | 215 => 76 | 343 => 77 | n => n, fun | 28 => 28 | 3 => 3 | 46 => 85 | 0 => 0 | 51 => 97 | 53 => 99 | 4 => 4 | 183 => 89 | 182 => 88 | 131 => 94 | 5 => 5 | 9 => 9 | 218 => 100 | 222 => 104 | 228 => 106 | 229 => 107 | n => n, fun | n => n⟩
theorem soLays : Go.Proofs.Lays.n189 Try.prog soRen := {
  mixed := by kernel_rfl
  f125 := Try.func58.trans (congrArg some (by kernel_rfl))
  f128 := Try.func69.trans (congrArg some (by kernel_rfl))
  f129 := Try.func70.trans (congrArg some (by kernel_rfl))
  f189 := Try.func52.trans (congrArg some (by kernel_rfl))
  f215 := Try.func76.trans (congrArg some (by kernel_rfl))
  f216 := Try.func66.trans (congrArg some (by kernel_rfl))
  f257 := Try.func57.trans (congrArg some (by kernel_rfl))
  f294 := Try.func60.trans (congrArg some (by kernel_rfl))
  f295 := Try.func61.trans (congrArg some (by kernel_rfl))
  f296 := Try.func62.trans (congrArg some (by kernel_rfl))
  f297 := Try.func63.trans (congrArg some (by kernel_rfl))
  f298 := Try.func64.trans (congrArg some (by kernel_rfl))
  f299 := Try.func65.trans (congrArg some (by kernel_rfl))
  f300 := Try.func67.trans (congrArg some (by kernel_rfl))
  f301 := Try.func68.trans (congrArg some (by kernel_rfl))
  f328 := Try.func71.trans (congrArg some (by kernel_rfl))
  f329 := Try.func72.trans (congrArg some (by kernel_rfl))
  f330 := Try.func73.trans (congrArg some (by kernel_rfl))
  f331 := Try.func74.trans (congrArg some (by kernel_rfl))
  f332 := Try.func75.trans (congrArg some (by kernel_rfl))
  f343 := Try.func77.trans (congrArg some (by kernel_rfl))
  t0 := Try.underlying0
  a0 := Try.isAgg0
  z0 := Try.sizeOf0
  v0 := Try.zeroValue0
  t3 := Try.underlying3
  a3 := Try.isAgg3
  z3 := Try.sizeOf3
  v3 := Try.zeroValue3
  t4 := Try.underlying4
  a4 := Try.isAgg4
  z4 := Try.sizeOf4
  v4 := Try.zeroValue4
  t5 := Try.underlying5
  a5 := Try.isAgg5
  z5 := Try.sizeOf5
  v5 := Try.zeroValue5
  t9 := Try.underlying9
  a9 := Try.isAgg9
  z9 := Try.sizeOf9
  v9 := Try.zeroValue9
  t28 := Try.underlying28
  a28 := Try.isAgg28
  z28 := Try.sizeOf28
  v28 := Try.zeroValue28
  t46 := Try.underlying85
  a46 := Try.isAgg85
  z46 := Try.sizeOf85
  v46 := Try.zeroValue85
  t51 := Try.underlying97
  a51 := Try.isAgg97
  z51 := Try.sizeOf97
  v51 := Try.zeroValue97
  t53 := Try.underlying99
  a53 := Try.isAgg99
  z53 := Try.sizeOf99
  v53 := Try.zeroValue99
  t131 := Try.underlying94
  a131 := Try.isAgg94
  z131 := Try.sizeOf94
  v131 := Try.zeroValue94
  t182 := Try.underlying88
  a182 := Try.isAgg88
  z182 := Try.sizeOf88
  v182 := Try.zeroValue88
  t183 := Try.underlying89
  a183 := Try.isAgg89
  z183 := Try.sizeOf89
  v183 := Try.zeroValue89
  t218 := Try.underlying100
  a218 := Try.isAgg100
  z218 := Try.sizeOf100
  v218 := Try.zeroValue100
  t222 := Try.underlying104
  a222 := Try.isAgg104
  z222 := Try.sizeOf104
  v222 := Try.zeroValue104
  t228 := Try.underlying106
  a228 := Try.isAgg106
  z228 := Try.sizeOf106
  v228 := Try.zeroValue106
  t229 := Try.underlying107
  a229 := Try.isAgg107
  z229 := Try.sizeOf107
  v229 := Try.zeroValue107 }
open Go.Sort Go.RowKit in
theorem soSort (blk off cap : Nat) (zs : List Int) (w : World) (hH : Holds (Value.int .i64) w blk off zs.toArray) (hblk : blk < w.heap.size) (hsz : zs.length < 4611686018427387904) :
    Calls Try.prog 52 #[.slice (some ⟨blk, off, none⟩) zs.length cap] w fun e w' =>
      e = .returned (.tuple #[]) ∧ ∃ n os, w' = grow (putRow (Value.int .i64) (Sort.ahead w n) blk off (zs.mergeSort fun x y => decide (x ≤ y)).toArray) os := Any.slices_Sort_int soLays blk off cap zs w hH hblk hsz
def dfRen : Go.Shelf.Ren := ⟨fun | 10 => 53 | 6 => 59 | n => n, fun | 22 => 28 | 23 => 3 | 25 => 78 | 3 => 3 | 4 => 4 | 0 => 0 | n => n, fun | n => n⟩
theorem dfLays : Go.Proofs.SlLaysH.n10 Try.prog dfRen := {
  mixed := by kernel_rfl
  f6 := ⟨Try.f59.name, by decide, Try.func59.trans (congrArg some (by kernel_rfl))⟩
  f10 := ⟨Try.f53.name, by decide, Try.func53.trans (congrArg some (by kernel_rfl))⟩
  t0 := Try.underlying0
  a0 := Try.isAgg0
  z0 := Try.sizeOf0
  v0 := Try.zeroValue0
  t3 := Try.underlying3
  a3 := Try.isAgg3
  z3 := Try.sizeOf3
  v3 := Try.zeroValue3
  t4 := Try.underlying4
  a4 := Try.isAgg4
  z4 := Try.sizeOf4
  v4 := Try.zeroValue4
  t22 := Try.underlying28
  a22 := Try.isAgg28
  z22 := Try.sizeOf28
  v22 := Try.zeroValue28
  a23 := Try.isAgg3
  z23 := Try.sizeOf3
  t25 := Try.underlying78
  a25 := Try.isAgg78
  z25 := Try.sizeOf78
  v25 := Try.zeroValue78 }
open Go.RowKit Go.Lib Go.Sort in
theorem dfDel {α : Type} [Inhabited α] (enc : α → Value) (hO : OneCell enc) (p : α → Bool) (g : Nat) (lb : Array Value) (eg : ∀ args w, (callFunc g args).run Try.prog w = .ok (.enter g args) w) (zr : α) (v23 : ∀ w, (zeroValue 3).run Try.prog w = .ok (enc zr) w) (blk off cap : Nat) (d : Array α) (w : World) (hp : PredAt Try.prog g lb enc p w) (hpo : PredOver Try.prog g lb enc p blk off d.size w) (hH : Holds enc w blk off d) (hsz : d.size ≤ 9223372036854775807) (hcap : d.size ≤ cap) :
    Calls Try.prog 53 #[.slice (some ⟨blk, off, none⟩) d.size cap, .func (.func g) #[] lb] w fun e w' => e = .returned (.slice (some ⟨blk, off, none⟩) (d.toList.filter fun x => !p x).length cap) ∧ ∃ q, w' = putRow enc (Sort.ahead w q) blk off ((d.toList.filter fun x => !p x) ++ List.replicate (d.size - (d.toList.filter fun x => !p x).length) zr).toArray := AnyE.slices_DeleteFunc dfLays enc hO p g lb eg zr v23 blk off cap d w hp hpo hH hsz hcap

theorem soF52 : SoF Try.prog 52 := fun blk off cap zs w hH hblk hsz => soSort blk off cap zs w hH hblk hsz
open Go.Lib Go.Sort in
theorem dfP {k : Int} {B : Nat} {W : World} (x : Int) (hc : W.cell? ⟨B, 0, none⟩ = some (.int .i64 k)) : FnGives Try.prog 54 #[.pointer (some ⟨B, 0, none⟩)] #[Value.int .i64 x] (.bool (decide (x = k))) W := by
  have e : (x == k) = decide (x = k) := Bool.eq_iff_iff.2 (by simp)
  unfold FnGives
  go_enter Try.func54, Try.ntmps54
  go_wp2
  go_ret
  exact ⟨by first | (simp; done) | (simp; exact e), 0, rfl⟩
open Go.Lib Go.Sort in
theorem dfF53 : DfF Try.prog 53 54 := fun blk off cap B zs k w hH hblk hB hne hc hcap hsz => by
  have hz : zs.toArray.size = zs.length := by simp
  have h := dfDel (Value.int .i64) (fun _ => rfl) (fun x => decide (x = k)) 54 #[.pointer (some ⟨B, 0, none⟩)] (enters_of Try.func54 (by kernel_rfl) rfl) 0 Try.zeroValue3 blk off cap zs.toArray w
    (fun W x hb => dfP x ((hb.cell (p := ⟨B, 0, none⟩) hB).trans hc))
    (fun n os dk x hs => dfP x (by
      have e : (Go.Sort.grow (Go.Sort.putRow (Value.int .i64) (Go.Sort.ahead w n) blk off dk) os).heap[B]? = w.heap[B]? := by
        unfold Go.Sort.grow
        rw [Array.getElem?_append_left (by rw [Go.Sort.size_putRow]; exact hB)]
        unfold Go.Sort.putRow Go.Sort.mapBlock Go.Sort.ahead
        simp only [Array.getElem?_modify, if_neg (fun q : blk = B => hne q.symm)]
      unfold sortWorld
      rw [← hc]
      unfold World.cell?
      rw [e]))
    hH (by omega) (by omega)
  rw [hz] at h
  exact h
def as_Made : List AS := [.val (.list (.int .u8))]
def bs_Made : List BS := []
def pout_Made : Pat := ⟨[(2, .ptr 600005 0)], [(600005, .box 53 (.val (.pair (.list (.int .u8)) (.int .i64))))]⟩
noncomputable def G_Made  (N : Nat) : OrcT := orcOf []
noncomputable def F_Made  (N : Nat) (x : List Int) : Option ((List Int) × Int) :=
  (evT (G_Made  N) L0 P0 []
    [] N 400 (bodyOf Try.f8) ⟨6, slots 0 (argsOf as_Made bs_Made x), tabU (lbOf as_Made bs_Made x) [], []⟩).elim (kRet 6 pout_Made (kpL []) (lbOf as_Made bs_Made x))
def out_Made (y : (List Int) × Int) : V × List OK × List OK := (.ptr 2000000 0 0, [], [.box 53 (cellsW (.pair (.list (.int .u8)) (.int .i64)) y)])
noncomputable def V_Made  (N : Nat) (x : List Int) : Option ((List Int) × Int) :=
  some (x, (0:Int))
theorem FV_Made_eq  (N : Nat) (x : List Int) : F_Made  N x = V_Made  N x := by kernel_rfl
noncomputable def W_Made (N : Nat) (x : List Int) : Option ((List Int) × Int) := V_Made  N x
theorem F_Made_eq (N : Nat) (x : List Int) : F_Made  N x = W_Made N x := (FV_Made_eq  N x).trans (by kernel_rfl)
noncomputable def conw_Made (w : List Int → Option ((List Int) × Int)) : Con := ⟨8, as_Made, bs_Made, (List Int) × Int, w, out_Made⟩
noncomputable def con_Made (N : Nat) : Con := conw_Made (W_Made N)
theorem R_Made_eq (x : List Int) (y : (List Int) × Int) : retOf2 P0 Try.f8 (kpL []) (lbOf as_Made bs_Made x) (patS ⟨6, [], [], []⟩ pout_Made y) = some (out_Made y) := by kernel_rfl
theorem con_Made_ok (N : Nat) : Con.ok P0 (con_Made N) := ⟨⟨Try.f8, Try.func8, by kernel_rfl, by kernel_rfl⟩, fun (x : List Int) (r : (List Int) × Int) (hr : W_Made N x = some r) =>
  spec2_evT (Γ := G_Made N) (Λ := L0) (pout := pout_Made) (kp := kpL []) mixed (orcOf_ok [] (by simp)) Try.func8 (c := bodyOf Try.f8) (by kernel_rfl) (by kernel_rfl) (of_decide_eq_true (by kernel_rfl)) ((F_Made_eq N x).trans hr) (R_Made_eq x r)⟩
def as_Picks_Num : List AS := [.ptr 0 0, .val (.int .i64)]
def bs_Picks_Num : List BS := [.box 53 (.pair (.list (.int .u8)) (.int .i64))]
def pout_Picks_Num : Pat := ⟨[(0, .ptr 1000000 0), (4, .val (.int .i64))], [(1000000, .box 53 (.val (.pair (.list (.int .u8)) (.int .i64))))]⟩
noncomputable def G_Picks_Num  (N : Nat) : OrcT := orcOf []
noncomputable def F_Picks_Num  (N : Nat) (x : Int × (List Int) × Int) : Option (Int × (List Int) × Int) :=
  (evT (G_Picks_Num  N) L0 P0 []
    [] N 400 (bodyOf Try.f29) ⟨40, slots 0 (argsOf as_Picks_Num bs_Picks_Num x), tabU (lbOf as_Picks_Num bs_Picks_Num x) [], []⟩).elim (kRet 40 pout_Picks_Num (kpL [true]) (lbOf as_Picks_Num bs_Picks_Num x))
def out_Picks_Num (y : Int × (List Int) × Int) : V × List OK × List OK := (valW (.int .i64) y.1, [.box 53 (cellsW (.pair (.list (.int .u8)) (.int .i64)) y.2)], [])
noncomputable def V_Picks_Num  (N : Nat) (x : Int × (List Int) × Int) : Option (Int × (List Int) × Int) :=
  cnd (decide ((↑(List.length x.2.1) : Int) ≤ x.2.2)) (some ((0:Int), x.2)) (cnd (decide (x.1 < (1:Int))) (some ((0:Int), x.2)) (cnd (decide ((0:Int) ≤
    wr .i64 (wr .i64 (x.2.2 + (1:Int)) - (1:Int))) && decide (wr .i64 (wr .i64 (x.2.2 + (1:Int)) - (1:Int)) < (↑(List.length x.2.1) : Int))) (cnd
    (!decide (x.1 = (0:Int))) (some (Int.tmod (wr .i64 (List.getD x.2.1 (Int.toNat (wr .i64 (wr .i64 (x.2.2 + (1:Int)) - (1:Int)))) (0:Int))) x.1,
    x.2.1, wr .i64 (x.2.2 + (1:Int)))) none) none))
theorem FV_Picks_Num_eq  (N : Nat) (x : Int × (List Int) × Int) : F_Picks_Num  N x = V_Picks_Num  N x := by kernel_rfl
noncomputable def W_Picks_Num (N : Nat) (x : Int × (List Int) × Int) : Option (Int × (List Int) × Int) := V_Picks_Num  N x
theorem F_Picks_Num_eq (N : Nat) (x : Int × (List Int) × Int) : F_Picks_Num  N x = W_Picks_Num N x := (FV_Picks_Num_eq  N x).trans (by kernel_rfl)
noncomputable def conw_Picks_Num (w : Int × (List Int) × Int → Option (Int × (List Int) × Int)) : Con := ⟨29, as_Picks_Num, bs_Picks_Num, Int × (List Int) × Int, w, out_Picks_Num⟩
noncomputable def con_Picks_Num (N : Nat) : Con := conw_Picks_Num (W_Picks_Num N)
theorem R_Picks_Num_eq (x : Int × (List Int) × Int) (y : Int × (List Int) × Int) : retOf2 P0 Try.f29 (kpL [true]) (lbOf as_Picks_Num bs_Picks_Num x) (patS ⟨40, [], [], []⟩ pout_Picks_Num y) = some (out_Picks_Num y) := by kernel_rfl
theorem con_Picks_Num_ok (N : Nat) : Con.ok P0 (con_Picks_Num N) := ⟨⟨Try.f29, Try.func29, by kernel_rfl, by kernel_rfl⟩, fun (x : Int × (List Int) × Int) (r : Int × (List Int) × Int) (hr : W_Picks_Num N x = some r) =>
  spec2_evT (Γ := G_Picks_Num N) (Λ := L0) (pout := pout_Picks_Num) (kp := kpL [true]) mixed (orcOf_ok [] (by simp)) Try.func29 (c := bodyOf Try.f29) (by kernel_rfl) (by kernel_rfl) (of_decide_eq_true (by kernel_rfl)) ((F_Picks_Num_eq N x).trans hr) (R_Picks_Num_eq x r)⟩
def as_Picks_Dist : List AS := [.ptr 0 0]
def bs_Picks_Dist : List BS := [.box 53 (.pair (.list (.int .u8)) (.int .i64))]
def pout_Picks_Dist : Pat := ⟨[(0, .ptr 1000000 0), (2, .val (.list (.list (.int .i64))))], [(1000000, .box 53 (.val (.pair (.list (.int .u8)) (.int .i64))))]⟩
noncomputable def G_Picks_Dist (w_Picks_Num : Int × (List Int) × Int → Option (Int × (List Int) × Int)) (N : Nat) : OrcT := orcOf [conw_Picks_Num w_Picks_Num]
noncomputable def F_Picks_Dist (w_Picks_Num : Int × (List Int) × Int → Option (Int × (List Int) × Int)) (N : Nat) (x : (List Int) × Int) : Option ((List (List Int)) × (List Int) × Int) :=
  (evT (G_Picks_Dist w_Picks_Num N) L0 P0 [(3, .unroll 9),
    (10, .unroll 9),
    (7, .unroll 9)]
    [] N 400 (bodyOf Try.f9) ⟨45, slots 0 (argsOf as_Picks_Dist bs_Picks_Dist x), tabU (lbOf as_Picks_Dist bs_Picks_Dist x) [], []⟩).elim (kRet 45 pout_Picks_Dist (kpL [true]) (lbOf as_Picks_Dist bs_Picks_Dist x))
def out_Picks_Dist (y : (List (List Int)) × (List Int) × Int) : V × List OK × List OK := (valW (.list (.list (.int .i64))) y.1, [.box 53 (cellsW (.pair (.list (.int .u8)) (.int .i64)) y.2)], [])
noncomputable def V_Picks_Dist (w_Picks_Num : Int × (List Int) × Int → Option (Int × (List Int) × Int)) (N : Nat) (x : (List Int) × Int) : Option ((List (List Int)) × (List Int) × Int) :=
  obind (w_Picks_Num ((9:Int), x)) fun b0 => cnd (decide ((0:Int) ≤ b0.1)) (cnd (decide (b0.1 < ((↑(9:Nat) : Int) : Int))) (obind (w_Picks_Num
    ((9:Int), b0.2)) fun b1 => cnd (decide ((0:Int) ≤ b1.1)) (cnd (decide (b1.1 < ((↑(9:Nat) : Int) : Int))) (obind (w_Picks_Num ((9:Int), b1.2)) fun
    b2 => cnd (decide ((0:Int) ≤ b2.1)) (cnd (decide (b2.1 < ((↑(9:Nat) : Int) : Int))) (obind (w_Picks_Num ((9:Int), b2.2)) fun b3 => cnd (decide
    ((0:Int) ≤ b3.1)) (cnd (decide (b3.1 < ((↑(9:Nat) : Int) : Int))) (obind (w_Picks_Num ((9:Int), b3.2)) fun b4 => cnd (decide ((0:Int) ≤ b4.1))
    (cnd (decide (b4.1 < ((↑(9:Nat) : Int) : Int))) (obind (w_Picks_Num ((9:Int), b4.2)) fun b5 => cnd (decide ((0:Int) ≤ b5.1)) (cnd (decide (b5.1 <
    ((↑(9:Nat) : Int) : Int))) (obind (w_Picks_Num ((9:Int), b5.2)) fun b6 => cnd (decide ((0:Int) ≤ b6.1)) (cnd (decide (b6.1 < ((↑(9:Nat) : Int) :
    Int))) (obind (w_Picks_Num ((9:Int), b6.2)) fun b7 => cnd (decide ((0:Int) ≤ b7.1)) (cnd (decide (b7.1 < ((↑(9:Nat) : Int) : Int))) (obind
    (w_Picks_Num ((9:Int), b7.2)) fun b8 => cnd (decide ((0:Int) ≤ b8.1)) (cnd (decide (b8.1 < ((↑(9:Nat) : Int) : Int))) (obind (w_Picks_Num
    ((9:Int), b8.2)) fun b9 => cnd (decide ((0:Int) ≤ b9.1)) (cnd (decide (b9.1 < ((↑(9:Nat) : Int) : Int))) (obind (w_Picks_Num ((9:Int), b9.2)) fun
    b10 => cnd (decide ((0:Int) ≤ b10.1)) (cnd (decide (b10.1 < ((↑(9:Nat) : Int) : Int))) (obind (w_Picks_Num ((9:Int), b10.2)) fun b11 => cnd
    (decide ((0:Int) ≤ b11.1)) (cnd (decide (b11.1 < ((↑(9:Nat) : Int) : Int))) (obind (w_Picks_Num ((9:Int), b11.2)) fun b12 => cnd (decide ((0:Int)
    ≤ b12.1)) (cnd (decide (b12.1 < ((↑(9:Nat) : Int) : Int))) (obind (w_Picks_Num ((9:Int), b12.2)) fun b13 => cnd (decide ((0:Int) ≤ b13.1)) (cnd
    (decide (b13.1 < ((↑(9:Nat) : Int) : Int))) (obind (w_Picks_Num ((9:Int), b13.2)) fun b14 => cnd (decide ((0:Int) ≤ b14.1)) (cnd (decide (b14.1 <
    ((↑(9:Nat) : Int) : Int))) (obind (w_Picks_Num ((9:Int), b14.2)) fun b15 => cnd (decide ((0:Int) ≤ b15.1)) (cnd (decide (b15.1 < ((↑(9:Nat) : Int)
    : Int))) (obind (w_Picks_Num ((9:Int), b15.2)) fun b16 => cnd (decide ((0:Int) ≤ b16.1)) (cnd (decide (b16.1 < ((↑(9:Nat) : Int) : Int))) (obind
    (w_Picks_Num ((9:Int), b16.2)) fun b17 => cnd (decide ((0:Int) ≤ b17.1)) (cnd (decide (b17.1 < ((↑(9:Nat) : Int) : Int))) (obind (w_Picks_Num
    ((9:Int), b17.2)) fun b18 => cnd (decide ((0:Int) ≤ b18.1)) (cnd (decide (b18.1 < ((↑(9:Nat) : Int) : Int))) (obind (w_Picks_Num ((9:Int), b18.2))
    fun b19 => cnd (decide ((0:Int) ≤ b19.1)) (cnd (decide (b19.1 < ((↑(9:Nat) : Int) : Int))) (obind (w_Picks_Num ((9:Int), b19.2)) fun b20 => cnd
    (decide ((0:Int) ≤ b20.1)) (cnd (decide (b20.1 < ((↑(9:Nat) : Int) : Int))) (obind (w_Picks_Num ((9:Int), b20.2)) fun b21 => cnd (decide ((0:Int)
    ≤ b21.1)) (cnd (decide (b21.1 < ((↑(9:Nat) : Int) : Int))) (obind (w_Picks_Num ((9:Int), b21.2)) fun b22 => cnd (decide ((0:Int) ≤ b22.1)) (cnd
    (decide (b22.1 < ((↑(9:Nat) : Int) : Int))) (obind (w_Picks_Num ((9:Int), b22.2)) fun b23 => cnd (decide ((0:Int) ≤ b23.1)) (cnd (decide (b23.1 <
    ((↑(9:Nat) : Int) : Int))) (obind (w_Picks_Num ((9:Int), b23.2)) fun b24 => cnd (decide ((0:Int) ≤ b24.1)) (cnd (decide (b24.1 < ((↑(9:Nat) : Int)
    : Int))) (obind (w_Picks_Num ((9:Int), b24.2)) fun b25 => cnd (decide ((0:Int) ≤ b25.1)) (cnd (decide (b25.1 < ((↑(9:Nat) : Int) : Int))) (obind
    (w_Picks_Num ((9:Int), b25.2)) fun b26 => cnd (decide ((0:Int) ≤ b26.1)) (cnd (decide (b26.1 < ((↑(9:Nat) : Int) : Int))) (obind (w_Picks_Num
    ((9:Int), b26.2)) fun b27 => cnd (decide ((0:Int) ≤ b27.1)) (cnd (decide (b27.1 < ((↑(9:Nat) : Int) : Int))) (some ([[(0:Int), List.getD [(1:Int),
    (2:Int), (3:Int), (5:Int), (9:Int), (9:Int), (20:Int), (1000:Int), (0:Int)] (Int.toNat b0.1) (0:Int), List.getD [(1:Int), (2:Int), (3:Int), (5:Int),
    (9:Int), (9:Int), (20:Int), (1000:Int), (0:Int)] (Int.toNat b1.1) (0:Int), List.getD [(1:Int), (2:Int), (3:Int), (5:Int), (9:Int), (9:Int),
    (20:Int), (1000:Int), (0:Int)] (Int.toNat b3.1) (0:Int), List.getD [(1:Int), (2:Int), (3:Int), (5:Int), (9:Int), (9:Int), (20:Int), (1000:Int),
    (0:Int)] (Int.toNat b6.1) (0:Int), List.getD [(1:Int), (2:Int), (3:Int), (5:Int), (9:Int), (9:Int), (20:Int), (1000:Int), (0:Int)] (Int.toNat b10.1)
    (0:Int), List.getD [(1:Int), (2:Int), (3:Int), (5:Int), (9:Int), (9:Int), (20:Int), (1000:Int), (0:Int)] (Int.toNat b15.1) (0:Int), List.getD
    [(1:Int), (2:Int), (3:Int), (5:Int), (9:Int), (9:Int), (20:Int), (1000:Int), (0:Int)] (Int.toNat b21.1) (0:Int)], [List.getD [(1:Int), (2:Int),
    (3:Int), (5:Int), (9:Int), (9:Int), (20:Int), (1000:Int), (0:Int)] (Int.toNat b0.1) (0:Int), (0:Int), List.getD [(1:Int), (2:Int), (3:Int), (5:Int),
    (9:Int), (9:Int), (20:Int), (1000:Int), (0:Int)] (Int.toNat b2.1) (0:Int), List.getD [(1:Int), (2:Int), (3:Int), (5:Int), (9:Int), (9:Int),
    (20:Int), (1000:Int), (0:Int)] (Int.toNat b4.1) (0:Int), List.getD [(1:Int), (2:Int), (3:Int), (5:Int), (9:Int), (9:Int), (20:Int), (1000:Int),
    (0:Int)] (Int.toNat b7.1) (0:Int), List.getD [(1:Int), (2:Int), (3:Int), (5:Int), (9:Int), (9:Int), (20:Int), (1000:Int), (0:Int)] (Int.toNat b11.1)
    (0:Int), List.getD [(1:Int), (2:Int), (3:Int), (5:Int), (9:Int), (9:Int), (20:Int), (1000:Int), (0:Int)] (Int.toNat b16.1) (0:Int), List.getD
    [(1:Int), (2:Int), (3:Int), (5:Int), (9:Int), (9:Int), (20:Int), (1000:Int), (0:Int)] (Int.toNat b22.1) (0:Int)], [List.getD [(1:Int), (2:Int),
    (3:Int), (5:Int), (9:Int), (9:Int), (20:Int), (1000:Int), (0:Int)] (Int.toNat b1.1) (0:Int), List.getD [(1:Int), (2:Int), (3:Int), (5:Int), (9:Int),
    (9:Int), (20:Int), (1000:Int), (0:Int)] (Int.toNat b2.1) (0:Int), (0:Int), List.getD [(1:Int), (2:Int), (3:Int), (5:Int), (9:Int), (9:Int),
    (20:Int), (1000:Int), (0:Int)] (Int.toNat b5.1) (0:Int), List.getD [(1:Int), (2:Int), (3:Int), (5:Int), (9:Int), (9:Int), (20:Int), (1000:Int),
    (0:Int)] (Int.toNat b8.1) (0:Int), List.getD [(1:Int), (2:Int), (3:Int), (5:Int), (9:Int), (9:Int), (20:Int), (1000:Int), (0:Int)] (Int.toNat b12.1)
    (0:Int), List.getD [(1:Int), (2:Int), (3:Int), (5:Int), (9:Int), (9:Int), (20:Int), (1000:Int), (0:Int)] (Int.toNat b17.1) (0:Int), List.getD
    [(1:Int), (2:Int), (3:Int), (5:Int), (9:Int), (9:Int), (20:Int), (1000:Int), (0:Int)] (Int.toNat b23.1) (0:Int)], [List.getD [(1:Int), (2:Int),
    (3:Int), (5:Int), (9:Int), (9:Int), (20:Int), (1000:Int), (0:Int)] (Int.toNat b3.1) (0:Int), List.getD [(1:Int), (2:Int), (3:Int), (5:Int), (9:Int),
    (9:Int), (20:Int), (1000:Int), (0:Int)] (Int.toNat b4.1) (0:Int), List.getD [(1:Int), (2:Int), (3:Int), (5:Int), (9:Int), (9:Int), (20:Int),
    (1000:Int), (0:Int)] (Int.toNat b5.1) (0:Int), (0:Int), List.getD [(1:Int), (2:Int), (3:Int), (5:Int), (9:Int), (9:Int), (20:Int), (1000:Int),
    (0:Int)] (Int.toNat b9.1) (0:Int), List.getD [(1:Int), (2:Int), (3:Int), (5:Int), (9:Int), (9:Int), (20:Int), (1000:Int), (0:Int)] (Int.toNat b13.1)
    (0:Int), List.getD [(1:Int), (2:Int), (3:Int), (5:Int), (9:Int), (9:Int), (20:Int), (1000:Int), (0:Int)] (Int.toNat b18.1) (0:Int), List.getD
    [(1:Int), (2:Int), (3:Int), (5:Int), (9:Int), (9:Int), (20:Int), (1000:Int), (0:Int)] (Int.toNat b24.1) (0:Int)], [List.getD [(1:Int), (2:Int),
    (3:Int), (5:Int), (9:Int), (9:Int), (20:Int), (1000:Int), (0:Int)] (Int.toNat b6.1) (0:Int), List.getD [(1:Int), (2:Int), (3:Int), (5:Int), (9:Int),
    (9:Int), (20:Int), (1000:Int), (0:Int)] (Int.toNat b7.1) (0:Int), List.getD [(1:Int), (2:Int), (3:Int), (5:Int), (9:Int), (9:Int), (20:Int),
    (1000:Int), (0:Int)] (Int.toNat b8.1) (0:Int), List.getD [(1:Int), (2:Int), (3:Int), (5:Int), (9:Int), (9:Int), (20:Int), (1000:Int), (0:Int)]
    (Int.toNat b9.1) (0:Int), (0:Int), List.getD [(1:Int), (2:Int), (3:Int), (5:Int), (9:Int), (9:Int), (20:Int), (1000:Int), (0:Int)] (Int.toNat b14.1)
    (0:Int), List.getD [(1:Int), (2:Int), (3:Int), (5:Int), (9:Int), (9:Int), (20:Int), (1000:Int), (0:Int)] (Int.toNat b19.1) (0:Int), List.getD
    [(1:Int), (2:Int), (3:Int), (5:Int), (9:Int), (9:Int), (20:Int), (1000:Int), (0:Int)] (Int.toNat b25.1) (0:Int)], [List.getD [(1:Int), (2:Int),
    (3:Int), (5:Int), (9:Int), (9:Int), (20:Int), (1000:Int), (0:Int)] (Int.toNat b10.1) (0:Int), List.getD [(1:Int), (2:Int), (3:Int), (5:Int),
    (9:Int), (9:Int), (20:Int), (1000:Int), (0:Int)] (Int.toNat b11.1) (0:Int), List.getD [(1:Int), (2:Int), (3:Int), (5:Int), (9:Int), (9:Int),
    (20:Int), (1000:Int), (0:Int)] (Int.toNat b12.1) (0:Int), List.getD [(1:Int), (2:Int), (3:Int), (5:Int), (9:Int), (9:Int), (20:Int), (1000:Int),
    (0:Int)] (Int.toNat b13.1) (0:Int), List.getD [(1:Int), (2:Int), (3:Int), (5:Int), (9:Int), (9:Int), (20:Int), (1000:Int), (0:Int)] (Int.toNat
    b14.1) (0:Int), (0:Int), List.getD [(1:Int), (2:Int), (3:Int), (5:Int), (9:Int), (9:Int), (20:Int), (1000:Int), (0:Int)] (Int.toNat b20.1) (0:Int),
    List.getD [(1:Int), (2:Int), (3:Int), (5:Int), (9:Int), (9:Int), (20:Int), (1000:Int), (0:Int)] (Int.toNat b26.1) (0:Int)], [List.getD [(1:Int),
    (2:Int), (3:Int), (5:Int), (9:Int), (9:Int), (20:Int), (1000:Int), (0:Int)] (Int.toNat b15.1) (0:Int), List.getD [(1:Int), (2:Int), (3:Int),
    (5:Int), (9:Int), (9:Int), (20:Int), (1000:Int), (0:Int)] (Int.toNat b16.1) (0:Int), List.getD [(1:Int), (2:Int), (3:Int), (5:Int), (9:Int),
    (9:Int), (20:Int), (1000:Int), (0:Int)] (Int.toNat b17.1) (0:Int), List.getD [(1:Int), (2:Int), (3:Int), (5:Int), (9:Int), (9:Int), (20:Int),
    (1000:Int), (0:Int)] (Int.toNat b18.1) (0:Int), List.getD [(1:Int), (2:Int), (3:Int), (5:Int), (9:Int), (9:Int), (20:Int), (1000:Int), (0:Int)]
    (Int.toNat b19.1) (0:Int), List.getD [(1:Int), (2:Int), (3:Int), (5:Int), (9:Int), (9:Int), (20:Int), (1000:Int), (0:Int)] (Int.toNat b20.1)
    (0:Int), (0:Int), List.getD [(1:Int), (2:Int), (3:Int), (5:Int), (9:Int), (9:Int), (20:Int), (1000:Int), (0:Int)] (Int.toNat b27.1) (0:Int)],
    [List.getD [(1:Int), (2:Int), (3:Int), (5:Int), (9:Int), (9:Int), (20:Int), (1000:Int), (0:Int)] (Int.toNat b21.1) (0:Int), List.getD [(1:Int),
    (2:Int), (3:Int), (5:Int), (9:Int), (9:Int), (20:Int), (1000:Int), (0:Int)] (Int.toNat b22.1) (0:Int), List.getD [(1:Int), (2:Int), (3:Int),
    (5:Int), (9:Int), (9:Int), (20:Int), (1000:Int), (0:Int)] (Int.toNat b23.1) (0:Int), List.getD [(1:Int), (2:Int), (3:Int), (5:Int), (9:Int),
    (9:Int), (20:Int), (1000:Int), (0:Int)] (Int.toNat b24.1) (0:Int), List.getD [(1:Int), (2:Int), (3:Int), (5:Int), (9:Int), (9:Int), (20:Int),
    (1000:Int), (0:Int)] (Int.toNat b25.1) (0:Int), List.getD [(1:Int), (2:Int), (3:Int), (5:Int), (9:Int), (9:Int), (20:Int), (1000:Int), (0:Int)]
    (Int.toNat b26.1) (0:Int), List.getD [(1:Int), (2:Int), (3:Int), (5:Int), (9:Int), (9:Int), (20:Int), (1000:Int), (0:Int)] (Int.toNat b27.1)
    (0:Int), (0:Int)]], b27.2)) none) none) none) none) none) none) none) none) none) none) none) none) none) none) none) none) none) none) none) none)
    none) none) none) none) none) none) none) none) none) none) none) none) none) none) none) none) none) none) none) none) none) none) none) none)
    none) none) none) none) none) none) none) none) none) none) none) none
theorem FV_Picks_Dist_eq (w_Picks_Num : Int × (List Int) × Int → Option (Int × (List Int) × Int)) (N : Nat) (x : (List Int) × Int) : F_Picks_Dist w_Picks_Num N x = V_Picks_Dist w_Picks_Num N x := by kernel_rfl
noncomputable def W_Picks_Dist (N : Nat) (x : (List Int) × Int) : Option ((List (List Int)) × (List Int) × Int) := V_Picks_Dist (W_Picks_Num N) N x
theorem F_Picks_Dist_eq (N : Nat) (x : (List Int) × Int) : F_Picks_Dist (W_Picks_Num N) N x = W_Picks_Dist N x := (FV_Picks_Dist_eq (W_Picks_Num N) N x).trans (by kernel_rfl)
noncomputable def conw_Picks_Dist (w : (List Int) × Int → Option ((List (List Int)) × (List Int) × Int)) : Con := ⟨9, as_Picks_Dist, bs_Picks_Dist, (List (List Int)) × (List Int) × Int, w, out_Picks_Dist⟩
noncomputable def con_Picks_Dist (N : Nat) : Con := conw_Picks_Dist (W_Picks_Dist N)
theorem R_Picks_Dist_eq (x : (List Int) × Int) (y : (List (List Int)) × (List Int) × Int) : retOf2 P0 Try.f9 (kpL [true]) (lbOf as_Picks_Dist bs_Picks_Dist x) (patS ⟨45, [], [], []⟩ pout_Picks_Dist y) = some (out_Picks_Dist y) := by kernel_rfl
theorem con_Picks_Dist_ok (N : Nat) : Con.ok P0 (con_Picks_Dist N) := ⟨⟨Try.f9, Try.func9, by kernel_rfl, by kernel_rfl⟩, fun (x : (List Int) × Int) (r : (List (List Int)) × (List Int) × Int) (hr : W_Picks_Dist N x = some r) =>
  spec2_evT (Γ := G_Picks_Dist (W_Picks_Num N) N) (Λ := L0) (pout := pout_Picks_Dist) (kp := kpL [true]) mixed (orcOf_ok _ (by simp only [List.mem_cons, List.not_mem_nil, or_false, forall_eq_or_imp, forall_eq]; exact con_Picks_Num_ok N)) Try.func9 (c := bodyOf Try.f9) (by kernel_rfl) (by kernel_rfl) (of_decide_eq_true (by kernel_rfl)) ((F_Picks_Dist_eq N x).trans hr) (R_Picks_Dist_eq x r)⟩
def as_clus_rises : List AS := [.val (.list (.int .i64))]
def bs_clus_rises : List BS := []
def pout_clus_rises : Pat := ⟨[(2, .val .bool)], []⟩
noncomputable def G_clus_rises  (N : Nat) : OrcT := orcOf []
noncomputable def F_clus_rises  (N : Nat) (x : List Int) : Option (Bool) :=
  (evT (G_clus_rises  N) L0 P0 [(3, .loop [6] ⟨[(3, .val (.int .i64)), (8, .val (.int .i64))], []⟩ [(.exit 0, ⟨[], []⟩), (.ret, ⟨[(2, .val .bool)], []⟩)])]
    [] N 400 (bodyOf Try.f45) ⟨21, slots 0 (argsOf as_clus_rises bs_clus_rises x), tabU (lbOf as_clus_rises bs_clus_rises x) [], []⟩).elim (kRet 21 pout_clus_rises (kpL []) (lbOf as_clus_rises bs_clus_rises x))
def out_clus_rises (y : Bool) : V × List OK × List OK := (valW .bool y, [], [])
noncomputable def V_clus_rises  (N : Nat) (x : List Int) : Option (Bool) :=
  obind (loopN N (fun (v : Int × Int) => cnd (decide (v.2 < (↑(List.length x) : Int))) (cnd (decide ((0:Int) ≤ v.2) && decide (v.2 < (↑(List.length x) :
    Int))) (cnd (decide (List.getD x (Int.toNat v.2) (0:Int) ≤ v.1)) (some (Sum.inr (Sum.inr false))) (cnd (decide ((8:Int) < List.getD x (Int.toNat
    v.2) (0:Int))) (some (Sum.inr (Sum.inr false))) (some (Sum.inl (List.getD x (Int.toNat v.2) (0:Int), wr .i64 (v.2 + (1:Int))))))) none) (some
    (Sum.inr (Sum.inl ())))) ((0:Int), (0:Int))) fun (b : PUnit ⊕ Bool) => selim (fun (b : PUnit) => some true) (fun (c : Bool) => some c) b
theorem FV_clus_rises_eq  (N : Nat) (x : List Int) : F_clus_rises  N x = V_clus_rises  N x := by kernel_rfl
noncomputable def W_clus_rises (N : Nat) (x : List Int) : Option (Bool) := V_clus_rises  N x
theorem F_clus_rises_eq (N : Nat) (x : List Int) : F_clus_rises  N x = W_clus_rises N x := (FV_clus_rises_eq  N x).trans (by kernel_rfl)
noncomputable def conw_clus_rises (w : List Int → Option (Bool)) : Con := ⟨45, as_clus_rises, bs_clus_rises, Bool, w, out_clus_rises⟩
noncomputable def con_clus_rises (N : Nat) : Con := conw_clus_rises (W_clus_rises N)
theorem R_clus_rises_eq (x : List Int) (y : Bool) : retOf2 P0 Try.f45 (kpL []) (lbOf as_clus_rises bs_clus_rises x) (patS ⟨21, [], [], []⟩ pout_clus_rises y) = some (out_clus_rises y) := by kernel_rfl
theorem con_clus_rises_ok (N : Nat) : Con.ok P0 (con_clus_rises N) := ⟨⟨Try.f45, Try.func45, by kernel_rfl, by kernel_rfl⟩, fun (x : List Int) (r : Bool) (hr : W_clus_rises N x = some r) =>
  spec2_evT (Γ := G_clus_rises N) (Λ := L0) (pout := pout_clus_rises) (kp := kpL []) mixed (orcOf_ok [] (by simp)) Try.func45 (c := bodyOf Try.f45) (by kernel_rfl) (by kernel_rfl) (of_decide_eq_true (by kernel_rfl)) ((F_clus_rises_eq N x).trans hr) (R_clus_rises_eq x r)⟩
def as_mid_between : List AS := [.val (.list (.list (.int .i64))), .val (.int .i64), .val (.int .i64)]
def bs_mid_between : List BS := []
def pout_mid_between : Pat := ⟨[(6, .val (.int .i64))], []⟩
noncomputable def G_mid_between  (N : Nat) : OrcT := orcOf []
noncomputable def F_mid_between  (N : Nat) (x : (List (List Int)) × Int × Int) : Option (Int) :=
  (evT (G_mid_between  N) L0 P0 []
    [(1000001, .reg [(8, [], ⟨[(14, .val .bool)], []⟩), (4, [], ⟨[(18, .val .bool)], []⟩)])] N 400 (bodyOf Try.f55) ⟨38, slots 0 (argsOf as_mid_between bs_mid_between x), tabU (lbOf as_mid_between bs_mid_between x) [], []⟩).elim (kRet 38 pout_mid_between (kpL []) (lbOf as_mid_between bs_mid_between x))
def out_mid_between (y : Int) : V × List OK × List OK := (valW (.int .i64) y, [], [])
noncomputable def V_mid_between  (N : Nat) (x : (List (List Int)) × Int × Int) : Option (Int) :=
  obind (cnd (decide (x.2.1 < (1:Int))) (some true) (some (decide ((↑(List.length x.1) : Int) < x.2.1)))) fun (b : Bool) => obind (cnd b (some true)
    (some (decide (x.2.2 < (1:Int))))) fun (b : Bool) => cnd b (some (0:Int)) (cnd (decide ((0:Int) ≤ wr .i64 (x.2.1 - (1:Int))) && decide (wr .i64
    (x.2.1 - (1:Int)) < (↑(List.length x.1) : Int))) (cnd (decide ((↑(List.length (List.getD x.1 (Int.toNat (wr .i64 (x.2.1 - (1:Int)))) [])) : Int) <
    x.2.2)) (some (0:Int)) (cnd (decide ((0:Int) ≤ wr .i64 (x.2.1 - (1:Int))) && decide (wr .i64 (x.2.1 - (1:Int)) < (↑(List.length x.1) : Int))) (cnd
    (decide ((0:Int) ≤ wr .i64 (x.2.2 - (1:Int))) && decide (wr .i64 (x.2.2 - (1:Int)) < (↑(List.length (List.getD x.1 (Int.toNat (wr .i64 (x.2.1 -
    (1:Int)))) [])) : Int))) (some (List.getD (List.getD x.1 (Int.toNat (wr .i64 (x.2.1 - (1:Int)))) []) (Int.toNat (wr .i64 (x.2.2 - (1:Int))))
    (0:Int))) none) none)) none)
theorem FV_mid_between_eq  (N : Nat) (x : (List (List Int)) × Int × Int) : F_mid_between  N x = V_mid_between  N x := by kernel_rfl
noncomputable def W_mid_between (N : Nat) (x : (List (List Int)) × Int × Int) : Option (Int) := V_mid_between  N x
theorem F_mid_between_eq (N : Nat) (x : (List (List Int)) × Int × Int) : F_mid_between  N x = W_mid_between N x := (FV_mid_between_eq  N x).trans (by kernel_rfl)
noncomputable def conw_mid_between (w : (List (List Int)) × Int × Int → Option (Int)) : Con := ⟨55, as_mid_between, bs_mid_between, Int, w, out_mid_between⟩
noncomputable def con_mid_between (N : Nat) : Con := conw_mid_between (W_mid_between N)
theorem R_mid_between_eq (x : (List (List Int)) × Int × Int) (y : Int) : retOf2 P0 Try.f55 (kpL []) (lbOf as_mid_between bs_mid_between x) (patS ⟨38, [], [], []⟩ pout_mid_between y) = some (out_mid_between y) := by kernel_rfl
theorem con_mid_between_ok (N : Nat) : Con.ok P0 (con_mid_between N) := ⟨⟨Try.f55, Try.func55, by kernel_rfl, by kernel_rfl⟩, fun (x : (List (List Int)) × Int × Int) (r : Int) (hr : W_mid_between N x = some r) =>
  spec2_evT (Γ := G_mid_between N) (Λ := L0) (pout := pout_mid_between) (kp := kpL []) mixed (orcOf_ok [] (by simp)) Try.func55 (c := bodyOf Try.f55) (by kernel_rfl) (by kernel_rfl) (of_decide_eq_true (by kernel_rfl)) ((F_mid_between_eq N x).trans hr) (R_mid_between_eq x r)⟩
def as_mid_Far : List AS := [.val (.list (.list (.int .i64))), .val (.int .i64), .val (.list (.int .i64))]
def bs_mid_Far : List BS := []
def pout_mid_Far : Pat := ⟨[(6, .val (.int .i64))], []⟩
noncomputable def G_mid_Far (w_mid_between : (List (List Int)) × Int × Int → Option (Int)) (N : Nat) : OrcT := orcOf [conw_mid_between w_mid_between]
noncomputable def F_mid_Far (w_mid_between : (List (List Int)) × Int × Int → Option (Int)) (N : Nat) (x : (List (List Int)) × Int × List Int) : Option (Int) :=
  (evT (G_mid_Far w_mid_between N) L0 P0 [(3, .loop [10] ⟨[(7, .val (.int .i64)), (12, .val (.int .i64))], []⟩ [(.exit 0, ⟨[(7, .val (.int .i64))], []⟩)])]
    [] N 400 (bodyOf Try.f46) ⟨24, slots 0 (argsOf as_mid_Far bs_mid_Far x), tabU (lbOf as_mid_Far bs_mid_Far x) [], []⟩).elim (kRet 24 pout_mid_Far (kpL []) (lbOf as_mid_Far bs_mid_Far x))
def out_mid_Far (y : Int) : V × List OK × List OK := (valW (.int .i64) y, [], [])
noncomputable def V_mid_Far (w_mid_between : (List (List Int)) × Int × Int → Option (Int)) (N : Nat) (x : (List (List Int)) × Int × List Int) : Option (Int) :=
  obind (loopN N (fun (v : Int × Int) => cnd (decide (v.2 < (↑(List.length x.2.2) : Int))) (cnd (decide ((0:Int) ≤ v.2) && decide (v.2 < (↑(List.length
    x.2.2) : Int))) (obind (w_mid_between (x.1, x.2.1, List.getD x.2.2 (Int.toNat v.2) (0:Int))) fun b => some (Sum.inl (max v.1 b, wr .i64 (v.2 +
    (1:Int))))) none) (some (Sum.inr v.1))) ((0:Int), (0:Int))) fun (b : Int) => some b
theorem FV_mid_Far_eq (w_mid_between : (List (List Int)) × Int × Int → Option (Int)) (N : Nat) (x : (List (List Int)) × Int × List Int) : F_mid_Far w_mid_between N x = V_mid_Far w_mid_between N x := by kernel_rfl
noncomputable def W_mid_Far (N : Nat) (x : (List (List Int)) × Int × List Int) : Option (Int) := V_mid_Far (W_mid_between N) N x
theorem F_mid_Far_eq (N : Nat) (x : (List (List Int)) × Int × List Int) : F_mid_Far (W_mid_between N) N x = W_mid_Far N x := (FV_mid_Far_eq (W_mid_between N) N x).trans (by kernel_rfl)
noncomputable def conw_mid_Far (w : (List (List Int)) × Int × List Int → Option (Int)) : Con := ⟨46, as_mid_Far, bs_mid_Far, Int, w, out_mid_Far⟩
noncomputable def con_mid_Far (N : Nat) : Con := conw_mid_Far (W_mid_Far N)
theorem R_mid_Far_eq (x : (List (List Int)) × Int × List Int) (y : Int) : retOf2 P0 Try.f46 (kpL []) (lbOf as_mid_Far bs_mid_Far x) (patS ⟨24, [], [], []⟩ pout_mid_Far y) = some (out_mid_Far y) := by kernel_rfl
theorem con_mid_Far_ok (N : Nat) : Con.ok P0 (con_mid_Far N) := ⟨⟨Try.f46, Try.func46, by kernel_rfl, by kernel_rfl⟩, fun (x : (List (List Int)) × Int × List Int) (r : Int) (hr : W_mid_Far N x = some r) =>
  spec2_evT (Γ := G_mid_Far (W_mid_between N) N) (Λ := L0) (pout := pout_mid_Far) (kp := kpL []) mixed (orcOf_ok _ (by simp only [List.mem_cons, List.not_mem_nil, or_false, forall_eq_or_imp, forall_eq]; exact con_mid_between_ok N)) Try.func46 (c := bodyOf Try.f46) (by kernel_rfl) (by kernel_rfl) (of_decide_eq_true (by kernel_rfl)) ((F_mid_Far_eq N x).trans hr) (R_mid_Far_eq x r)⟩
def as_clus_apart : List AS := [.val (.list (.list (.int .i64))), .val (.int .i64), .val (.int .i64)]
def bs_clus_apart : List BS := []
def pout_clus_apart : Pat := ⟨[(6, .val (.int .i64))], []⟩
noncomputable def G_clus_apart (w_mid_Far : (List (List Int)) × Int × List Int → Option (Int)) (N : Nat) : OrcT := orcOf [conw_mid_Far w_mid_Far]
noncomputable def F_clus_apart (w_mid_Far : (List (List Int)) × Int × List Int → Option (Int)) (N : Nat) (x : (List (List Int)) × Int × Int) : Option (Int) :=
  (evT (G_clus_apart w_mid_Far N) L0 P0 []
    [] N 400 (bodyOf Try.f32) ⟨12, slots 0 (argsOf as_clus_apart bs_clus_apart x), tabU (lbOf as_clus_apart bs_clus_apart x) [], []⟩).elim (kRet 12 pout_clus_apart (kpL []) (lbOf as_clus_apart bs_clus_apart x))
def out_clus_apart (y : Int) : V × List OK × List OK := (valW (.int .i64) y, [], [])
noncomputable def V_clus_apart (w_mid_Far : (List (List Int)) × Int × List Int → Option (Int)) (N : Nat) (x : (List (List Int)) × Int × Int) : Option (Int) :=
  obind (w_mid_Far (x.1, x.2.1, [x.2.2])) fun b => some b
theorem FV_clus_apart_eq (w_mid_Far : (List (List Int)) × Int × List Int → Option (Int)) (N : Nat) (x : (List (List Int)) × Int × Int) : F_clus_apart w_mid_Far N x = V_clus_apart w_mid_Far N x := by kernel_rfl
noncomputable def W_clus_apart (N : Nat) (x : (List (List Int)) × Int × Int) : Option (Int) := V_clus_apart (W_mid_Far N) N x
theorem F_clus_apart_eq (N : Nat) (x : (List (List Int)) × Int × Int) : F_clus_apart (W_mid_Far N) N x = W_clus_apart N x := (FV_clus_apart_eq (W_mid_Far N) N x).trans (by kernel_rfl)
noncomputable def conw_clus_apart (w : (List (List Int)) × Int × Int → Option (Int)) : Con := ⟨32, as_clus_apart, bs_clus_apart, Int, w, out_clus_apart⟩
noncomputable def con_clus_apart (N : Nat) : Con := conw_clus_apart (W_clus_apart N)
theorem R_clus_apart_eq (x : (List (List Int)) × Int × Int) (y : Int) : retOf2 P0 Try.f32 (kpL []) (lbOf as_clus_apart bs_clus_apart x) (patS ⟨12, [], [], []⟩ pout_clus_apart y) = some (out_clus_apart y) := by kernel_rfl
theorem con_clus_apart_ok (N : Nat) : Con.ok P0 (con_clus_apart N) := ⟨⟨Try.f32, Try.func32, by kernel_rfl, by kernel_rfl⟩, fun (x : (List (List Int)) × Int × Int) (r : Int) (hr : W_clus_apart N x = some r) =>
  spec2_evT (Γ := G_clus_apart (W_mid_Far N) N) (Λ := L0) (pout := pout_clus_apart) (kp := kpL []) mixed (orcOf_ok _ (by simp only [List.mem_cons, List.not_mem_nil, or_false, forall_eq_or_imp, forall_eq]; exact con_mid_Far_ok N)) Try.func32 (c := bodyOf Try.f32) (by kernel_rfl) (by kernel_rfl) (of_decide_eq_true (by kernel_rfl)) ((F_clus_apart_eq N x).trans hr) (R_clus_apart_eq x r)⟩
def as_clus_farthest : List AS := [.val (.list (.list (.int .i64))), .val (.list (.int .i64))]
def bs_clus_farthest : List BS := []
def pout_clus_farthest : Pat := ⟨[(4, .val (.alt 56 (.agg (.pair (.int .i64) (.int .i64))) (.alt1 71 (.agg .unit))))], []⟩
noncomputable def G_clus_farthest (w_clus_rises : List Int → Option (Bool)) (w_clus_apart : (List (List Int)) × Int × Int → Option (Int)) (N : Nat) : OrcT := orcOf [conw_clus_rises w_clus_rises, conw_clus_apart w_clus_apart]
noncomputable def F_clus_farthest (w_clus_rises : List Int → Option (Bool)) (w_clus_apart : (List (List Int)) × Int × Int → Option (Int)) (N : Nat) (x : (List (List Int)) × List Int) : Option ((Int × Int) ⊕ Unit) :=
  (evT (G_clus_farthest w_clus_rises w_clus_apart N) L0 P0 [(8, .loop [27, 37] ⟨[(5, .ptr 600005 0), (39, .val (.int .i64))], [(600005, .box 56 (.val (.pair (.int .i64) (.int .i64))))]⟩ [(.exit 2, ⟨[(5, .ptr 600005 0)], [(600005, .box 56 (.val (.pair (.int .i64) (.int .i64))))]⟩)]),
    (5, .loop [27] ⟨[(5, .ptr 600005 0), (29, .val (.int .i64))], [(600005, .box 56 (.val (.pair (.int .i64) (.int .i64))))]⟩ [(.exit 0, ⟨[(5, .ptr 600005 0)], [(600005, .box 56 (.val (.pair (.int .i64) (.int .i64))))]⟩)])]
    [] N 400 (bodyOf Try.f30) ⟨61, slots 0 (argsOf as_clus_farthest bs_clus_farthest x), tabU (lbOf as_clus_farthest bs_clus_farthest x) [], []⟩).elim (kRet 61 pout_clus_farthest (kpL []) (lbOf as_clus_farthest bs_clus_farthest x))
def out_clus_farthest (y : (Int × Int) ⊕ Unit) : V × List OK × List OK := (valW (.alt 56 (.agg (.pair (.int .i64) (.int .i64))) (.alt1 71 (.agg .unit))) y, [], [])
noncomputable def V_clus_farthest (w_clus_rises : List Int → Option (Bool)) (w_clus_apart : (List (List Int)) × Int × Int → Option (Int)) (N : Nat) (x : (List (List Int)) × List Int) : Option ((Int × Int) ⊕ Unit) :=
  cnd (decide ((↑(List.length x.2) : Int) < (2:Int))) (some (Sum.inr ())) (obind (w_clus_rises x.2) fun b => cnd (!b) (some (Sum.inr ())) (cnd (decide
    ((0:Int) ≤ (0:Int)) && decide ((0:Int) < (↑(List.length x.2) : Int))) (cnd (decide ((0:Int) ≤ (1:Int)) && decide ((1:Int) < (↑(List.length x.2) :
    Int))) (obind (loopN N (fun (v : Int × Int × Int) => cnd (decide (v.1 < (↑(List.length x.2) : Int))) (cnd (decide ((0:Int) ≤ v.1) && decide (v.1 <
    (↑(List.length x.2) : Int))) (cnd (decide ((0:Int) ≤ wr .i64 (v.1 + (1:Int))) && decide (wr .i64 (v.1 + (1:Int)) ≤ (↑(List.length x.2) : Int)))
    (obind (loopN N (fun (v_1 : Int × Int × Int) => cnd (decide (v_1.1 < (↑(List.length (List.drop (Int.toNat (wr .i64 (v.1 + (1:Int)))) (List.take
    (List.length x.2) x.2))) : Int))) (cnd (decide ((0:Int) ≤ v_1.1) && decide (v_1.1 < (↑(List.length (List.drop (Int.toNat (wr .i64 (v.1 + (1:Int))))
    (List.take (List.length x.2) x.2))) : Int))) (obind (w_clus_apart (x.1, List.getD x.2 (Int.toNat v.1) (0:Int), List.getD (List.drop (Int.toNat (wr
    .i64 (v.1 + (1:Int)))) (List.take (List.length x.2) x.2)) (Int.toNat v_1.1) (0:Int))) fun b => obind (w_clus_apart (x.1, v_1.2)) fun b_1 => cnd
    (decide (b_1 < b)) (some (Sum.inl (wr .i64 (v_1.1 + (1:Int)), List.getD x.2 (Int.toNat v.1) (0:Int), List.getD (List.drop (Int.toNat (wr .i64 (v.1 +
    (1:Int)))) (List.take (List.length x.2) x.2)) (Int.toNat v_1.1) (0:Int)))) (some (Sum.inl (wr .i64 (v_1.1 + (1:Int)), v_1.2)))) none) (some (Sum.inr
    v_1.2))) ((0:Int), v.2)) fun (b : Int × Int) => some (Sum.inl (wr .i64 (v.1 + (1:Int)), b))) none) none) (some (Sum.inr v.2))) ((0:Int), List.getD
    x.2 (0:Nat) (0:Int), List.getD x.2 (1:Nat) (0:Int))) fun (b : Int × Int) => some (Sum.inl b)) none) none))
theorem FV_clus_farthest_eq (w_clus_rises : List Int → Option (Bool)) (w_clus_apart : (List (List Int)) × Int × Int → Option (Int)) (N : Nat) (x : (List (List Int)) × List Int) : F_clus_farthest w_clus_rises w_clus_apart N x = V_clus_farthest w_clus_rises w_clus_apart N x := by kernel_rfl
noncomputable def W_clus_farthest (N : Nat) (x : (List (List Int)) × List Int) : Option ((Int × Int) ⊕ Unit) := V_clus_farthest (W_clus_rises N) (W_clus_apart N) N x
theorem F_clus_farthest_eq (N : Nat) (x : (List (List Int)) × List Int) : F_clus_farthest (W_clus_rises N) (W_clus_apart N) N x = W_clus_farthest N x := (FV_clus_farthest_eq (W_clus_rises N) (W_clus_apart N) N x).trans (by kernel_rfl)
noncomputable def conw_clus_farthest (w : (List (List Int)) × List Int → Option ((Int × Int) ⊕ Unit)) : Con := ⟨30, as_clus_farthest, bs_clus_farthest, (Int × Int) ⊕ Unit, w, out_clus_farthest⟩
noncomputable def con_clus_farthest (N : Nat) : Con := conw_clus_farthest (W_clus_farthest N)
theorem R_clus_farthest_eq (x : (List (List Int)) × List Int) (y : (Int × Int) ⊕ Unit) : retOf2 P0 Try.f30 (kpL []) (lbOf as_clus_farthest bs_clus_farthest x) (patS ⟨61, [], [], []⟩ pout_clus_farthest y) = some (out_clus_farthest y) := by kernel_rfl
theorem con_clus_farthest_ok (N : Nat) : Con.ok P0 (con_clus_farthest N) := ⟨⟨Try.f30, Try.func30, by kernel_rfl, by kernel_rfl⟩, fun (x : (List (List Int)) × List Int) (r : (Int × Int) ⊕ Unit) (hr : W_clus_farthest N x = some r) =>
  spec2_evT (Γ := G_clus_farthest (W_clus_rises N) (W_clus_apart N) N) (Λ := L0) (pout := pout_clus_farthest) (kp := kpL []) mixed (orcOf_ok _ (by simp only [List.mem_cons, List.not_mem_nil, or_false, forall_eq_or_imp, forall_eq]; exact ⟨con_clus_rises_ok N, con_clus_apart_ok N⟩)) Try.func30 (c := bodyOf Try.f30) (by kernel_rfl) (by kernel_rfl) (of_decide_eq_true (by kernel_rfl)) ((F_clus_farthest_eq N x).trans hr) (R_clus_farthest_eq x r)⟩
def as_slices_Clone_int : List AS := [.val (.list (.int .i64))]
def bs_slices_Clone_int : List BS := []
def pout_slices_Clone_int : Pat := ⟨[(2, .acc 700005)], [(700005, .nrow 3 (.int .i64) false true)]⟩
noncomputable def G_slices_Clone_int  (N : Nat) : OrcT := orcOf []
noncomputable def F_slices_Clone_int  (N : Nat) (x : List Int) : Option (List Int) :=
  (evT (G_slices_Clone_int  N) L0 P0 []
    [] N 400 (bodyOf Try.f31) ⟨8, slots 0 [.nl ⟨(.int .i64), x⟩], tabU (lbOf as_slices_Clone_int bs_slices_Clone_int x) [], []⟩).elim (kRet 8 pout_slices_Clone_int (kpL []) (lbOf as_slices_Clone_int bs_slices_Clone_int x))
def out_slices_Clone_int (y : List Int) : V × List OK × List OK := (.acc 2000000 0, [], [.nrow 3 false true ⟨(.int .i64), y⟩])
noncomputable def V_slices_Clone_int  (N : Nat) (x : List Int) : Option (List Int) :=
  cnd (decide (List.length x * (8:Nat) ≤ (140737488355328:Nat))) (some x) none
theorem FV_slices_Clone_int_eq  (N : Nat) (x : List Int) : F_slices_Clone_int  N x = V_slices_Clone_int  N x := by kernel_rfl
noncomputable def W_slices_Clone_int (N : Nat) (x : List Int) : Option (List Int) := V_slices_Clone_int  N x
theorem F_slices_Clone_int_eq (N : Nat) (x : List Int) : F_slices_Clone_int  N x = W_slices_Clone_int N x := (FV_slices_Clone_int_eq  N x).trans (by kernel_rfl)
noncomputable def conw_slices_Clone_int (w : List Int → Option (List Int)) : Con := ⟨31, as_slices_Clone_int, bs_slices_Clone_int, List Int, w, out_slices_Clone_int⟩
noncomputable def con_slices_Clone_int (N : Nat) : Con := conw_slices_Clone_int (W_slices_Clone_int N)
theorem R_slices_Clone_int_eq (x : List Int) (y : List Int) : retOf2 P0 Try.f31 (kpL []) (lbOf as_slices_Clone_int bs_slices_Clone_int x) (patS ⟨8, [], [], []⟩ pout_slices_Clone_int y) = some (out_slices_Clone_int y) := by kernel_rfl
noncomputable def FA_slices_Clone_int : Option (List Int) := (evT (G_slices_Clone_int 1) L0 P0 [] [] 1 400 (bodyOf Try.f31) ⟨8, slots 0 [.snil], tabU [] [], []⟩).elim (kRet 8 pout_slices_Clone_int (kpL []) [])
theorem FA_slices_Clone_int_eq : FA_slices_Clone_int = some [] := by kernel_rfl
theorem WN_slices_Clone_int (N : Nat) (r : List Int) (h : W_slices_Clone_int N [] = some r) : r = [] := by
  have e : W_slices_Clone_int N [] = some [] := by kernel_rfl
  rw [e] at h; injection h with h; exact h.symm
theorem con_slices_Clone_int_ok (N : Nat) : Con.ok P0 (con_slices_Clone_int N) := ⟨⟨Try.f31, Try.func31, by kernel_rfl, by kernel_rfl⟩, fun (x : List Int) (r : List Int) (hr : W_slices_Clone_int N x = some r) =>
  clone_split (e := (.int .i64)) (ty := 3) (l := x) (r := r)
    (spec2_evT (Γ := G_slices_Clone_int 1) (Λ := L0) (lb := []) (pout := pout_slices_Clone_int) (kp := kpL []) mixed (orcOf_ok [] (by simp)) Try.func31 (c := bodyOf Try.f31) (by kernel_rfl) (by kernel_rfl) (of_decide_eq_true (by kernel_rfl)) FA_slices_Clone_int_eq (R_slices_Clone_int_eq x []))
    (spec2_evT (Γ := G_slices_Clone_int N) (Λ := L0) (lb := []) (pout := pout_slices_Clone_int) (kp := kpL []) mixed (orcOf_ok [] (by simp)) Try.func31 (c := bodyOf Try.f31) (by kernel_rfl) (by kernel_rfl) (of_decide_eq_true (by kernel_rfl)) ((F_slices_Clone_int_eq N x).trans hr) (R_slices_Clone_int_eq x r))
    (fun h => by subst h; exact WN_slices_Clone_int N r hr)⟩
def as_slices_DeleteFunc_int__clus_without_1 : List AS := [.acc 0, .fn 54 [1]]
def bs_slices_DeleteFunc_int__clus_without_1 : List BS := [.nrow 3 (.int .i64) true, .box 3 (.int .i64)]
def out_slices_DeleteFunc_int__clus_without_1 (y : Int × List Int) : V × List OK × List OK := (.acc 2000000 0, [.dead, .box 3 (cellsW (.int .i64) y.1)], [.nrow 3 false false ⟨(.int .i64), y.2⟩])
noncomputable def W_slices_DeleteFunc_int__clus_without_1 (N : Nat) (x : (List Int) × Int) : Option (Int × List Int) :=
  cnd (decide ((0:Nat) < List.length x.1) && decide (List.length x.1 ≤ (140737488355328:Nat))) (some (x.2, List.filter (fun (a : Int) => !decide (a = x.2)) x.1)) none
noncomputable def conw_slices_DeleteFunc_int__clus_without_1 (w : (List Int) × Int → Option (Int × List Int)) : Con := ⟨53, as_slices_DeleteFunc_int__clus_without_1, bs_slices_DeleteFunc_int__clus_without_1, Int × List Int, w, out_slices_DeleteFunc_int__clus_without_1⟩
noncomputable def con_slices_DeleteFunc_int__clus_without_1 (N : Nat) : Con := conw_slices_DeleteFunc_int__clus_without_1 (W_slices_DeleteFunc_int__clus_without_1 N)
theorem con_slices_DeleteFunc_int__clus_without_1_ok (N : Nat) : Con.ok P0 (con_slices_DeleteFunc_int__clus_without_1 N) := ⟨⟨Try.f53, Try.func53, by kernel_rfl, by kernel_rfl⟩, fun (x : (List Int) × Int) (r : Int × List Int) (hr : W_slices_DeleteFunc_int__clus_without_1 N x = some r) => by
  obtain ⟨l, k⟩ := x
  exact df_con (ty := 3) (bt := 3) (nl := true) (l := l) (k := k) (r := r) dfF53 hr⟩
def as_clus_without : List AS := [.val (.list (.int .i64)), .val (.int .i64)]
def bs_clus_without : List BS := []
def pout_clus_without : Pat := ⟨[(4, .val (.list (.int .i64)))], []⟩
noncomputable def G_clus_without (w_slices_Clone_int : List Int → Option (List Int)) (w_slices_DeleteFunc_int__clus_without_1 : (List Int) × Int → Option (Int × List Int)) (N : Nat) : OrcT := orcOf [conw_slices_Clone_int w_slices_Clone_int, conw_slices_DeleteFunc_int__clus_without_1 w_slices_DeleteFunc_int__clus_without_1]
noncomputable def F_clus_without (w_slices_Clone_int : List Int → Option (List Int)) (w_slices_DeleteFunc_int__clus_without_1 : (List Int) × Int → Option (Int × List Int)) (N : Nat) (x : (List Int) × Int) : Option (List Int) :=
  (evT (G_clus_without w_slices_Clone_int w_slices_DeleteFunc_int__clus_without_1 N) L0 P0 []
    [] N 400 (bodyOf Try.f42) ⟨9, slots 0 (argsOf as_clus_without bs_clus_without x), tabU (lbOf as_clus_without bs_clus_without x) [], []⟩).elim (kRet 9 pout_clus_without (kpL []) (lbOf as_clus_without bs_clus_without x))
def out_clus_without (y : List Int) : V × List OK × List OK := (valW (.list (.int .i64)) y, [], [])
noncomputable def V_clus_without (w_slices_Clone_int : List Int → Option (List Int)) (w_slices_DeleteFunc_int__clus_without_1 : (List Int) × Int → Option (Int × List Int)) (N : Nat) (x : (List Int) × Int) : Option (List Int) :=
  obind (w_slices_Clone_int x.1) fun b => obind (w_slices_DeleteFunc_int__clus_without_1 (b, x.2)) fun b => some b.2
theorem FV_clus_without_eq (w_slices_Clone_int : List Int → Option (List Int)) (w_slices_DeleteFunc_int__clus_without_1 : (List Int) × Int → Option (Int × List Int)) (N : Nat) (x : (List Int) × Int) : F_clus_without w_slices_Clone_int w_slices_DeleteFunc_int__clus_without_1 N x = V_clus_without w_slices_Clone_int w_slices_DeleteFunc_int__clus_without_1 N x := by kernel_rfl
noncomputable def W_clus_without (N : Nat) (x : (List Int) × Int) : Option (List Int) := V_clus_without (W_slices_Clone_int N) (W_slices_DeleteFunc_int__clus_without_1 N) N x
theorem F_clus_without_eq (N : Nat) (x : (List Int) × Int) : F_clus_without (W_slices_Clone_int N) (W_slices_DeleteFunc_int__clus_without_1 N) N x = W_clus_without N x := (FV_clus_without_eq (W_slices_Clone_int N) (W_slices_DeleteFunc_int__clus_without_1 N) N x).trans (by kernel_rfl)
noncomputable def conw_clus_without (w : (List Int) × Int → Option (List Int)) : Con := ⟨42, as_clus_without, bs_clus_without, List Int, w, out_clus_without⟩
noncomputable def con_clus_without (N : Nat) : Con := conw_clus_without (W_clus_without N)
theorem R_clus_without_eq (x : (List Int) × Int) (y : List Int) : retOf2 P0 Try.f42 (kpL []) (lbOf as_clus_without bs_clus_without x) (patS ⟨9, [], [], []⟩ pout_clus_without y) = some (out_clus_without y) := by kernel_rfl
theorem con_clus_without_ok (N : Nat) : Con.ok P0 (con_clus_without N) := ⟨⟨Try.f42, Try.func42, by kernel_rfl, by kernel_rfl⟩, fun (x : (List Int) × Int) (r : List Int) (hr : W_clus_without N x = some r) =>
  spec2_evT (Γ := G_clus_without (W_slices_Clone_int N) (W_slices_DeleteFunc_int__clus_without_1 N) N) (Λ := L0) (pout := pout_clus_without) (kp := kpL []) mixed (orcOf_ok _ (by simp only [List.mem_cons, List.not_mem_nil, or_false, forall_eq_or_imp, forall_eq]; exact ⟨con_slices_Clone_int_ok N, con_slices_DeleteFunc_int__clus_without_1_ok N⟩)) Try.func42 (c := bodyOf Try.f42) (by kernel_rfl) (by kernel_rfl) (of_decide_eq_true (by kernel_rfl)) ((F_clus_without_eq N x).trans hr) (R_clus_without_eq x r)⟩
def as_mid_better : List AS := [.val (.alt 72 (.agg .unit) (.alt1 80 (.agg (.pair (.int .i64) (.int .i64))))), .val (.int .i64), .val (.int .i64)]
def bs_mid_better : List BS := []
def pout_mid_better : Pat := ⟨[(6, .val (.alt1 80 (.agg (.pair (.int .i64) (.int .i64)))))], []⟩
noncomputable def G_mid_better  (N : Nat) : OrcT := orcOf []
noncomputable def F_mid_better  (N : Nat) (x : (Unit ⊕ (Int × Int)) × Int × Int) : Option (Int × Int) :=
  (evT (G_mid_better  N) L0 P0 []
    [] N 400 (bodyOf Try.f48) ⟨39, slots 0 (argsOf as_mid_better bs_mid_better x), tabU (lbOf as_mid_better bs_mid_better x) [], []⟩).elim (kRet 39 pout_mid_better (kpL []) (lbOf as_mid_better bs_mid_better x))
def out_mid_better (y : Int × Int) : V × List OK × List OK := (valW (.alt1 80 (.agg (.pair (.int .i64) (.int .i64)))) y, [], [])
noncomputable def V_mid_better  (N : Nat) (x : (Unit ⊕ (Int × Int)) × Int × Int) : Option (Int × Int) :=
  selim (fun (b : PUnit) => some x.2) (fun (c : Int × Int) => cnd (decide (c.2 < x.2.2)) (some c) (cnd (decide (c.2 = x.2.2)) (cnd (decide (c.1 < x.2.1)) (some c) (some x.2)) (some x.2))) x.1
theorem FV_mid_better_eq  (N : Nat) (x : (Unit ⊕ (Int × Int)) × Int × Int) : F_mid_better  N x = V_mid_better  N x := by kernel_rfl
noncomputable def W_mid_better (N : Nat) (x : (Unit ⊕ (Int × Int)) × Int × Int) : Option (Int × Int) := V_mid_better  N x
theorem F_mid_better_eq (N : Nat) (x : (Unit ⊕ (Int × Int)) × Int × Int) : F_mid_better  N x = W_mid_better N x := (FV_mid_better_eq  N x).trans (by kernel_rfl)
noncomputable def conw_mid_better (w : (Unit ⊕ (Int × Int)) × Int × Int → Option (Int × Int)) : Con := ⟨48, as_mid_better, bs_mid_better, Int × Int, w, out_mid_better⟩
noncomputable def con_mid_better (N : Nat) : Con := conw_mid_better (W_mid_better N)
theorem R_mid_better_eq (x : (Unit ⊕ (Int × Int)) × Int × Int) (y : Int × Int) : retOf2 P0 Try.f48 (kpL []) (lbOf as_mid_better bs_mid_better x) (patS ⟨39, [], [], []⟩ pout_mid_better y) = some (out_mid_better y) := by kernel_rfl
theorem con_mid_better_ok (N : Nat) : Con.ok P0 (con_mid_better N) := ⟨⟨Try.f48, Try.func48, by kernel_rfl, by kernel_rfl⟩, fun (x : (Unit ⊕ (Int × Int)) × Int × Int) (r : Int × Int) (hr : W_mid_better N x = some r) =>
  spec2_evT (Γ := G_mid_better N) (Λ := L0) (pout := pout_mid_better) (kp := kpL []) mixed (orcOf_ok [] (by simp)) Try.func48 (c := bodyOf Try.f48) (by kernel_rfl) (by kernel_rfl) (of_decide_eq_true (by kernel_rfl)) ((F_mid_better_eq N x).trans hr) (R_mid_better_eq x r)⟩
def as_mid_who : List AS := [.val (.alt 72 (.agg .unit) (.alt1 80 (.agg (.pair (.int .i64) (.int .i64)))))]
def bs_mid_who : List BS := []
def pout_mid_who : Pat := ⟨[(2, .val (.int .i64))], []⟩
noncomputable def G_mid_who  (N : Nat) : OrcT := orcOf []
noncomputable def F_mid_who  (N : Nat) (x : Unit ⊕ (Int × Int)) : Option (Int) :=
  (evT (G_mid_who  N) L0 P0 []
    [] N 400 (bodyOf Try.f49) ⟨14, slots 0 (argsOf as_mid_who bs_mid_who x), tabU (lbOf as_mid_who bs_mid_who x) [], []⟩).elim (kRet 14 pout_mid_who (kpL []) (lbOf as_mid_who bs_mid_who x))
def out_mid_who (y : Int) : V × List OK × List OK := (valW (.int .i64) y, [], [])
noncomputable def V_mid_who  (N : Nat) (x : Unit ⊕ (Int × Int)) : Option (Int) :=
  selim (fun (b : PUnit) => some (0:Int)) (fun (c : Int × Int) => some c.1) x
theorem FV_mid_who_eq  (N : Nat) (x : Unit ⊕ (Int × Int)) : F_mid_who  N x = V_mid_who  N x := by kernel_rfl
noncomputable def W_mid_who (N : Nat) (x : Unit ⊕ (Int × Int)) : Option (Int) := V_mid_who  N x
theorem F_mid_who_eq (N : Nat) (x : Unit ⊕ (Int × Int)) : F_mid_who  N x = W_mid_who N x := (FV_mid_who_eq  N x).trans (by kernel_rfl)
noncomputable def conw_mid_who (w : Unit ⊕ (Int × Int) → Option (Int)) : Con := ⟨49, as_mid_who, bs_mid_who, Int, w, out_mid_who⟩
noncomputable def con_mid_who (N : Nat) : Con := conw_mid_who (W_mid_who N)
theorem R_mid_who_eq (x : Unit ⊕ (Int × Int)) (y : Int) : retOf2 P0 Try.f49 (kpL []) (lbOf as_mid_who bs_mid_who x) (patS ⟨14, [], [], []⟩ pout_mid_who y) = some (out_mid_who y) := by kernel_rfl
theorem con_mid_who_ok (N : Nat) : Con.ok P0 (con_mid_who N) := ⟨⟨Try.f49, Try.func49, by kernel_rfl, by kernel_rfl⟩, fun (x : Unit ⊕ (Int × Int)) (r : Int) (hr : W_mid_who N x = some r) =>
  spec2_evT (Γ := G_mid_who N) (Λ := L0) (pout := pout_mid_who) (kp := kpL []) mixed (orcOf_ok [] (by simp)) Try.func49 (c := bodyOf Try.f49) (by kernel_rfl) (by kernel_rfl) (of_decide_eq_true (by kernel_rfl)) ((F_mid_who_eq N x).trans hr) (R_mid_who_eq x r)⟩
def as_mid_Near : List AS := [.val (.list (.list (.int .i64))), .val (.int .i64), .val (.list (.int .i64))]
def bs_mid_Near : List BS := []
def pout_mid_Near : Pat := ⟨[(6, .val (.int .i64))], []⟩
noncomputable def G_mid_Near (w_mid_between : (List (List Int)) × Int × Int → Option (Int)) (w_mid_better : (Unit ⊕ (Int × Int)) × Int × Int → Option (Int × Int)) (w_mid_who : Unit ⊕ (Int × Int) → Option (Int)) (N : Nat) : OrcT := orcOf [conw_mid_between w_mid_between, conw_mid_better w_mid_better, conw_mid_who w_mid_who]
noncomputable def F_mid_Near (w_mid_between : (List (List Int)) × Int × Int → Option (Int)) (w_mid_better : (Unit ⊕ (Int × Int)) × Int × Int → Option (Int × Int)) (w_mid_who : Unit ⊕ (Int × Int) → Option (Int)) (N : Nat) (x : (List (List Int)) × Int × List Int) : Option (Int) :=
  (evT (G_mid_Near w_mid_between w_mid_better w_mid_who N) L0 P0 [(3, .loop [12] ⟨[(7, .val (.alt 72 (.agg .unit) (.alt1 80 (.agg (.pair (.int .i64) (.int .i64)))))), (14, .val (.int .i64))], []⟩ [(.exit 0, ⟨[(7, .val (.alt 72 (.agg .unit) (.alt1 80 (.agg (.pair (.int .i64) (.int .i64))))))], []⟩)])]
    [] N 400 (bodyOf Try.f47) ⟨31, slots 0 (argsOf as_mid_Near bs_mid_Near x), tabU (lbOf as_mid_Near bs_mid_Near x) [], []⟩).elim (kRet 31 pout_mid_Near (kpL []) (lbOf as_mid_Near bs_mid_Near x))
def out_mid_Near (y : Int) : V × List OK × List OK := (valW (.int .i64) y, [], [])
noncomputable def V_mid_Near (w_mid_between : (List (List Int)) × Int × Int → Option (Int)) (w_mid_better : (Unit ⊕ (Int × Int)) × Int × Int → Option (Int × Int)) (w_mid_who : Unit ⊕ (Int × Int) → Option (Int)) (N : Nat) (x : (List (List Int)) × Int × List Int) : Option (Int) :=
  obind (loopN N (fun (v : (PUnit ⊕ Int × Int) × Int) => cnd (decide (v.2 < (↑(List.length x.2.2) : Int))) (cnd (decide ((0:Int) ≤ v.2) && decide (v.2 <
    (↑(List.length x.2.2) : Int))) (cnd (decide (List.getD x.2.2 (Int.toNat v.2) (0:Int) ≠ x.2.1)) (obind (w_mid_between (x.1, x.2.1, List.getD x.2.2
    (Int.toNat v.2) (0:Int))) fun b => obind (w_mid_better (v.1, List.getD x.2.2 (Int.toNat v.2) (0:Int), b)) fun b => some (Sum.inl (Sum.inr b, wr
    .i64 (v.2 + (1:Int))))) (some (Sum.inl (v.1, wr .i64 (v.2 + (1:Int)))))) none) (some (Sum.inr v.1))) (Sum.inl (), (0:Int))) fun (b : PUnit ⊕ Int ×
    Int) => obind (w_mid_who b) fun b => some b
theorem FV_mid_Near_eq (w_mid_between : (List (List Int)) × Int × Int → Option (Int)) (w_mid_better : (Unit ⊕ (Int × Int)) × Int × Int → Option (Int × Int)) (w_mid_who : Unit ⊕ (Int × Int) → Option (Int)) (N : Nat) (x : (List (List Int)) × Int × List Int) : F_mid_Near w_mid_between w_mid_better w_mid_who N x = V_mid_Near w_mid_between w_mid_better w_mid_who N x := by kernel_rfl
noncomputable def W_mid_Near (N : Nat) (x : (List (List Int)) × Int × List Int) : Option (Int) := V_mid_Near (W_mid_between N) (W_mid_better N) (W_mid_who N) N x
theorem F_mid_Near_eq (N : Nat) (x : (List (List Int)) × Int × List Int) : F_mid_Near (W_mid_between N) (W_mid_better N) (W_mid_who N) N x = W_mid_Near N x := (FV_mid_Near_eq (W_mid_between N) (W_mid_better N) (W_mid_who N) N x).trans (by kernel_rfl)
noncomputable def conw_mid_Near (w : (List (List Int)) × Int × List Int → Option (Int)) : Con := ⟨47, as_mid_Near, bs_mid_Near, Int, w, out_mid_Near⟩
noncomputable def con_mid_Near (N : Nat) : Con := conw_mid_Near (W_mid_Near N)
theorem R_mid_Near_eq (x : (List (List Int)) × Int × List Int) (y : Int) : retOf2 P0 Try.f47 (kpL []) (lbOf as_mid_Near bs_mid_Near x) (patS ⟨31, [], [], []⟩ pout_mid_Near y) = some (out_mid_Near y) := by kernel_rfl
theorem con_mid_Near_ok (N : Nat) : Con.ok P0 (con_mid_Near N) := ⟨⟨Try.f47, Try.func47, by kernel_rfl, by kernel_rfl⟩, fun (x : (List (List Int)) × Int × List Int) (r : Int) (hr : W_mid_Near N x = some r) =>
  spec2_evT (Γ := G_mid_Near (W_mid_between N) (W_mid_better N) (W_mid_who N) N) (Λ := L0) (pout := pout_mid_Near) (kp := kpL []) mixed (orcOf_ok _ (by simp only [List.mem_cons, List.not_mem_nil, or_false, forall_eq_or_imp, forall_eq]; exact ⟨con_mid_between_ok N, con_mid_better_ok N, con_mid_who_ok N⟩)) Try.func47 (c := bodyOf Try.f47) (by kernel_rfl) (by kernel_rfl) (of_decide_eq_true (by kernel_rfl)) ((F_mid_Near_eq N x).trans hr) (R_mid_Near_eq x r)⟩
def as_slices_Sort_int : List AS := [.acc 0]
def bs_slices_Sort_int : List BS := [.nrow 3 (.int .i64) true]
def out_slices_Sort_int (y : List Int) : V × List OK × List OK := (.tup [], [.nrow 3 false true ⟨(.int .i64), y⟩], [])
noncomputable def W_slices_Sort_int (N : Nat) (x : List Int) : Option (List Int) :=
  cnd (decide ((0:Nat) < List.length x) && decide (List.length x ≤ (140737488355328:Nat))) (some (List.mergeSort x fun (a : Int) (b : Int) => decide (a ≤ b))) none
noncomputable def conw_slices_Sort_int (w : List Int → Option (List Int)) : Con := ⟨52, as_slices_Sort_int, bs_slices_Sort_int, List Int, w, out_slices_Sort_int⟩
noncomputable def con_slices_Sort_int (N : Nat) : Con := conw_slices_Sort_int (W_slices_Sort_int N)
theorem con_slices_Sort_int_ok (N : Nat) : Con.ok P0 (con_slices_Sort_int N) := ⟨⟨Try.f52, Try.func52, by kernel_rfl, by kernel_rfl⟩, fun (x : List Int) (r : List Int) (hr : W_slices_Sort_int N x = some r) => so_con (ty := 3) (nl := true) (nl' := true) (l := x) (r := r) soF52 hr⟩
def as_clus_with : List AS := [.val (.list (.int .i64)), .val (.list (.int .i64))]
def bs_clus_with : List BS := []
def pout_clus_with : Pat := ⟨[(4, .val (.list (.int .i64)))], []⟩
noncomputable def G_clus_with (w_slices_Clone_int : List Int → Option (List Int)) (w_slices_Sort_int : List Int → Option (List Int)) (N : Nat) : OrcT := orcOf [conw_slices_Clone_int w_slices_Clone_int, conw_slices_Sort_int w_slices_Sort_int]
noncomputable def F_clus_with (w_slices_Clone_int : List Int → Option (List Int)) (w_slices_Sort_int : List Int → Option (List Int)) (N : Nat) (x : (List Int) × List Int) : Option (List Int) :=
  (evT (G_clus_with w_slices_Clone_int w_slices_Sort_int N) L0 P0 []
    [] N 400 (bodyOf Try.f41) ⟨13, slots 0 (argsOf as_clus_with bs_clus_with x), tabU (lbOf as_clus_with bs_clus_with x) [], []⟩).elim (kRet 13 pout_clus_with (kpL []) (lbOf as_clus_with bs_clus_with x))
def out_clus_with (y : List Int) : V × List OK × List OK := (valW (.list (.int .i64)) y, [], [])
noncomputable def V_clus_with (w_slices_Clone_int : List Int → Option (List Int)) (w_slices_Sort_int : List Int → Option (List Int)) (N : Nat) (x : (List Int) × List Int) : Option (List Int) :=
  obind (w_slices_Clone_int x.1) fun b => cnd (decide ((List.length b + List.length x.2) * (8:Nat) ≤ (140737488355328:Nat))) (obind (w_slices_Sort_int (b ++ x.2)) fun b_1 => cnd (decide (List.length b_1 = List.length (b ++ x.2))) (some b_1) none) none
theorem FV_clus_with_eq (w_slices_Clone_int : List Int → Option (List Int)) (w_slices_Sort_int : List Int → Option (List Int)) (N : Nat) (x : (List Int) × List Int) : F_clus_with w_slices_Clone_int w_slices_Sort_int N x = V_clus_with w_slices_Clone_int w_slices_Sort_int N x := by kernel_rfl
noncomputable def W_clus_with (N : Nat) (x : (List Int) × List Int) : Option (List Int) := V_clus_with (W_slices_Clone_int N) (W_slices_Sort_int N) N x
theorem F_clus_with_eq (N : Nat) (x : (List Int) × List Int) : F_clus_with (W_slices_Clone_int N) (W_slices_Sort_int N) N x = W_clus_with N x := (FV_clus_with_eq (W_slices_Clone_int N) (W_slices_Sort_int N) N x).trans (by kernel_rfl)
noncomputable def conw_clus_with (w : (List Int) × List Int → Option (List Int)) : Con := ⟨41, as_clus_with, bs_clus_with, List Int, w, out_clus_with⟩
noncomputable def con_clus_with (N : Nat) : Con := conw_clus_with (W_clus_with N)
theorem R_clus_with_eq (x : (List Int) × List Int) (y : List Int) : retOf2 P0 Try.f41 (kpL []) (lbOf as_clus_with bs_clus_with x) (patS ⟨13, [], [], []⟩ pout_clus_with y) = some (out_clus_with y) := by kernel_rfl
theorem con_clus_with_ok (N : Nat) : Con.ok P0 (con_clus_with N) := ⟨⟨Try.f41, Try.func41, by kernel_rfl, by kernel_rfl⟩, fun (x : (List Int) × List Int) (r : List Int) (hr : W_clus_with N x = some r) =>
  spec2_evT (Γ := G_clus_with (W_slices_Clone_int N) (W_slices_Sort_int N) N) (Λ := L0) (pout := pout_clus_with) (kp := kpL []) mixed (orcOf_ok _ (by simp only [List.mem_cons, List.not_mem_nil, or_false, forall_eq_or_imp, forall_eq]; exact ⟨con_slices_Clone_int_ok N, con_slices_Sort_int_ok N⟩)) Try.func41 (c := bodyOf Try.f41) (by kernel_rfl) (by kernel_rfl) (of_decide_eq_true (by kernel_rfl)) ((F_clus_with_eq N x).trans hr) (R_clus_with_eq x r)⟩
def as_clus_fill : List AS := [.val (.list (.list (.int .i64))), .val (.agg (.pair (.int .i64) (.int .i64))), .val (.list (.int .i64)), .val (.list (.int .i64)), .val (.int .i64)]
def bs_clus_fill : List BS := []
def pout_clus_fill : Pat := ⟨[(10, .val (.list (.int .i64))), (11, .val (.list (.int .i64)))], []⟩
noncomputable def G_clus_fill (w_clus_without : (List Int) × Int → Option (List Int)) (w_mid_Near : (List (List Int)) × Int × List Int → Option (Int)) (w_clus_with : (List Int) × List Int → Option (List Int)) (N : Nat) : OrcT := orcOf [conw_clus_without w_clus_without, conw_mid_Near w_mid_Near, conw_clus_with w_clus_with]
noncomputable def F_clus_fill (w_clus_without : (List Int) × Int → Option (List Int)) (w_mid_Near : (List (List Int)) × Int × List Int → Option (Int)) (w_clus_with : (List Int) × List Int → Option (List Int)) (N : Nat) (x : (List (List Int)) × (Int × Int) × (List Int) × (List Int) × Int) : Option ((List Int) × List Int) :=
  (evT (G_clus_fill w_clus_without w_mid_Near w_clus_with N) L0 P0 [(1, .loop [] ⟨[(2, .val (.list (.int .i64))), (3, .val (.list (.int .i64))), (6, .ptr 600006 0)], [(600006, .box 56 (.val (.pair (.int .i64) (.int .i64))))]⟩ [(.exit 0, ⟨[(2, .val (.list (.int .i64))), (3, .val (.list (.int .i64)))], []⟩)])]
    [] N 400 (bodyOf Try.f33) ⟨40, slots 0 (argsOf as_clus_fill bs_clus_fill x), tabU (lbOf as_clus_fill bs_clus_fill x) [], []⟩).elim (kRet 40 pout_clus_fill (kpL []) (lbOf as_clus_fill bs_clus_fill x))
def out_clus_fill (y : (List Int) × List Int) : V × List OK × List OK := (.tup [valW (.list (.int .i64)) y.1, valW (.list (.int .i64)) y.2], [], [])
noncomputable def V_clus_fill (w_clus_without : (List Int) × Int → Option (List Int)) (w_mid_Near : (List (List Int)) × Int × List Int → Option (Int)) (w_clus_with : (List Int) × List Int → Option (List Int)) (N : Nat) (x : (List (List Int)) × (Int × Int) × (List Int) × (List Int) × Int) : Option ((List Int) × List Int) :=
  obind (loopN N (fun (v : List Int × List Int × Int × Int) => cnd (decide ((↑(List.length v.1) : Int) < x.2.2.2.2)) (cnd (decide (x.2.2.2.2 <
    (↑(List.length v.2.1) : Int))) (obind (w_clus_without (v.2.1, v.2.2.2)) fun b => obind (w_mid_Near (x.1, v.2.2.1, b)) fun b => obind
    (w_clus_with (v.1, [b])) fun b_1 => obind (w_clus_without (v.2.1, b)) fun b => some (Sum.inl (b_1, b, v.2.2))) (some (Sum.inr (v.1, v.2.1))))
    (some (Sum.inr (v.1, v.2.1)))) (x.2.2.1, x.2.2.2.1, x.2.1)) fun (b : List Int × List Int) => some b
theorem FV_clus_fill_eq (w_clus_without : (List Int) × Int → Option (List Int)) (w_mid_Near : (List (List Int)) × Int × List Int → Option (Int)) (w_clus_with : (List Int) × List Int → Option (List Int)) (N : Nat) (x : (List (List Int)) × (Int × Int) × (List Int) × (List Int) × Int) : F_clus_fill w_clus_without w_mid_Near w_clus_with N x = V_clus_fill w_clus_without w_mid_Near w_clus_with N x := by kernel_rfl
noncomputable def W_clus_fill (N : Nat) (x : (List (List Int)) × (Int × Int) × (List Int) × (List Int) × Int) : Option ((List Int) × List Int) := V_clus_fill (W_clus_without N) (W_mid_Near N) (W_clus_with N) N x
theorem F_clus_fill_eq (N : Nat) (x : (List (List Int)) × (Int × Int) × (List Int) × (List Int) × Int) : F_clus_fill (W_clus_without N) (W_mid_Near N) (W_clus_with N) N x = W_clus_fill N x := (FV_clus_fill_eq (W_clus_without N) (W_mid_Near N) (W_clus_with N) N x).trans (by kernel_rfl)
noncomputable def conw_clus_fill (w : (List (List Int)) × (Int × Int) × (List Int) × (List Int) × Int → Option ((List Int) × List Int)) : Con := ⟨33, as_clus_fill, bs_clus_fill, (List Int) × List Int, w, out_clus_fill⟩
noncomputable def con_clus_fill (N : Nat) : Con := conw_clus_fill (W_clus_fill N)
theorem R_clus_fill_eq (x : (List (List Int)) × (Int × Int) × (List Int) × (List Int) × Int) (y : (List Int) × List Int) : retOf2 P0 Try.f33 (kpL []) (lbOf as_clus_fill bs_clus_fill x) (patS ⟨40, [], [], []⟩ pout_clus_fill y) = some (out_clus_fill y) := by kernel_rfl
theorem con_clus_fill_ok (N : Nat) : Con.ok P0 (con_clus_fill N) := ⟨⟨Try.f33, Try.func33, by kernel_rfl, by kernel_rfl⟩, fun (x : (List (List Int)) × (Int × Int) × (List Int) × (List Int) × Int) (r : (List Int) × List Int) (hr : W_clus_fill N x = some r) =>
  spec2_evT (Γ := G_clus_fill (W_clus_without N) (W_mid_Near N) (W_clus_with N) N) (Λ := L0) (pout := pout_clus_fill) (kp := kpL []) mixed (orcOf_ok _ (by simp only [List.mem_cons, List.not_mem_nil, or_false, forall_eq_or_imp, forall_eq]; exact ⟨con_clus_without_ok N, con_mid_Near_ok N, con_clus_with_ok N⟩)) Try.func33 (c := bodyOf Try.f33) (by kernel_rfl) (by kernel_rfl) (of_decide_eq_true (by kernel_rfl)) ((F_clus_fill_eq N x).trans hr) (R_clus_fill_eq x r)⟩
def as_clus_Split : List AS := [.val (.list (.list (.int .i64))), .val (.list (.int .i64)), .val (.int .i64)]
def bs_clus_Split : List BS := []
def pout_clus_Split : Pat := ⟨[(6, .val (.list (.int .i64))), (7, .val (.list (.int .i64)))], []⟩
noncomputable def G_clus_Split (w_clus_farthest : (List (List Int)) × List Int → Option ((Int × Int) ⊕ Unit)) (w_slices_Clone_int : List Int → Option (List Int)) (w_clus_apart : (List (List Int)) × Int × Int → Option (Int)) (w_clus_fill : (List (List Int)) × (Int × Int) × (List Int) × (List Int) × Int → Option ((List Int) × List Int)) (N : Nat) : OrcT := orcOf [conw_clus_farthest w_clus_farthest, conw_slices_Clone_int w_slices_Clone_int, conw_clus_apart w_clus_apart, conw_clus_fill w_clus_fill]
noncomputable def F_clus_Split (w_clus_farthest : (List (List Int)) × List Int → Option ((Int × Int) ⊕ Unit)) (w_slices_Clone_int : List Int → Option (List Int)) (w_clus_apart : (List (List Int)) × Int × Int → Option (Int)) (w_clus_fill : (List (List Int)) × (Int × Int) × (List Int) × (List Int) × Int → Option ((List Int) × List Int)) (N : Nat) (x : (List (List Int)) × (List Int) × Int) : Option ((List Int) × List Int) :=
  (evT (G_clus_Split w_clus_farthest w_slices_Clone_int w_clus_apart w_clus_fill N) L0 P0 [(5, .loop [23] ⟨[(6, .acc 700082), (7, .acc 700081), (8, .ptr 600008 0), (25, .val (.int .i64))], [(700082, .nrow 3 (.int .i64) true true), (700081, .nrow 3 (.int .i64) true true), (600008, .box 56 (.val (.pair (.int .i64) (.int .i64))))]⟩ [(.exit 0, ⟨[(6, .val (.list (.int .i64))), (7, .val (.list (.int .i64))), (8, .ptr 600008 0)], [(600008, .box 56 (.val (.pair (.int .i64) (.int .i64))))]⟩)])]
    [] N 400 (bodyOf Try.f11) ⟨85, slots 0 (argsOf as_clus_Split bs_clus_Split x), tabU (lbOf as_clus_Split bs_clus_Split x) [], []⟩).elim (kRet 85 pout_clus_Split (kpL []) (lbOf as_clus_Split bs_clus_Split x))
def out_clus_Split (y : (List Int) × List Int) : V × List OK × List OK := (.tup [valW (.list (.int .i64)) y.1, valW (.list (.int .i64)) y.2], [], [])
noncomputable def V_clus_Split (w_clus_farthest : (List (List Int)) × List Int → Option ((Int × Int) ⊕ Unit)) (w_slices_Clone_int : List Int → Option (List Int)) (w_clus_apart : (List (List Int)) × Int × Int → Option (Int)) (w_clus_fill : (List (List Int)) × (Int × Int) × (List Int) × (List Int) × Int → Option ((List Int) × List Int)) (N : Nat) (x : (List (List Int)) × (List Int) × Int) : Option ((List Int) × List Int) :=
  obind (w_clus_farthest (x.1, x.2.1)) fun b => selim (fun (b : Int × Int) => obind (loopN N (fun (v : Int × List Int × List Int × Int × Int) => cnd
    (decide (v.1 < (↑(List.length x.2.1) : Int))) (cnd (decide ((0:Int) ≤ v.1) && decide (v.1 < (↑(List.length x.2.1) : Int))) (cnd (decide (List.getD
    x.2.1 (Int.toNat v.1) (0:Int) = v.2.2.2.1)) (cnd (decide ((List.length v.2.1 + List.length [List.getD x.2.1 (Int.toNat v.1) (0:Int)]) * (8:Nat) ≤
    (140737488355328:Nat))) (some (Sum.inl (wr .i64 (v.1 + (1:Int)), v.2.1 ++ [List.getD x.2.1 (Int.toNat v.1) (0:Int)], v.2.2))) none) (cnd (decide
    (List.getD x.2.1 (Int.toNat v.1) (0:Int) ≠ v.2.2.2.2)) (obind (w_clus_apart (x.1, List.getD x.2.1 (Int.toNat v.1) (0:Int), v.2.2.2.1)) fun b =>
    obind (w_clus_apart (x.1, List.getD x.2.1 (Int.toNat v.1) (0:Int), v.2.2.2.2)) fun b_1 => cnd (decide (b ≤ b_1)) (cnd (decide ((List.length v.2.1
    + List.length [List.getD x.2.1 (Int.toNat v.1) (0:Int)]) * (8:Nat) ≤ (140737488355328:Nat))) (some (Sum.inl (wr .i64 (v.1 + (1:Int)), v.2.1 ++
    [List.getD x.2.1 (Int.toNat v.1) (0:Int)], v.2.2))) none) (cnd (decide ((List.length v.2.2.1 + List.length [List.getD x.2.1 (Int.toNat v.1)
    (0:Int)]) * (8:Nat) ≤ (140737488355328:Nat))) (some (Sum.inl (wr .i64 (v.1 + (1:Int)), v.2.1, v.2.2.1 ++ [List.getD x.2.1 (Int.toNat v.1) (0:Int)],
    v.2.2.2))) none)) (cnd (decide ((List.length v.2.2.1 + List.length [List.getD x.2.1 (Int.toNat v.1) (0:Int)]) * (8:Nat) ≤ (140737488355328:Nat)))
    (some (Sum.inl (wr .i64 (v.1 + (1:Int)), v.2.1, v.2.2.1 ++ [List.getD x.2.1 (Int.toNat v.1) (0:Int)], v.2.2.2))) none))) none) (some (Sum.inr v.2)))
    ((0:Int), [], [], b)) fun (b : List Int × List Int × Int × Int) => obind (w_clus_fill (x.1, b.2.2, b.1, b.2.1, x.2.2)) fun b_1 => obind
    (w_clus_fill (x.1, (b.2.2.2, b.2.2.1), b_1.2, b_1.1, x.2.2)) fun b => some (b.2, b.1)) (fun (c : PUnit) => obind (w_slices_Clone_int x.2.1) fun
    b => some (b, [])) b
theorem FV_clus_Split_eq (w_clus_farthest : (List (List Int)) × List Int → Option ((Int × Int) ⊕ Unit)) (w_slices_Clone_int : List Int → Option (List Int)) (w_clus_apart : (List (List Int)) × Int × Int → Option (Int)) (w_clus_fill : (List (List Int)) × (Int × Int) × (List Int) × (List Int) × Int → Option ((List Int) × List Int)) (N : Nat) (x : (List (List Int)) × (List Int) × Int) : F_clus_Split w_clus_farthest w_slices_Clone_int w_clus_apart w_clus_fill N x = V_clus_Split w_clus_farthest w_slices_Clone_int w_clus_apart w_clus_fill N x := by kernel_rfl
noncomputable def W_clus_Split (N : Nat) (x : (List (List Int)) × (List Int) × Int) : Option ((List Int) × List Int) := V_clus_Split (W_clus_farthest N) (W_slices_Clone_int N) (W_clus_apart N) (W_clus_fill N) N x
theorem F_clus_Split_eq (N : Nat) (x : (List (List Int)) × (List Int) × Int) : F_clus_Split (W_clus_farthest N) (W_slices_Clone_int N) (W_clus_apart N) (W_clus_fill N) N x = W_clus_Split N x := (FV_clus_Split_eq (W_clus_farthest N) (W_slices_Clone_int N) (W_clus_apart N) (W_clus_fill N) N x).trans (by kernel_rfl)
noncomputable def conw_clus_Split (w : (List (List Int)) × (List Int) × Int → Option ((List Int) × List Int)) : Con := ⟨11, as_clus_Split, bs_clus_Split, (List Int) × List Int, w, out_clus_Split⟩
noncomputable def con_clus_Split (N : Nat) : Con := conw_clus_Split (W_clus_Split N)
theorem R_clus_Split_eq (x : (List (List Int)) × (List Int) × Int) (y : (List Int) × List Int) : retOf2 P0 Try.f11 (kpL []) (lbOf as_clus_Split bs_clus_Split x) (patS ⟨85, [], [], []⟩ pout_clus_Split y) = some (out_clus_Split y) := by kernel_rfl
theorem con_clus_Split_ok (N : Nat) : Con.ok P0 (con_clus_Split N) := ⟨⟨Try.f11, Try.func11, by kernel_rfl, by kernel_rfl⟩, fun (x : (List (List Int)) × (List Int) × Int) (r : (List Int) × List Int) (hr : W_clus_Split N x = some r) =>
  spec2_evT (Γ := G_clus_Split (W_clus_farthest N) (W_slices_Clone_int N) (W_clus_apart N) (W_clus_fill N) N) (Λ := L0) (pout := pout_clus_Split) (kp := kpL []) mixed (orcOf_ok _ (by simp only [List.mem_cons, List.not_mem_nil, or_false, forall_eq_or_imp, forall_eq]; exact ⟨con_clus_farthest_ok N, con_slices_Clone_int_ok N, con_clus_apart_ok N, con_clus_fill_ok N⟩)) Try.func11 (c := bodyOf Try.f11) (by kernel_rfl) (by kernel_rfl) (of_decide_eq_true (by kernel_rfl)) ((F_clus_Split_eq N x).trans hr) (R_clus_Split_eq x r)⟩
def as_mid_Mid : List AS := [.val (.list (.list (.int .i64))), .val (.list (.int .i64))]
def bs_mid_Mid : List BS := []
def pout_mid_Mid : Pat := ⟨[(4, .val (.int .i64))], []⟩
noncomputable def G_mid_Mid (w_mid_Far : (List (List Int)) × Int × List Int → Option (Int)) (w_mid_better : (Unit ⊕ (Int × Int)) × Int × Int → Option (Int × Int)) (w_mid_who : Unit ⊕ (Int × Int) → Option (Int)) (N : Nat) : OrcT := orcOf [conw_mid_Far w_mid_Far, conw_mid_better w_mid_better, conw_mid_who w_mid_who]
noncomputable def F_mid_Mid (w_mid_Far : (List (List Int)) × Int × List Int → Option (Int)) (w_mid_better : (Unit ⊕ (Int × Int)) × Int × Int → Option (Int × Int)) (w_mid_who : Unit ⊕ (Int × Int) → Option (Int)) (N : Nat) (x : (List (List Int)) × List Int) : Option (Int) :=
  (evT (G_mid_Mid w_mid_Far w_mid_better w_mid_who N) L0 P0 [(3, .loop [10] ⟨[(5, .val (.alt 72 (.agg .unit) (.alt1 80 (.agg (.pair (.int .i64) (.int .i64)))))), (12, .val (.int .i64))], []⟩ [(.exit 0, ⟨[(5, .val (.alt 72 (.agg .unit) (.alt1 80 (.agg (.pair (.int .i64) (.int .i64))))))], []⟩)])]
    [] N 400 (bodyOf Try.f35) ⟨26, slots 0 (argsOf as_mid_Mid bs_mid_Mid x), tabU (lbOf as_mid_Mid bs_mid_Mid x) [], []⟩).elim (kRet 26 pout_mid_Mid (kpL []) (lbOf as_mid_Mid bs_mid_Mid x))
def out_mid_Mid (y : Int) : V × List OK × List OK := (valW (.int .i64) y, [], [])
noncomputable def V_mid_Mid (w_mid_Far : (List (List Int)) × Int × List Int → Option (Int)) (w_mid_better : (Unit ⊕ (Int × Int)) × Int × Int → Option (Int × Int)) (w_mid_who : Unit ⊕ (Int × Int) → Option (Int)) (N : Nat) (x : (List (List Int)) × List Int) : Option (Int) :=
  obind (loopN N (fun (v : (PUnit ⊕ Int × Int) × Int) => cnd (decide (v.2 < (↑(List.length x.2) : Int))) (cnd (decide ((0:Int) ≤ v.2) && decide (v.2 <
    (↑(List.length x.2) : Int))) (obind (w_mid_Far (x.1, List.getD x.2 (Int.toNat v.2) (0:Int), x.2)) fun b => obind (w_mid_better (v.1, List.getD
    x.2 (Int.toNat v.2) (0:Int), b)) fun b => some (Sum.inl (Sum.inr b, wr .i64 (v.2 + (1:Int))))) none) (some (Sum.inr v.1))) (Sum.inl (), (0:Int)))
    fun (b : PUnit ⊕ Int × Int) => obind (w_mid_who b) fun b => some b
theorem FV_mid_Mid_eq (w_mid_Far : (List (List Int)) × Int × List Int → Option (Int)) (w_mid_better : (Unit ⊕ (Int × Int)) × Int × Int → Option (Int × Int)) (w_mid_who : Unit ⊕ (Int × Int) → Option (Int)) (N : Nat) (x : (List (List Int)) × List Int) : F_mid_Mid w_mid_Far w_mid_better w_mid_who N x = V_mid_Mid w_mid_Far w_mid_better w_mid_who N x := by kernel_rfl
noncomputable def W_mid_Mid (N : Nat) (x : (List (List Int)) × List Int) : Option (Int) := V_mid_Mid (W_mid_Far N) (W_mid_better N) (W_mid_who N) N x
theorem F_mid_Mid_eq (N : Nat) (x : (List (List Int)) × List Int) : F_mid_Mid (W_mid_Far N) (W_mid_better N) (W_mid_who N) N x = W_mid_Mid N x := (FV_mid_Mid_eq (W_mid_Far N) (W_mid_better N) (W_mid_who N) N x).trans (by kernel_rfl)
noncomputable def conw_mid_Mid (w : (List (List Int)) × List Int → Option (Int)) : Con := ⟨35, as_mid_Mid, bs_mid_Mid, Int, w, out_mid_Mid⟩
noncomputable def con_mid_Mid (N : Nat) : Con := conw_mid_Mid (W_mid_Mid N)
theorem R_mid_Mid_eq (x : (List (List Int)) × List Int) (y : Int) : retOf2 P0 Try.f35 (kpL []) (lbOf as_mid_Mid bs_mid_Mid x) (patS ⟨26, [], [], []⟩ pout_mid_Mid y) = some (out_mid_Mid y) := by kernel_rfl
theorem con_mid_Mid_ok (N : Nat) : Con.ok P0 (con_mid_Mid N) := ⟨⟨Try.f35, Try.func35, by kernel_rfl, by kernel_rfl⟩, fun (x : (List (List Int)) × List Int) (r : Int) (hr : W_mid_Mid N x = some r) =>
  spec2_evT (Γ := G_mid_Mid (W_mid_Far N) (W_mid_better N) (W_mid_who N) N) (Λ := L0) (pout := pout_mid_Mid) (kp := kpL []) mixed (orcOf_ok _ (by simp only [List.mem_cons, List.not_mem_nil, or_false, forall_eq_or_imp, forall_eq]; exact ⟨con_mid_Far_ok N, con_mid_better_ok N, con_mid_who_ok N⟩)) Try.func35 (c := bodyOf Try.f35) (by kernel_rfl) (by kernel_rfl) (of_decide_eq_true (by kernel_rfl)) ((F_mid_Mid_eq N x).trans hr) (R_mid_Mid_eq x r)⟩
def as_clus_Of : List AS := [.val (.list (.list (.int .i64))), .val (.list (.int .i64))]
def bs_clus_Of : List BS := []
def pout_clus_Of : Pat := ⟨[(4, .ptr 600004 0)], [(600004, .box 33 (.val (.pair (.list (.int .i64)) (.int .i64))))]⟩
noncomputable def G_clus_Of (w_slices_Clone_int : List Int → Option (List Int)) (w_mid_Mid : (List (List Int)) × List Int → Option (Int)) (N : Nat) : OrcT := orcOf [conw_slices_Clone_int w_slices_Clone_int, conw_mid_Mid w_mid_Mid]
noncomputable def F_clus_Of (w_slices_Clone_int : List Int → Option (List Int)) (w_mid_Mid : (List (List Int)) × List Int → Option (Int)) (N : Nat) (x : (List (List Int)) × List Int) : Option ((List Int) × Int) :=
  (evT (G_clus_Of w_slices_Clone_int w_mid_Mid N) L0 P0 []
    [] N 400 (bodyOf Try.f13) ⟨11, slots 0 (argsOf as_clus_Of bs_clus_Of x), tabU (lbOf as_clus_Of bs_clus_Of x) [], []⟩).elim (kRet 11 pout_clus_Of (kpL []) (lbOf as_clus_Of bs_clus_Of x))
def out_clus_Of (y : (List Int) × Int) : V × List OK × List OK := (valW (.agg (.pair (.list (.int .i64)) (.int .i64))) y, [], [])
noncomputable def V_clus_Of (w_slices_Clone_int : List Int → Option (List Int)) (w_mid_Mid : (List (List Int)) × List Int → Option (Int)) (N : Nat) (x : (List (List Int)) × List Int) : Option ((List Int) × Int) :=
  obind (w_slices_Clone_int x.2) fun b => obind (w_mid_Mid x) fun b_1 => some (b, b_1)
theorem FV_clus_Of_eq (w_slices_Clone_int : List Int → Option (List Int)) (w_mid_Mid : (List (List Int)) × List Int → Option (Int)) (N : Nat) (x : (List (List Int)) × List Int) : F_clus_Of w_slices_Clone_int w_mid_Mid N x = V_clus_Of w_slices_Clone_int w_mid_Mid N x := by kernel_rfl
noncomputable def W_clus_Of (N : Nat) (x : (List (List Int)) × List Int) : Option ((List Int) × Int) := V_clus_Of (W_slices_Clone_int N) (W_mid_Mid N) N x
theorem F_clus_Of_eq (N : Nat) (x : (List (List Int)) × List Int) : F_clus_Of (W_slices_Clone_int N) (W_mid_Mid N) N x = W_clus_Of N x := (FV_clus_Of_eq (W_slices_Clone_int N) (W_mid_Mid N) N x).trans (by kernel_rfl)
noncomputable def conw_clus_Of (w : (List (List Int)) × List Int → Option ((List Int) × Int)) : Con := ⟨13, as_clus_Of, bs_clus_Of, (List Int) × Int, w, out_clus_Of⟩
noncomputable def con_clus_Of (N : Nat) : Con := conw_clus_Of (W_clus_Of N)
theorem R_clus_Of_eq (x : (List (List Int)) × List Int) (y : (List Int) × Int) : retOf2 P0 Try.f13 (kpL []) (lbOf as_clus_Of bs_clus_Of x) (patS ⟨11, [], [], []⟩ pout_clus_Of y) = some (out_clus_Of y) := by kernel_rfl
theorem con_clus_Of_ok (N : Nat) : Con.ok P0 (con_clus_Of N) := ⟨⟨Try.f13, Try.func13, by kernel_rfl, by kernel_rfl⟩, fun (x : (List (List Int)) × List Int) (r : (List Int) × Int) (hr : W_clus_Of N x = some r) =>
  spec2_evT (Γ := G_clus_Of (W_slices_Clone_int N) (W_mid_Mid N) N) (Λ := L0) (pout := pout_clus_Of) (kp := kpL []) mixed (orcOf_ok _ (by simp only [List.mem_cons, List.not_mem_nil, or_false, forall_eq_or_imp, forall_eq]; exact ⟨con_slices_Clone_int_ok N, con_mid_Mid_ok N⟩)) Try.func13 (c := bodyOf Try.f13) (by kernel_rfl) (by kernel_rfl) (of_decide_eq_true (by kernel_rfl)) ((F_clus_Of_eq N x).trans hr) (R_clus_Of_eq x r)⟩
def as_clus_fitted : List AS := [.val (.list (.list (.int .i64))), .val (.list (.int .i64)), .val (.int .i64)]
def bs_clus_fitted : List BS := []
def pout_clus_fitted : Pat := ⟨[(6, .acc 700039)], [(700039, .nrow 33 (.agg (.pair (.list (.int .i64)) (.int .i64))) false true)]⟩
noncomputable def G_clus_fitted (w_clus_Of : (List (List Int)) × List Int → Option ((List Int) × Int)) (w_clus_Split : (List (List Int)) × (List Int) × Int → Option ((List Int) × List Int)) (N : Nat) : OrcT := orcOf [conw_clus_Of w_clus_Of, conw_clus_Split w_clus_Split]
noncomputable def F_clus_fitted (w_clus_Of : (List (List Int)) × List Int → Option ((List Int) × Int)) (w_clus_Split : (List (List Int)) × (List Int) × Int → Option ((List Int) × List Int)) (N : Nat) (x : (List (List Int)) × (List Int) × Int) : Option (List ((List Int) × Int)) :=
  (evT (G_clus_fitted w_clus_Of w_clus_Split N) L0 P0 []
    [] N 400 (bodyOf Try.f36) ⟨40, slots 0 (argsOf as_clus_fitted bs_clus_fitted x), tabU (lbOf as_clus_fitted bs_clus_fitted x) [], []⟩).elim (kRet 40 pout_clus_fitted (kpL []) (lbOf as_clus_fitted bs_clus_fitted x))
def out_clus_fitted (y : List ((List Int) × Int)) : V × List OK × List OK := (.acc 2000000 0, [], [.nrow 33 false true ⟨(.agg (.pair (.list (.int .i64)) (.int .i64))), y⟩])
noncomputable def V_clus_fitted (w_clus_Of : (List (List Int)) × List Int → Option ((List Int) × Int)) (w_clus_Split : (List (List Int)) × (List Int) × Int → Option ((List Int) × List Int)) (N : Nat) (x : (List (List Int)) × (List Int) × Int) : Option (List ((List Int) × Int)) :=
  cnd (decide ((↑(List.length x.2.1) : Int) ≤ wr .i64 (wr .i64 ((3:Int) * x.2.2) - (1:Int)))) (obind (w_clus_Of (x.1, x.2.1)) fun b => some [b])
    (obind (w_clus_Split x) fun b => cnd (decide ((↑(List.length b.2) : Int) = (0:Int))) (obind (w_clus_Of (x.1, b.1)) fun b => some [b]) (obind
    (w_clus_Of (x.1, b.1)) fun b_1 => obind (w_clus_Of (x.1, b.2)) fun b => some [b_1, b]))
theorem FV_clus_fitted_eq (w_clus_Of : (List (List Int)) × List Int → Option ((List Int) × Int)) (w_clus_Split : (List (List Int)) × (List Int) × Int → Option ((List Int) × List Int)) (N : Nat) (x : (List (List Int)) × (List Int) × Int) : F_clus_fitted w_clus_Of w_clus_Split N x = V_clus_fitted w_clus_Of w_clus_Split N x := by kernel_rfl
noncomputable def W_clus_fitted (N : Nat) (x : (List (List Int)) × (List Int) × Int) : Option (List ((List Int) × Int)) := V_clus_fitted (W_clus_Of N) (W_clus_Split N) N x
theorem F_clus_fitted_eq (N : Nat) (x : (List (List Int)) × (List Int) × Int) : F_clus_fitted (W_clus_Of N) (W_clus_Split N) N x = W_clus_fitted N x := (FV_clus_fitted_eq (W_clus_Of N) (W_clus_Split N) N x).trans (by kernel_rfl)
noncomputable def conw_clus_fitted (w : (List (List Int)) × (List Int) × Int → Option (List ((List Int) × Int))) : Con := ⟨36, as_clus_fitted, bs_clus_fitted, List ((List Int) × Int), w, out_clus_fitted⟩
noncomputable def con_clus_fitted (N : Nat) : Con := conw_clus_fitted (W_clus_fitted N)
theorem R_clus_fitted_eq (x : (List (List Int)) × (List Int) × Int) (y : List ((List Int) × Int)) : retOf2 P0 Try.f36 (kpL []) (lbOf as_clus_fitted bs_clus_fitted x) (patS ⟨40, [], [], []⟩ pout_clus_fitted y) = some (out_clus_fitted y) := by kernel_rfl
theorem con_clus_fitted_ok (N : Nat) : Con.ok P0 (con_clus_fitted N) := ⟨⟨Try.f36, Try.func36, by kernel_rfl, by kernel_rfl⟩, fun (x : (List (List Int)) × (List Int) × Int) (r : List ((List Int) × Int)) (hr : W_clus_fitted N x = some r) =>
  spec2_evT (Γ := G_clus_fitted (W_clus_Of N) (W_clus_Split N) N) (Λ := L0) (pout := pout_clus_fitted) (kp := kpL []) mixed (orcOf_ok _ (by simp only [List.mem_cons, List.not_mem_nil, or_false, forall_eq_or_imp, forall_eq]; exact ⟨con_clus_Of_ok N, con_clus_Split_ok N⟩)) Try.func36 (c := bodyOf Try.f36) (by kernel_rfl) (by kernel_rfl) (of_decide_eq_true (by kernel_rfl)) ((F_clus_fitted_eq N x).trans hr) (R_clus_fitted_eq x r)⟩
def as_clus_Group : List AS := [.val (.list (.list (.int .i64))), .val (.list (.int .i64)), .val (.int .i64)]
def bs_clus_Group : List BS := []
def out_clus_Group (y : List ((List Int) × Int)) : V × List OK × List OK := (.acc 2000000 0, [], [.nrow 33 true true ⟨(.agg (.pair (.list (.int .i64)) (.int .i64))), y⟩])
noncomputable def conw_clus_Group (w : (List (List Int)) × (List Int) × Int → Option (List ((List Int) × Int))) : Con := ⟨17, as_clus_Group, bs_clus_Group, List ((List Int) × Int), w, out_clus_Group⟩
def pout_clus_Group : Pat := ⟨[(6, .acc 700025)], [(700025, .nrow 33 (.agg (.pair (.list (.int .i64)) (.int .i64))) true true)]⟩
noncomputable def G_clus_Group (w_clus_fitted : (List (List Int)) × (List Int) × Int → Option (List ((List Int) × Int))) (w_clus_Group : (List (List Int)) × (List Int) × Int → Option (List ((List Int) × Int))) (N : Nat) : OrcT := orcOf [conw_clus_fitted w_clus_fitted, conw_clus_Group w_clus_Group]
noncomputable def F_clus_Group (w_clus_fitted : (List (List Int)) × (List Int) × Int → Option (List ((List Int) × Int))) (w_clus_Group : (List (List Int)) × (List Int) × Int → Option (List ((List Int) × Int))) (N : Nat) (x : (List (List Int)) × (List Int) × Int) : Option (List ((List Int) × Int)) :=
  (evT (G_clus_Group w_clus_fitted w_clus_Group N) L0 P0 []
    [] N 400 (bodyOf Try.f17) ⟨34, slots 0 (argsOf as_clus_Group bs_clus_Group x), tabU (lbOf as_clus_Group bs_clus_Group x) [], []⟩).elim (kRet 34 pout_clus_Group (kpL []) (lbOf as_clus_Group bs_clus_Group x))
noncomputable def V_clus_Group (w_clus_fitted : (List (List Int)) × (List Int) × Int → Option (List ((List Int) × Int))) (w_clus_Group : (List (List Int)) × (List Int) × Int → Option (List ((List Int) × Int))) (N : Nat) (x : (List (List Int)) × (List Int) × Int) : Option (List ((List Int) × Int)) :=
  cnd (decide ((↑(List.length x.2.1) : Int) = (0:Int))) (some []) (obind (w_clus_fitted x) fun b => cnd (decide ((↑(List.length b) : Int) = (1:Int)))
    (some b) (cnd (decide ((0:Int) ≤ (0:Int)) && decide ((0:Int) < (↑(List.length b) : Int))) (obind (w_clus_Group (x.1, Prod.fst (List.getD b (0:Nat)
    ([], (0:Int))), x.2.2)) fun b_1 => cnd (decide ((0:Int) ≤ (1:Int)) && decide ((1:Int) < (↑(List.length b) : Int))) (obind (w_clus_Group (x.1,
    Prod.fst (List.getD b (1:Nat) ([], (0:Int))), x.2.2)) fun b => cnd (decide ((List.length b_1 + List.length b) * (32:Nat) ≤ (140737488355328:Nat)))
    (some (b_1 ++ b)) none) none) none))
theorem FV_clus_Group_eq (w_clus_fitted : (List (List Int)) × (List Int) × Int → Option (List ((List Int) × Int))) (w_clus_Group : (List (List Int)) × (List Int) × Int → Option (List ((List Int) × Int))) (N : Nat) (x : (List (List Int)) × (List Int) × Int) : F_clus_Group w_clus_fitted w_clus_Group N x = V_clus_Group w_clus_fitted w_clus_Group N x := by kernel_rfl
noncomputable def WR_clus_Group (N : Nat) : Nat → ((List (List Int)) × (List Int) × Int) → Option (List ((List Int) × Int)) := fun m => Nat.rec (motive := fun _ => ((List (List Int)) × (List Int) × Int) → Option (List ((List Int) × Int))) (fun _ => none) (fun _ w_clus_Group x =>
  cnd (decide ((↑(List.length x.2.1) : Int) = (0:Int))) (some []) (obind (W_clus_fitted N x) fun b => cnd (decide ((↑(List.length b) : Int) = (1:Int)))
    (some b) (cnd (decide ((0:Int) ≤ (0:Int)) && decide ((0:Int) < (↑(List.length b) : Int))) (obind (w_clus_Group (x.1, Prod.fst (List.getD b (0:Nat)
    ([], (0:Int))), x.2.2)) fun b_1 => cnd (decide ((0:Int) ≤ (1:Int)) && decide ((1:Int) < (↑(List.length b) : Int))) (obind (w_clus_Group (x.1,
    Prod.fst (List.getD b (1:Nat) ([], (0:Int))), x.2.2)) fun b => cnd (decide ((List.length b_1 + List.length b) * (32:Nat) ≤ (140737488355328:Nat)))
    (some (b_1 ++ b)) none) none) none))) m
noncomputable def W_clus_Group (N : Nat) (x : (List (List Int)) × (List Int) × Int) : Option (List ((List Int) × Int)) := WR_clus_Group N N x
theorem F_clus_Group_eq (N m : Nat) (x : (List (List Int)) × (List Int) × Int) : F_clus_Group (W_clus_fitted N) (WR_clus_Group N m) N x = WR_clus_Group N (m + 1) x := (FV_clus_Group_eq (W_clus_fitted N) (WR_clus_Group N m) N x).trans (by kernel_rfl)
noncomputable def con_clus_Group (N : Nat) : Con := conw_clus_Group (W_clus_Group N)
theorem R_clus_Group_eq (x : (List (List Int)) × (List Int) × Int) (y : List ((List Int) × Int)) : retOf2 P0 Try.f17 (kpL []) (lbOf as_clus_Group bs_clus_Group x) (patS ⟨34, [], [], []⟩ pout_clus_Group y) = some (out_clus_Group y) := by kernel_rfl
theorem con_clus_Group_okR (N : Nat) : ∀ m, Con.ok P0 (conw_clus_Group (WR_clus_Group N m))
  | 0 => ⟨⟨Try.f17, Try.func17, by kernel_rfl, by kernel_rfl⟩, fun (x : (List (List Int)) × (List Int) × Int) (r : List ((List Int) × Int)) (hr : (none : Option (List ((List Int) × Int))) = some r) => by cases hr⟩
  | m + 1 => ⟨⟨Try.f17, Try.func17, by kernel_rfl, by kernel_rfl⟩, fun (x : (List (List Int)) × (List Int) × Int) (r : List ((List Int) × Int)) (hr : WR_clus_Group N (m + 1) x = some r) =>
    spec2_evT (Γ := G_clus_Group (W_clus_fitted N) (WR_clus_Group N m) N) (Λ := L0) (pout := pout_clus_Group) (kp := kpL []) mixed (orcOf_ok _ (by simp only [List.mem_cons, List.not_mem_nil, or_false, forall_eq_or_imp, forall_eq]; exact ⟨con_clus_fitted_ok N, con_clus_Group_okR N m⟩)) Try.func17 (c := bodyOf Try.f17) (by kernel_rfl) (by kernel_rfl) (of_decide_eq_true (by kernel_rfl)) ((F_clus_Group_eq N m x).trans hr) (R_clus_Group_eq x r)⟩
theorem con_clus_Group_ok (N : Nat) : Con.ok P0 (con_clus_Group N) := con_clus_Group_okR N N
def as_slices_Index_int : List AS := [.val (.list (.int .i64)), .val (.int .i64)]
def bs_slices_Index_int : List BS := []
def pout_slices_Index_int : Pat := ⟨[(4, .val (.int .i64))], []⟩
noncomputable def G_slices_Index_int  (N : Nat) : OrcT := orcOf []
noncomputable def F_slices_Index_int  (N : Nat) (x : (List Int) × Int) : Option (Int) :=
  (evT (G_slices_Index_int  N) L0 P0 [(2, .loop [] ⟨[(8, .val (.int .i64))], []⟩ [(.exit 0, ⟨[], []⟩), (.ret, ⟨[(4, .val (.int .i64))], []⟩)])]
    [] N 400 (bodyOf Try.f56) ⟨19, slots 0 (argsOf as_slices_Index_int bs_slices_Index_int x), tabU (lbOf as_slices_Index_int bs_slices_Index_int x) [], []⟩).elim (kRet 19 pout_slices_Index_int (kpL []) (lbOf as_slices_Index_int bs_slices_Index_int x))
def out_slices_Index_int (y : Int) : V × List OK × List OK := (valW (.int .i64) y, [], [])
noncomputable def V_slices_Index_int  (N : Nat) (x : (List Int) × Int) : Option (Int) :=
  obind (loopN N (fun (v : Int) => cnd (decide (v < (↑(List.length x.1) : Int))) (cnd (decide ((0:Int) ≤ v) && decide (v < (↑(List.length x.1) : Int)))
    (cnd (decide (x.2 = List.getD x.1 (Int.toNat v) (0:Int))) (some (Sum.inr (Sum.inr v))) (some (Sum.inl (wr .i64 (v + (1:Int)))))) none) (some
    (Sum.inr (Sum.inl ())))) (Int.ofNat (0:Nat))) fun (b : PUnit ⊕ Int) => selim (fun (b : PUnit) => some (-1 : Int)) (fun (c : Int) => some c) b
theorem FV_slices_Index_int_eq  (N : Nat) (x : (List Int) × Int) : F_slices_Index_int  N x = V_slices_Index_int  N x := by kernel_rfl
noncomputable def W_slices_Index_int (N : Nat) (x : (List Int) × Int) : Option (Int) := V_slices_Index_int  N x
theorem F_slices_Index_int_eq (N : Nat) (x : (List Int) × Int) : F_slices_Index_int  N x = W_slices_Index_int N x := (FV_slices_Index_int_eq  N x).trans (by kernel_rfl)
noncomputable def conw_slices_Index_int (w : (List Int) × Int → Option (Int)) : Con := ⟨56, as_slices_Index_int, bs_slices_Index_int, Int, w, out_slices_Index_int⟩
noncomputable def con_slices_Index_int (N : Nat) : Con := conw_slices_Index_int (W_slices_Index_int N)
theorem R_slices_Index_int_eq (x : (List Int) × Int) (y : Int) : retOf2 P0 Try.f56 (kpL []) (lbOf as_slices_Index_int bs_slices_Index_int x) (patS ⟨19, [], [], []⟩ pout_slices_Index_int y) = some (out_slices_Index_int y) := by kernel_rfl
theorem con_slices_Index_int_ok (N : Nat) : Con.ok P0 (con_slices_Index_int N) := ⟨⟨Try.f56, Try.func56, by kernel_rfl, by kernel_rfl⟩, fun (x : (List Int) × Int) (r : Int) (hr : W_slices_Index_int N x = some r) =>
  spec2_evT (Γ := G_slices_Index_int N) (Λ := L0) (pout := pout_slices_Index_int) (kp := kpL []) mixed (orcOf_ok [] (by simp)) Try.func56 (c := bodyOf Try.f56) (by kernel_rfl) (by kernel_rfl) (of_decide_eq_true (by kernel_rfl)) ((F_slices_Index_int_eq N x).trans hr) (R_slices_Index_int_eq x r)⟩
def as_slices_Contains_int : List AS := [.val (.list (.int .i64)), .val (.int .i64)]
def bs_slices_Contains_int : List BS := []
def pout_slices_Contains_int : Pat := ⟨[(4, .val .bool)], []⟩
noncomputable def G_slices_Contains_int (w_slices_Index_int : (List Int) × Int → Option (Int)) (N : Nat) : OrcT := orcOf [conw_slices_Index_int w_slices_Index_int]
noncomputable def F_slices_Contains_int (w_slices_Index_int : (List Int) × Int → Option (Int)) (N : Nat) (x : (List Int) × Int) : Option (Bool) :=
  (evT (G_slices_Contains_int w_slices_Index_int N) L0 P0 []
    [] N 400 (bodyOf Try.f50) ⟨9, slots 0 (argsOf as_slices_Contains_int bs_slices_Contains_int x), tabU (lbOf as_slices_Contains_int bs_slices_Contains_int x) [], []⟩).elim (kRet 9 pout_slices_Contains_int (kpL []) (lbOf as_slices_Contains_int bs_slices_Contains_int x))
def out_slices_Contains_int (y : Bool) : V × List OK × List OK := (valW .bool y, [], [])
noncomputable def V_slices_Contains_int (w_slices_Index_int : (List Int) × Int → Option (Int)) (N : Nat) (x : (List Int) × Int) : Option (Bool) :=
  obind (w_slices_Index_int x) fun b => some (decide ((0:Int) ≤ b))
theorem FV_slices_Contains_int_eq (w_slices_Index_int : (List Int) × Int → Option (Int)) (N : Nat) (x : (List Int) × Int) : F_slices_Contains_int w_slices_Index_int N x = V_slices_Contains_int w_slices_Index_int N x := by kernel_rfl
noncomputable def W_slices_Contains_int (N : Nat) (x : (List Int) × Int) : Option (Bool) := V_slices_Contains_int (W_slices_Index_int N) N x
theorem F_slices_Contains_int_eq (N : Nat) (x : (List Int) × Int) : F_slices_Contains_int (W_slices_Index_int N) N x = W_slices_Contains_int N x := (FV_slices_Contains_int_eq (W_slices_Index_int N) N x).trans (by kernel_rfl)
noncomputable def conw_slices_Contains_int (w : (List Int) × Int → Option (Bool)) : Con := ⟨50, as_slices_Contains_int, bs_slices_Contains_int, Bool, w, out_slices_Contains_int⟩
noncomputable def con_slices_Contains_int (N : Nat) : Con := conw_slices_Contains_int (W_slices_Contains_int N)
theorem R_slices_Contains_int_eq (x : (List Int) × Int) (y : Bool) : retOf2 P0 Try.f50 (kpL []) (lbOf as_slices_Contains_int bs_slices_Contains_int x) (patS ⟨9, [], [], []⟩ pout_slices_Contains_int y) = some (out_slices_Contains_int y) := by kernel_rfl
theorem con_slices_Contains_int_ok (N : Nat) : Con.ok P0 (con_slices_Contains_int N) := ⟨⟨Try.f50, Try.func50, by kernel_rfl, by kernel_rfl⟩, fun (x : (List Int) × Int) (r : Bool) (hr : W_slices_Contains_int N x = some r) =>
  spec2_evT (Γ := G_slices_Contains_int (W_slices_Index_int N) N) (Λ := L0) (pout := pout_slices_Contains_int) (kp := kpL []) mixed (orcOf_ok _ (by simp only [List.mem_cons, List.not_mem_nil, or_false, forall_eq_or_imp, forall_eq]; exact con_slices_Index_int_ok N)) Try.func50 (c := bodyOf Try.f50) (by kernel_rfl) (by kernel_rfl) (of_decide_eq_true (by kernel_rfl)) ((F_slices_Contains_int_eq N x).trans hr) (R_slices_Contains_int_eq x r)⟩
def as_clus_find : List AS := [.val (.list (.agg (.pair (.list (.int .i64)) (.int .i64)))), .val (.int .i64)]
def bs_clus_find : List BS := []
def pout_clus_find : Pat := ⟨[(4, .val (.alt 62 (.agg (.int .i64)) (.alt1 75 (.agg .unit))))], []⟩
noncomputable def G_clus_find (w_slices_Contains_int : (List Int) × Int → Option (Bool)) (N : Nat) : OrcT := orcOf [conw_slices_Contains_int w_slices_Contains_int]
noncomputable def F_clus_find (w_slices_Contains_int : (List Int) × Int → Option (Bool)) (N : Nat) (x : (List ((List Int) × Int)) × Int) : Option (Int ⊕ Unit) :=
  (evT (G_clus_find w_slices_Contains_int N) L0 P0 [(2, .loop [7] ⟨[(9, .val (.int .i64))], []⟩ [(.exit 0, ⟨[], []⟩), (.ret, ⟨[(4, .val (.alt 62 (.agg (.int .i64)) (.alt1 75 (.agg .unit))))], []⟩)])]
    [] N 400 (bodyOf Try.f38) ⟨24, slots 0 (argsOf as_clus_find bs_clus_find x), tabU (lbOf as_clus_find bs_clus_find x) [], []⟩).elim (kRet 24 pout_clus_find (kpL []) (lbOf as_clus_find bs_clus_find x))
def out_clus_find (y : Int ⊕ Unit) : V × List OK × List OK := (valW (.alt 62 (.agg (.int .i64)) (.alt1 75 (.agg .unit))) y, [], [])
noncomputable def V_clus_find (w_slices_Contains_int : (List Int) × Int → Option (Bool)) (N : Nat) (x : (List ((List Int) × Int)) × Int) : Option (Int ⊕ Unit) :=
  obind (loopN N (fun (v : Int) => cnd (decide (v < (↑(List.length x.1) : Int))) (cnd (decide ((0:Int) ≤ v) && decide (v < (↑(List.length x.1) : Int)))
    (obind (w_slices_Contains_int (Prod.fst (List.getD x.1 (Int.toNat v) ([], (0:Int))), x.2)) fun b => cnd b (some (Sum.inr (Sum.inr (Sum.inl v))))
    (some (Sum.inl (wr .i64 (v + (1:Int)))))) none) (some (Sum.inr (Sum.inl ())))) (Int.ofNat (0:Nat))) fun (b : PUnit ⊕ Int ⊕ PUnit) => selim (fun (b :
    PUnit) => some (Sum.inr ())) (fun (c : Int ⊕ PUnit) => some c) b
theorem FV_clus_find_eq (w_slices_Contains_int : (List Int) × Int → Option (Bool)) (N : Nat) (x : (List ((List Int) × Int)) × Int) : F_clus_find w_slices_Contains_int N x = V_clus_find w_slices_Contains_int N x := by kernel_rfl
noncomputable def W_clus_find (N : Nat) (x : (List ((List Int) × Int)) × Int) : Option (Int ⊕ Unit) := V_clus_find (W_slices_Contains_int N) N x
theorem F_clus_find_eq (N : Nat) (x : (List ((List Int) × Int)) × Int) : F_clus_find (W_slices_Contains_int N) N x = W_clus_find N x := (FV_clus_find_eq (W_slices_Contains_int N) N x).trans (by kernel_rfl)
noncomputable def conw_clus_find (w : (List ((List Int) × Int)) × Int → Option (Int ⊕ Unit)) : Con := ⟨38, as_clus_find, bs_clus_find, Int ⊕ Unit, w, out_clus_find⟩
noncomputable def con_clus_find (N : Nat) : Con := conw_clus_find (W_clus_find N)
theorem R_clus_find_eq (x : (List ((List Int) × Int)) × Int) (y : Int ⊕ Unit) : retOf2 P0 Try.f38 (kpL []) (lbOf as_clus_find bs_clus_find x) (patS ⟨24, [], [], []⟩ pout_clus_find y) = some (out_clus_find y) := by kernel_rfl
theorem con_clus_find_ok (N : Nat) : Con.ok P0 (con_clus_find N) := ⟨⟨Try.f38, Try.func38, by kernel_rfl, by kernel_rfl⟩, fun (x : (List ((List Int) × Int)) × Int) (r : Int ⊕ Unit) (hr : W_clus_find N x = some r) =>
  spec2_evT (Γ := G_clus_find (W_slices_Contains_int N) N) (Λ := L0) (pout := pout_clus_find) (kp := kpL []) mixed (orcOf_ok _ (by simp only [List.mem_cons, List.not_mem_nil, or_false, forall_eq_or_imp, forall_eq]; exact con_slices_Contains_int_ok N)) Try.func38 (c := bodyOf Try.f38) (by kernel_rfl) (by kernel_rfl) (of_decide_eq_true (by kernel_rfl)) ((F_clus_find_eq N x).trans hr) (R_clus_find_eq x r)⟩
def as_slices_Clone_api_Cluster : List AS := [.val (.list (.agg (.pair (.list (.int .i64)) (.int .i64))))]
def bs_slices_Clone_api_Cluster : List BS := []
def pout_slices_Clone_api_Cluster : Pat := ⟨[(2, .acc 700005)], [(700005, .nrow 33 (.agg (.pair (.list (.int .i64)) (.int .i64))) false true)]⟩
noncomputable def G_slices_Clone_api_Cluster  (N : Nat) : OrcT := orcOf []
noncomputable def F_slices_Clone_api_Cluster  (N : Nat) (x : List ((List Int) × Int)) : Option (List ((List Int) × Int)) :=
  (evT (G_slices_Clone_api_Cluster  N) L0 P0 []
    [] N 400 (bodyOf Try.f51) ⟨8, slots 0 [.nl ⟨(.agg (.pair (.list (.int .i64)) (.int .i64))), x⟩], tabU (lbOf as_slices_Clone_api_Cluster bs_slices_Clone_api_Cluster x) [], []⟩).elim (kRet 8 pout_slices_Clone_api_Cluster (kpL []) (lbOf as_slices_Clone_api_Cluster bs_slices_Clone_api_Cluster x))
def out_slices_Clone_api_Cluster (y : List ((List Int) × Int)) : V × List OK × List OK := (.acc 2000000 0, [], [.nrow 33 false true ⟨(.agg (.pair (.list (.int .i64)) (.int .i64))), y⟩])
noncomputable def V_slices_Clone_api_Cluster  (N : Nat) (x : List ((List Int) × Int)) : Option (List ((List Int) × Int)) :=
  cnd (decide (List.length x * (32:Nat) ≤ (140737488355328:Nat))) (some x) none
theorem FV_slices_Clone_api_Cluster_eq  (N : Nat) (x : List ((List Int) × Int)) : F_slices_Clone_api_Cluster  N x = V_slices_Clone_api_Cluster  N x := by kernel_rfl
noncomputable def W_slices_Clone_api_Cluster (N : Nat) (x : List ((List Int) × Int)) : Option (List ((List Int) × Int)) := V_slices_Clone_api_Cluster  N x
theorem F_slices_Clone_api_Cluster_eq (N : Nat) (x : List ((List Int) × Int)) : F_slices_Clone_api_Cluster  N x = W_slices_Clone_api_Cluster N x := (FV_slices_Clone_api_Cluster_eq  N x).trans (by kernel_rfl)
noncomputable def conw_slices_Clone_api_Cluster (w : List ((List Int) × Int) → Option (List ((List Int) × Int))) : Con := ⟨51, as_slices_Clone_api_Cluster, bs_slices_Clone_api_Cluster, List ((List Int) × Int), w, out_slices_Clone_api_Cluster⟩
noncomputable def con_slices_Clone_api_Cluster (N : Nat) : Con := conw_slices_Clone_api_Cluster (W_slices_Clone_api_Cluster N)
theorem R_slices_Clone_api_Cluster_eq (x : List ((List Int) × Int)) (y : List ((List Int) × Int)) : retOf2 P0 Try.f51 (kpL []) (lbOf as_slices_Clone_api_Cluster bs_slices_Clone_api_Cluster x) (patS ⟨8, [], [], []⟩ pout_slices_Clone_api_Cluster y) = some (out_slices_Clone_api_Cluster y) := by kernel_rfl
noncomputable def FA_slices_Clone_api_Cluster : Option (List ((List Int) × Int)) := (evT (G_slices_Clone_api_Cluster 1) L0 P0 [] [] 1 400 (bodyOf Try.f51) ⟨8, slots 0 [.snil], tabU [] [], []⟩).elim (kRet 8 pout_slices_Clone_api_Cluster (kpL []) [])
theorem FA_slices_Clone_api_Cluster_eq : FA_slices_Clone_api_Cluster = some [] := by kernel_rfl
theorem WN_slices_Clone_api_Cluster (N : Nat) (r : List ((List Int) × Int)) (h : W_slices_Clone_api_Cluster N [] = some r) : r = [] := by
  have e : W_slices_Clone_api_Cluster N [] = some [] := by kernel_rfl
  rw [e] at h; injection h with h; exact h.symm
theorem con_slices_Clone_api_Cluster_ok (N : Nat) : Con.ok P0 (con_slices_Clone_api_Cluster N) := ⟨⟨Try.f51, Try.func51, by kernel_rfl, by kernel_rfl⟩, fun (x : List ((List Int) × Int)) (r : List ((List Int) × Int)) (hr : W_slices_Clone_api_Cluster N x = some r) =>
  clone_split (e := (.agg (.pair (.list (.int .i64)) (.int .i64)))) (ty := 33) (l := x) (r := r)
    (spec2_evT (Γ := G_slices_Clone_api_Cluster 1) (Λ := L0) (lb := []) (pout := pout_slices_Clone_api_Cluster) (kp := kpL []) mixed (orcOf_ok [] (by simp)) Try.func51 (c := bodyOf Try.f51) (by kernel_rfl) (by kernel_rfl) (of_decide_eq_true (by kernel_rfl)) FA_slices_Clone_api_Cluster_eq (R_slices_Clone_api_Cluster_eq x []))
    (spec2_evT (Γ := G_slices_Clone_api_Cluster N) (Λ := L0) (lb := []) (pout := pout_slices_Clone_api_Cluster) (kp := kpL []) mixed (orcOf_ok [] (by simp)) Try.func51 (c := bodyOf Try.f51) (by kernel_rfl) (by kernel_rfl) (of_decide_eq_true (by kernel_rfl)) ((F_slices_Clone_api_Cluster_eq N x).trans hr) (R_slices_Clone_api_Cluster_eq x r))
    (fun h => by subst h; exact WN_slices_Clone_api_Cluster N r hr)⟩
def as_twin_Clusters : List AS := [.val (.list (.agg (.pair (.list (.int .i64)) (.int .i64))))]
def bs_twin_Clusters : List BS := []
def pout_twin_Clusters : Pat := ⟨[(2, .val (.list (.agg (.pair (.list (.int .i64)) (.int .i64)))))], []⟩
noncomputable def G_twin_Clusters (w_slices_Clone_api_Cluster : List ((List Int) × Int) → Option (List ((List Int) × Int))) (w_slices_Clone_int : List Int → Option (List Int)) (N : Nat) : OrcT := orcOf [conw_slices_Clone_api_Cluster w_slices_Clone_api_Cluster, conw_slices_Clone_int w_slices_Clone_int]
noncomputable def F_twin_Clusters (w_slices_Clone_api_Cluster : List ((List Int) × Int) → Option (List ((List Int) × Int))) (w_slices_Clone_int : List Int → Option (List Int)) (N : Nat) (x : List ((List Int) × Int)) : Option (List ((List Int) × Int)) :=
  (evT (G_twin_Clusters w_slices_Clone_api_Cluster w_slices_Clone_int N) L0 P0 [(3, .loop [] ⟨[(3, .acc 700006), (9, .val (.int .i64))], [(700006, .nrow 33 (.agg (.pair (.list (.int .i64)) (.int .i64))) false true)]⟩ [(.exit 0, ⟨[(3, .val (.list (.agg (.pair (.list (.int .i64)) (.int .i64)))))], []⟩)])]
    [] N 400 (bodyOf Try.f39) ⟨24, slots 0 (argsOf as_twin_Clusters bs_twin_Clusters x), tabU (lbOf as_twin_Clusters bs_twin_Clusters x) [], []⟩).elim (kRet 24 pout_twin_Clusters (kpL []) (lbOf as_twin_Clusters bs_twin_Clusters x))
def out_twin_Clusters (y : List ((List Int) × Int)) : V × List OK × List OK := (valW (.list (.agg (.pair (.list (.int .i64)) (.int .i64)))) y, [], [])
noncomputable def V_twin_Clusters (w_slices_Clone_api_Cluster : List ((List Int) × Int) → Option (List ((List Int) × Int))) (w_slices_Clone_int : List Int → Option (List Int)) (N : Nat) (x : List ((List Int) × Int)) : Option (List ((List Int) × Int)) :=
  obind (w_slices_Clone_api_Cluster x) fun b => obind (loopN N (fun (v : Int × List (List Int × Int)) => cnd (decide (v.1 < (↑(List.length b) : Int)))
    (cnd (decide ((0:Int) ≤ v.1) && decide (v.1 < (↑(List.length v.2) : Int))) (obind (w_slices_Clone_int (Prod.fst (List.getD v.2 (Int.toNat v.1)
    ([], (0:Int))))) fun b => cnd (decide ((0:Int) ≤ v.1) && decide (v.1 < (↑(List.length v.2) : Int))) (some (Sum.inl (wr .i64 (v.1 + (1:Int)), putL
    v.2 [(b, Prod.snd (List.getD v.2 (Int.toNat v.1) ([], (0:Int))))] (Int.toNat v.1)))) none) none) (some (Sum.inr v.2))) ((0:Int), b)) fun (b : List
    (List Int × Int)) => some b
theorem FV_twin_Clusters_eq (w_slices_Clone_api_Cluster : List ((List Int) × Int) → Option (List ((List Int) × Int))) (w_slices_Clone_int : List Int → Option (List Int)) (N : Nat) (x : List ((List Int) × Int)) : F_twin_Clusters w_slices_Clone_api_Cluster w_slices_Clone_int N x = V_twin_Clusters w_slices_Clone_api_Cluster w_slices_Clone_int N x := by kernel_rfl
noncomputable def W_twin_Clusters (N : Nat) (x : List ((List Int) × Int)) : Option (List ((List Int) × Int)) := V_twin_Clusters (W_slices_Clone_api_Cluster N) (W_slices_Clone_int N) N x
theorem F_twin_Clusters_eq (N : Nat) (x : List ((List Int) × Int)) : F_twin_Clusters (W_slices_Clone_api_Cluster N) (W_slices_Clone_int N) N x = W_twin_Clusters N x := (FV_twin_Clusters_eq (W_slices_Clone_api_Cluster N) (W_slices_Clone_int N) N x).trans (by kernel_rfl)
noncomputable def conw_twin_Clusters (w : List ((List Int) × Int) → Option (List ((List Int) × Int))) : Con := ⟨39, as_twin_Clusters, bs_twin_Clusters, List ((List Int) × Int), w, out_twin_Clusters⟩
noncomputable def con_twin_Clusters (N : Nat) : Con := conw_twin_Clusters (W_twin_Clusters N)
theorem R_twin_Clusters_eq (x : List ((List Int) × Int)) (y : List ((List Int) × Int)) : retOf2 P0 Try.f39 (kpL []) (lbOf as_twin_Clusters bs_twin_Clusters x) (patS ⟨24, [], [], []⟩ pout_twin_Clusters y) = some (out_twin_Clusters y) := by kernel_rfl
theorem con_twin_Clusters_ok (N : Nat) : Con.ok P0 (con_twin_Clusters N) := ⟨⟨Try.f39, Try.func39, by kernel_rfl, by kernel_rfl⟩, fun (x : List ((List Int) × Int)) (r : List ((List Int) × Int)) (hr : W_twin_Clusters N x = some r) =>
  spec2_evT (Γ := G_twin_Clusters (W_slices_Clone_api_Cluster N) (W_slices_Clone_int N) N) (Λ := L0) (pout := pout_twin_Clusters) (kp := kpL []) mixed (orcOf_ok _ (by simp only [List.mem_cons, List.not_mem_nil, or_false, forall_eq_or_imp, forall_eq]; exact ⟨con_slices_Clone_api_Cluster_ok N, con_slices_Clone_int_ok N⟩)) Try.func39 (c := bodyOf Try.f39) (by kernel_rfl) (by kernel_rfl) (of_decide_eq_true (by kernel_rfl)) ((F_twin_Clusters_eq N x).trans hr) (R_twin_Clusters_eq x r)⟩
def as_clus_replace : List AS := [.val (.list (.list (.int .i64))), .val (.list (.agg (.pair (.list (.int .i64)) (.int .i64)))), .val (.int .i64), .val (.int .i64), .val (.list (.agg (.pair (.list (.int .i64)) (.int .i64))))]
def bs_clus_replace : List BS := []
def pout_clus_replace : Pat := ⟨[(10, .val (.list (.agg (.pair (.list (.int .i64)) (.int .i64)))))], []⟩
noncomputable def G_clus_replace (w_clus_Of : (List (List Int)) × List Int → Option ((List Int) × Int)) (N : Nat) : OrcT := orcOf [conw_clus_Of w_clus_Of]
noncomputable def F_clus_replace (w_clus_Of : (List (List Int)) × List Int → Option ((List Int) × Int)) (N : Nat) (x : (List (List Int)) × (List ((List Int) × Int)) × Int × Int × List ((List Int) × Int)) : Option (List ((List Int) × Int)) :=
  (evT (G_clus_replace w_clus_Of N) L0 P0 [(3, .loop [14] ⟨[(11, .acc 700011), (16, .val (.int .i64))], [(700011, .nrow 33 (.agg (.pair (.list (.int .i64)) (.int .i64))) true true)]⟩ [(.exit 0, ⟨[(11, .val (.list (.agg (.pair (.list (.int .i64)) (.int .i64)))))], []⟩)])]
    [] N 400 (bodyOf Try.f40) ⟨40, slots 0 (argsOf as_clus_replace bs_clus_replace x), tabU (lbOf as_clus_replace bs_clus_replace x) [], []⟩).elim (kRet 40 pout_clus_replace (kpL []) (lbOf as_clus_replace bs_clus_replace x))
def out_clus_replace (y : List ((List Int) × Int)) : V × List OK × List OK := (valW (.list (.agg (.pair (.list (.int .i64)) (.int .i64)))) y, [], [])
noncomputable def V_clus_replace (w_clus_Of : (List (List Int)) × List Int → Option ((List Int) × Int)) (N : Nat) (x : (List (List Int)) × (List ((List Int) × Int)) × Int × Int × List ((List Int) × Int)) : Option (List ((List Int) × Int)) :=
  obind (loopN N (fun (v : Int × List (List Int × Int)) => cnd (decide (v.1 < (↑(List.length x.2.1) : Int))) (cnd (decide ((0:Int) ≤ v.1) && decide (v.1
    < (↑(List.length x.2.1) : Int))) (cnd (decide (v.1 = x.2.2.1)) (cnd (decide ((List.length v.2 + List.length x.2.2.2.2) * (32:Nat) ≤
    (140737488355328:Nat))) (some (Sum.inl (wr .i64 (v.1 + (1:Int)), v.2 ++ x.2.2.2.2))) none) (cnd (decide (v.1 = x.2.2.2.1)) (some (Sum.inl (wr .i64
    (v.1 + (1:Int)), v.2))) (obind (w_clus_Of (x.1, Prod.fst (List.getD x.2.1 (Int.toNat v.1) ([], (0:Int))))) fun b => cnd (decide ((List.length v.2
    + List.length [b]) * (32:Nat) ≤ (140737488355328:Nat))) (some (Sum.inl (wr .i64 (v.1 + (1:Int)), v.2 ++ [b]))) none))) none) (some (Sum.inr v.2)))
    ((0:Int), [])) fun (b : List (List Int × Int)) => some b
theorem FV_clus_replace_eq (w_clus_Of : (List (List Int)) × List Int → Option ((List Int) × Int)) (N : Nat) (x : (List (List Int)) × (List ((List Int) × Int)) × Int × Int × List ((List Int) × Int)) : F_clus_replace w_clus_Of N x = V_clus_replace w_clus_Of N x := by kernel_rfl
noncomputable def W_clus_replace (N : Nat) (x : (List (List Int)) × (List ((List Int) × Int)) × Int × Int × List ((List Int) × Int)) : Option (List ((List Int) × Int)) := V_clus_replace (W_clus_Of N) N x
theorem F_clus_replace_eq (N : Nat) (x : (List (List Int)) × (List ((List Int) × Int)) × Int × Int × List ((List Int) × Int)) : F_clus_replace (W_clus_Of N) N x = W_clus_replace N x := (FV_clus_replace_eq (W_clus_Of N) N x).trans (by kernel_rfl)
noncomputable def conw_clus_replace (w : (List (List Int)) × (List ((List Int) × Int)) × Int × Int × List ((List Int) × Int) → Option (List ((List Int) × Int))) : Con := ⟨40, as_clus_replace, bs_clus_replace, List ((List Int) × Int), w, out_clus_replace⟩
noncomputable def con_clus_replace (N : Nat) : Con := conw_clus_replace (W_clus_replace N)
theorem R_clus_replace_eq (x : (List (List Int)) × (List ((List Int) × Int)) × Int × Int × List ((List Int) × Int)) (y : List ((List Int) × Int)) : retOf2 P0 Try.f40 (kpL []) (lbOf as_clus_replace bs_clus_replace x) (patS ⟨40, [], [], []⟩ pout_clus_replace y) = some (out_clus_replace y) := by kernel_rfl
theorem con_clus_replace_ok (N : Nat) : Con.ok P0 (con_clus_replace N) := ⟨⟨Try.f40, Try.func40, by kernel_rfl, by kernel_rfl⟩, fun (x : (List (List Int)) × (List ((List Int) × Int)) × Int × Int × List ((List Int) × Int)) (r : List ((List Int) × Int)) (hr : W_clus_replace N x = some r) =>
  spec2_evT (Γ := G_clus_replace (W_clus_Of N) N) (Λ := L0) (pout := pout_clus_replace) (kp := kpL []) mixed (orcOf_ok _ (by simp only [List.mem_cons, List.not_mem_nil, or_false, forall_eq_or_imp, forall_eq]; exact con_clus_Of_ok N)) Try.func40 (c := bodyOf Try.f40) (by kernel_rfl) (by kernel_rfl) (of_decide_eq_true (by kernel_rfl)) ((F_clus_replace_eq N x).trans hr) (R_clus_replace_eq x r)⟩
def as_clus_Join : List AS := [.val (.list (.list (.int .i64))), .val (.list (.agg (.pair (.list (.int .i64)) (.int .i64)))), .val (.int .i64), .val (.int .i64), .val (.int .i64)]
def bs_clus_Join : List BS := []
def pout_clus_Join : Pat := ⟨[(10, .val (.list (.agg (.pair (.list (.int .i64)) (.int .i64)))))], []⟩
noncomputable def G_clus_Join (w_clus_Of : (List (List Int)) × List Int → Option ((List Int) × Int)) (w_clus_find : (List ((List Int) × Int)) × Int → Option (Int ⊕ Unit)) (w_twin_Clusters : List ((List Int) × Int) → Option (List ((List Int) × Int))) (w_clus_with : (List Int) × List Int → Option (List Int)) (w_clus_fitted : (List (List Int)) × (List Int) × Int → Option (List ((List Int) × Int))) (w_clus_replace : (List (List Int)) × (List ((List Int) × Int)) × Int × Int × List ((List Int) × Int) → Option (List ((List Int) × Int))) (N : Nat) : OrcT := orcOf [conw_clus_Of w_clus_Of, conw_clus_find w_clus_find, conw_twin_Clusters w_twin_Clusters, conw_clus_with w_clus_with, conw_clus_fitted w_clus_fitted, conw_clus_replace w_clus_replace]
noncomputable def F_clus_Join (w_clus_Of : (List (List Int)) × List Int → Option ((List Int) × Int)) (w_clus_find : (List ((List Int) × Int)) × Int → Option (Int ⊕ Unit)) (w_twin_Clusters : List ((List Int) × Int) → Option (List ((List Int) × Int))) (w_clus_with : (List Int) × List Int → Option (List Int)) (w_clus_fitted : (List (List Int)) × (List Int) × Int → Option (List ((List Int) × Int))) (w_clus_replace : (List (List Int)) × (List ((List Int) × Int)) × Int × Int × List ((List Int) × Int) → Option (List ((List Int) × Int))) (N : Nat) (x : (List (List Int)) × (List ((List Int) × Int)) × Int × Int × Int) : Option (List ((List Int) × Int)) :=
  (evT (G_clus_Join w_clus_Of w_clus_find w_twin_Clusters w_clus_with w_clus_fitted w_clus_replace N) L0 P0 []
    [(1000004, .reg [(5, [], ⟨[(32, .val .bool)], []⟩)])] N 400 (bodyOf Try.f19) ⟨57, slots 0 (argsOf as_clus_Join bs_clus_Join x), tabU (lbOf as_clus_Join bs_clus_Join x) [], []⟩).elim (kRet 57 pout_clus_Join (kpL []) (lbOf as_clus_Join bs_clus_Join x))
def out_clus_Join (y : List ((List Int) × Int)) : V × List OK × List OK := (valW (.list (.agg (.pair (.list (.int .i64)) (.int .i64)))) y, [], [])
noncomputable def V_clus_Join (w_clus_Of : (List (List Int)) × List Int → Option ((List Int) × Int)) (w_clus_find : (List ((List Int) × Int)) × Int → Option (Int ⊕ Unit)) (w_twin_Clusters : List ((List Int) × Int) → Option (List ((List Int) × Int))) (w_clus_with : (List Int) × List Int → Option (List Int)) (w_clus_fitted : (List (List Int)) × (List Int) × Int → Option (List ((List Int) × Int))) (w_clus_replace : (List (List Int)) × (List ((List Int) × Int)) × Int × Int × List ((List Int) × Int) → Option (List ((List Int) × Int))) (N : Nat) (x : (List (List Int)) × (List ((List Int) × Int)) × Int × Int × Int) : Option (List ((List Int) × Int)) :=
  cnd (decide ((↑(List.length x.2.1) : Int) = (0:Int))) (obind (w_clus_Of (x.1, [x.2.2.2.1])) fun b => some [b]) (obind (w_clus_find (x.2.1,
    x.2.2.2.1)) fun b => selim (fun (b : Int) => obind (w_twin_Clusters x.2.1) fun b => some b) (fun (c : PUnit) => cnd (decide (x.2.2.1 < (0:Int)))
    (obind (w_twin_Clusters x.2.1) fun b => some b) (cnd (decide ((↑(List.length x.2.1) : Int) ≤ x.2.2.1)) (obind (w_twin_Clusters x.2.1) fun b =>
    some b) (cnd (decide ((0:Int) ≤ x.2.2.1) && decide (x.2.2.1 < (↑(List.length x.2.1) : Int))) (obind (w_clus_with (Prod.fst (List.getD x.2.1
    (Int.toNat x.2.2.1) ([], (0:Int))), [x.2.2.2.1])) fun b => obind (w_clus_fitted (x.1, b, x.2.2.2.2)) fun b => obind (w_clus_replace (x.1, x.2.1,
    x.2.2.1, x.2.2.1, b)) fun b => some b) none))) b)
theorem FV_clus_Join_eq (w_clus_Of : (List (List Int)) × List Int → Option ((List Int) × Int)) (w_clus_find : (List ((List Int) × Int)) × Int → Option (Int ⊕ Unit)) (w_twin_Clusters : List ((List Int) × Int) → Option (List ((List Int) × Int))) (w_clus_with : (List Int) × List Int → Option (List Int)) (w_clus_fitted : (List (List Int)) × (List Int) × Int → Option (List ((List Int) × Int))) (w_clus_replace : (List (List Int)) × (List ((List Int) × Int)) × Int × Int × List ((List Int) × Int) → Option (List ((List Int) × Int))) (N : Nat) (x : (List (List Int)) × (List ((List Int) × Int)) × Int × Int × Int) : F_clus_Join w_clus_Of w_clus_find w_twin_Clusters w_clus_with w_clus_fitted w_clus_replace N x = V_clus_Join w_clus_Of w_clus_find w_twin_Clusters w_clus_with w_clus_fitted w_clus_replace N x := by kernel_rfl
noncomputable def W_clus_Join (N : Nat) (x : (List (List Int)) × (List ((List Int) × Int)) × Int × Int × Int) : Option (List ((List Int) × Int)) := V_clus_Join (W_clus_Of N) (W_clus_find N) (W_twin_Clusters N) (W_clus_with N) (W_clus_fitted N) (W_clus_replace N) N x
theorem F_clus_Join_eq (N : Nat) (x : (List (List Int)) × (List ((List Int) × Int)) × Int × Int × Int) : F_clus_Join (W_clus_Of N) (W_clus_find N) (W_twin_Clusters N) (W_clus_with N) (W_clus_fitted N) (W_clus_replace N) N x = W_clus_Join N x := (FV_clus_Join_eq (W_clus_Of N) (W_clus_find N) (W_twin_Clusters N) (W_clus_with N) (W_clus_fitted N) (W_clus_replace N) N x).trans (by kernel_rfl)
noncomputable def conw_clus_Join (w : (List (List Int)) × (List ((List Int) × Int)) × Int × Int × Int → Option (List ((List Int) × Int))) : Con := ⟨19, as_clus_Join, bs_clus_Join, List ((List Int) × Int), w, out_clus_Join⟩
noncomputable def con_clus_Join (N : Nat) : Con := conw_clus_Join (W_clus_Join N)
theorem R_clus_Join_eq (x : (List (List Int)) × (List ((List Int) × Int)) × Int × Int × Int) (y : List ((List Int) × Int)) : retOf2 P0 Try.f19 (kpL []) (lbOf as_clus_Join bs_clus_Join x) (patS ⟨57, [], [], []⟩ pout_clus_Join y) = some (out_clus_Join y) := by kernel_rfl
theorem con_clus_Join_ok (N : Nat) : Con.ok P0 (con_clus_Join N) := ⟨⟨Try.f19, Try.func19, by kernel_rfl, by kernel_rfl⟩, fun (x : (List (List Int)) × (List ((List Int) × Int)) × Int × Int × Int) (r : List ((List Int) × Int)) (hr : W_clus_Join N x = some r) =>
  spec2_evT (Γ := G_clus_Join (W_clus_Of N) (W_clus_find N) (W_twin_Clusters N) (W_clus_with N) (W_clus_fitted N) (W_clus_replace N) N) (Λ := L0) (pout := pout_clus_Join) (kp := kpL []) mixed (orcOf_ok _ (by simp only [List.mem_cons, List.not_mem_nil, or_false, forall_eq_or_imp, forall_eq]; exact ⟨con_clus_Of_ok N, con_clus_find_ok N, con_twin_Clusters_ok N, con_clus_with_ok N, con_clus_fitted_ok N, con_clus_replace_ok N⟩)) Try.func19 (c := bodyOf Try.f19) (by kernel_rfl) (by kernel_rfl) (of_decide_eq_true (by kernel_rfl)) ((F_clus_Join_eq N x).trans hr) (R_clus_Join_eq x r)⟩
def as_clus_nearest : List AS := [.val (.list (.list (.int .i64))), .val (.list (.agg (.pair (.list (.int .i64)) (.int .i64)))), .val (.int .i64), .val (.int .i64)]
def bs_clus_nearest : List BS := []
def pout_clus_nearest : Pat := ⟨[(8, .val (.alt 62 (.agg (.int .i64)) (.alt1 75 (.agg .unit))))], []⟩
noncomputable def G_clus_nearest (w_mid_Near : (List (List Int)) × Int × List Int → Option (Int)) (N : Nat) : OrcT := orcOf [conw_mid_Near w_mid_Near]
noncomputable def F_clus_nearest (w_mid_Near : (List (List Int)) × Int × List Int → Option (Int)) (N : Nat) (x : (List (List Int)) × (List ((List Int) × Int)) × Int × Int) : Option (Int ⊕ Unit) :=
  (evT (G_clus_nearest w_mid_Near N) L0 P0 [(3, .loop [15] ⟨[(9, .acc 700009), (17, .val (.int .i64))], [(700009, .nrow 3 (.int .i64) true true)]⟩ [(.exit 0, ⟨[(9, .val (.list (.int .i64)))], []⟩)]),
    (10, .loop [35] ⟨[(37, .val (.int .i64))], []⟩ [(.exit 2, ⟨[], []⟩), (.ret, ⟨[(8, .val (.alt 62 (.agg (.int .i64)) (.alt1 75 (.agg .unit))))], []⟩)])]
    [] N 400 (bodyOf Try.f43) ⟨57, slots 0 (argsOf as_clus_nearest bs_clus_nearest x), tabU (lbOf as_clus_nearest bs_clus_nearest x) [], []⟩).elim (kRet 57 pout_clus_nearest (kpL []) (lbOf as_clus_nearest bs_clus_nearest x))
def out_clus_nearest (y : Int ⊕ Unit) : V × List OK × List OK := (valW (.alt 62 (.agg (.int .i64)) (.alt1 75 (.agg .unit))) y, [], [])
noncomputable def V_clus_nearest (w_mid_Near : (List (List Int)) × Int × List Int → Option (Int)) (N : Nat) (x : (List (List Int)) × (List ((List Int) × Int)) × Int × Int) : Option (Int ⊕ Unit) :=
  obind (loopN N (fun (v : Int × List Int) => cnd (decide (v.1 < (↑(List.length x.2.1) : Int))) (cnd (decide ((0:Int) ≤ v.1) && decide (v.1 <
    (↑(List.length x.2.1) : Int))) (cnd (decide (v.1 ≠ x.2.2.1)) (cnd (decide ((List.length v.2 + (1:Nat)) * (8:Nat) ≤ (140737488355328:Nat))) (some
    (Sum.inl (wr .i64 (v.1 + (1:Int)), v.2 ++ [Prod.snd (List.getD x.2.1 (Int.toNat v.1) ([], (0:Int)))]))) none) (some (Sum.inl (wr .i64 (v.1 +
    (1:Int)), v.2)))) none) (some (Sum.inr v.2))) ((0:Int), [])) fun (b : List Int) => obind (w_mid_Near (x.1, x.2.2.2, b)) fun b => obind (loopN N
    (fun (v : Int) => cnd (decide (v < (↑(List.length x.2.1) : Int))) (cnd (decide ((0:Int) ≤ v) && decide (v < (↑(List.length x.2.1) : Int))) (cnd
    (decide (v ≠ x.2.2.1)) (cnd (decide (Prod.snd (List.getD x.2.1 (Int.toNat v) ([], (0:Int))) = b)) (some (Sum.inr (Sum.inr (Sum.inl v)))) (some
    (Sum.inl (wr .i64 (v + (1:Int)))))) (some (Sum.inl (wr .i64 (v + (1:Int)))))) none) (some (Sum.inr (Sum.inl ())))) (Int.ofNat (0:Nat))) fun (b :
    PUnit ⊕ Int ⊕ PUnit) => selim (fun (b : PUnit) => some (Sum.inr ())) (fun (c : Int ⊕ PUnit) => some c) b
theorem FV_clus_nearest_eq (w_mid_Near : (List (List Int)) × Int × List Int → Option (Int)) (N : Nat) (x : (List (List Int)) × (List ((List Int) × Int)) × Int × Int) : F_clus_nearest w_mid_Near N x = V_clus_nearest w_mid_Near N x := by kernel_rfl
noncomputable def W_clus_nearest (N : Nat) (x : (List (List Int)) × (List ((List Int) × Int)) × Int × Int) : Option (Int ⊕ Unit) := V_clus_nearest (W_mid_Near N) N x
theorem F_clus_nearest_eq (N : Nat) (x : (List (List Int)) × (List ((List Int) × Int)) × Int × Int) : F_clus_nearest (W_mid_Near N) N x = W_clus_nearest N x := (FV_clus_nearest_eq (W_mid_Near N) N x).trans (by kernel_rfl)
noncomputable def conw_clus_nearest (w : (List (List Int)) × (List ((List Int) × Int)) × Int × Int → Option (Int ⊕ Unit)) : Con := ⟨43, as_clus_nearest, bs_clus_nearest, Int ⊕ Unit, w, out_clus_nearest⟩
noncomputable def con_clus_nearest (N : Nat) : Con := conw_clus_nearest (W_clus_nearest N)
theorem R_clus_nearest_eq (x : (List (List Int)) × (List ((List Int) × Int)) × Int × Int) (y : Int ⊕ Unit) : retOf2 P0 Try.f43 (kpL []) (lbOf as_clus_nearest bs_clus_nearest x) (patS ⟨57, [], [], []⟩ pout_clus_nearest y) = some (out_clus_nearest y) := by kernel_rfl
theorem con_clus_nearest_ok (N : Nat) : Con.ok P0 (con_clus_nearest N) := ⟨⟨Try.f43, Try.func43, by kernel_rfl, by kernel_rfl⟩, fun (x : (List (List Int)) × (List ((List Int) × Int)) × Int × Int) (r : Int ⊕ Unit) (hr : W_clus_nearest N x = some r) =>
  spec2_evT (Γ := G_clus_nearest (W_mid_Near N) N) (Λ := L0) (pout := pout_clus_nearest) (kp := kpL []) mixed (orcOf_ok _ (by simp only [List.mem_cons, List.not_mem_nil, or_false, forall_eq_or_imp, forall_eq]; exact con_mid_Near_ok N)) Try.func43 (c := bodyOf Try.f43) (by kernel_rfl) (by kernel_rfl) (of_decide_eq_true (by kernel_rfl)) ((F_clus_nearest_eq N x).trans hr) (R_clus_nearest_eq x r)⟩
def as_clus_Leave : List AS := [.val (.list (.list (.int .i64))), .val (.list (.agg (.pair (.list (.int .i64)) (.int .i64)))), .val (.int .i64), .val (.int .i64)]
def bs_clus_Leave : List BS := []
def pout_clus_Leave : Pat := ⟨[(8, .val (.list (.agg (.pair (.list (.int .i64)) (.int .i64)))))], []⟩
noncomputable def G_clus_Leave (w_clus_find : (List ((List Int) × Int)) × Int → Option (Int ⊕ Unit)) (w_twin_Clusters : List ((List Int) × Int) → Option (List ((List Int) × Int))) (w_clus_without : (List Int) × Int → Option (List Int)) (w_clus_replace : (List (List Int)) × (List ((List Int) × Int)) × Int × Int × List ((List Int) × Int) → Option (List ((List Int) × Int))) (w_mid_Mid : (List (List Int)) × List Int → Option (Int)) (w_clus_nearest : (List (List Int)) × (List ((List Int) × Int)) × Int × Int → Option (Int ⊕ Unit)) (w_clus_Of : (List (List Int)) × List Int → Option ((List Int) × Int)) (w_clus_with : (List Int) × List Int → Option (List Int)) (w_clus_fitted : (List (List Int)) × (List Int) × Int → Option (List ((List Int) × Int))) (N : Nat) : OrcT := orcOf [conw_clus_find w_clus_find, conw_twin_Clusters w_twin_Clusters, conw_clus_without w_clus_without, conw_clus_replace w_clus_replace, conw_mid_Mid w_mid_Mid, conw_clus_nearest w_clus_nearest, conw_clus_Of w_clus_Of, conw_clus_with w_clus_with, conw_clus_fitted w_clus_fitted]
noncomputable def F_clus_Leave (w_clus_find : (List ((List Int) × Int)) × Int → Option (Int ⊕ Unit)) (w_twin_Clusters : List ((List Int) × Int) → Option (List ((List Int) × Int))) (w_clus_without : (List Int) × Int → Option (List Int)) (w_clus_replace : (List (List Int)) × (List ((List Int) × Int)) × Int × Int × List ((List Int) × Int) → Option (List ((List Int) × Int))) (w_mid_Mid : (List (List Int)) × List Int → Option (Int)) (w_clus_nearest : (List (List Int)) × (List ((List Int) × Int)) × Int × Int → Option (Int ⊕ Unit)) (w_clus_Of : (List (List Int)) × List Int → Option ((List Int) × Int)) (w_clus_with : (List Int) × List Int → Option (List Int)) (w_clus_fitted : (List (List Int)) × (List Int) × Int → Option (List ((List Int) × Int))) (N : Nat) (x : (List (List Int)) × (List ((List Int) × Int)) × Int × Int) : Option (List ((List Int) × Int)) :=
  (evT (G_clus_Leave w_clus_find w_twin_Clusters w_clus_without w_clus_replace w_mid_Mid w_clus_nearest w_clus_Of w_clus_with w_clus_fitted N) L0 P0 []
    [] N 400 (bodyOf Try.f21) ⟨91, slots 0 (argsOf as_clus_Leave bs_clus_Leave x), tabU (lbOf as_clus_Leave bs_clus_Leave x) [], []⟩).elim (kRet 91 pout_clus_Leave (kpL []) (lbOf as_clus_Leave bs_clus_Leave x))
def out_clus_Leave (y : List ((List Int) × Int)) : V × List OK × List OK := (valW (.list (.agg (.pair (.list (.int .i64)) (.int .i64)))) y, [], [])
noncomputable def V_clus_Leave (w_clus_find : (List ((List Int) × Int)) × Int → Option (Int ⊕ Unit)) (w_twin_Clusters : List ((List Int) × Int) → Option (List ((List Int) × Int))) (w_clus_without : (List Int) × Int → Option (List Int)) (w_clus_replace : (List (List Int)) × (List ((List Int) × Int)) × Int × Int × List ((List Int) × Int) → Option (List ((List Int) × Int))) (w_mid_Mid : (List (List Int)) × List Int → Option (Int)) (w_clus_nearest : (List (List Int)) × (List ((List Int) × Int)) × Int × Int → Option (Int ⊕ Unit)) (w_clus_Of : (List (List Int)) × List Int → Option ((List Int) × Int)) (w_clus_with : (List Int) × List Int → Option (List Int)) (w_clus_fitted : (List (List Int)) × (List Int) × Int → Option (List ((List Int) × Int))) (N : Nat) (x : (List (List Int)) × (List ((List Int) × Int)) × Int × Int) : Option (List ((List Int) × Int)) :=
  obind (w_clus_find (x.2.1, x.2.2.1)) fun b => selim (fun (b : Int) => cnd (decide ((0:Int) ≤ b) && decide (b < (↑(List.length x.2.1) : Int))) (obind
    (w_clus_without (Prod.fst (List.getD x.2.1 (Int.toNat b) ([], (0:Int))), x.2.2.1)) fun b_1 => cnd (decide ((↑(List.length b_1) : Int) = (0:Int)))
    (obind (w_clus_replace (x.1, x.2.1, b, b, [])) fun b => some b) (obind (w_mid_Mid (x.1, b_1)) fun b_2 => obind (w_clus_nearest (x.1, x.2.1, b,
    b_2)) fun b => none)) none) (fun (c : PUnit) => obind (w_twin_Clusters x.2.1) fun b => some b) b
theorem FV_clus_Leave_eq (w_clus_find : (List ((List Int) × Int)) × Int → Option (Int ⊕ Unit)) (w_twin_Clusters : List ((List Int) × Int) → Option (List ((List Int) × Int))) (w_clus_without : (List Int) × Int → Option (List Int)) (w_clus_replace : (List (List Int)) × (List ((List Int) × Int)) × Int × Int × List ((List Int) × Int) → Option (List ((List Int) × Int))) (w_mid_Mid : (List (List Int)) × List Int → Option (Int)) (w_clus_nearest : (List (List Int)) × (List ((List Int) × Int)) × Int × Int → Option (Int ⊕ Unit)) (w_clus_Of : (List (List Int)) × List Int → Option ((List Int) × Int)) (w_clus_with : (List Int) × List Int → Option (List Int)) (w_clus_fitted : (List (List Int)) × (List Int) × Int → Option (List ((List Int) × Int))) (N : Nat) (x : (List (List Int)) × (List ((List Int) × Int)) × Int × Int) : F_clus_Leave w_clus_find w_twin_Clusters w_clus_without w_clus_replace w_mid_Mid w_clus_nearest w_clus_Of w_clus_with w_clus_fitted N x = V_clus_Leave w_clus_find w_twin_Clusters w_clus_without w_clus_replace w_mid_Mid w_clus_nearest w_clus_Of w_clus_with w_clus_fitted N x := by kernel_rfl
noncomputable def W_clus_Leave (N : Nat) (x : (List (List Int)) × (List ((List Int) × Int)) × Int × Int) : Option (List ((List Int) × Int)) := V_clus_Leave (W_clus_find N) (W_twin_Clusters N) (W_clus_without N) (W_clus_replace N) (W_mid_Mid N) (W_clus_nearest N) (W_clus_Of N) (W_clus_with N) (W_clus_fitted N) N x
theorem F_clus_Leave_eq (N : Nat) (x : (List (List Int)) × (List ((List Int) × Int)) × Int × Int) : F_clus_Leave (W_clus_find N) (W_twin_Clusters N) (W_clus_without N) (W_clus_replace N) (W_mid_Mid N) (W_clus_nearest N) (W_clus_Of N) (W_clus_with N) (W_clus_fitted N) N x = W_clus_Leave N x := (FV_clus_Leave_eq (W_clus_find N) (W_twin_Clusters N) (W_clus_without N) (W_clus_replace N) (W_mid_Mid N) (W_clus_nearest N) (W_clus_Of N) (W_clus_with N) (W_clus_fitted N) N x).trans (by kernel_rfl)
noncomputable def conw_clus_Leave (w : (List (List Int)) × (List ((List Int) × Int)) × Int × Int → Option (List ((List Int) × Int))) : Con := ⟨21, as_clus_Leave, bs_clus_Leave, List ((List Int) × Int), w, out_clus_Leave⟩
noncomputable def con_clus_Leave (N : Nat) : Con := conw_clus_Leave (W_clus_Leave N)
theorem R_clus_Leave_eq (x : (List (List Int)) × (List ((List Int) × Int)) × Int × Int) (y : List ((List Int) × Int)) : retOf2 P0 Try.f21 (kpL []) (lbOf as_clus_Leave bs_clus_Leave x) (patS ⟨91, [], [], []⟩ pout_clus_Leave y) = some (out_clus_Leave y) := by kernel_rfl
theorem con_clus_Leave_ok (N : Nat) : Con.ok P0 (con_clus_Leave N) := ⟨⟨Try.f21, Try.func21, by kernel_rfl, by kernel_rfl⟩, fun (x : (List (List Int)) × (List ((List Int) × Int)) × Int × Int) (r : List ((List Int) × Int)) (hr : W_clus_Leave N x = some r) =>
  spec2_evT (Γ := G_clus_Leave (W_clus_find N) (W_twin_Clusters N) (W_clus_without N) (W_clus_replace N) (W_mid_Mid N) (W_clus_nearest N) (W_clus_Of N) (W_clus_with N) (W_clus_fitted N) N) (Λ := L0) (pout := pout_clus_Leave) (kp := kpL []) mixed (orcOf_ok _ (by simp only [List.mem_cons, List.not_mem_nil, or_false, forall_eq_or_imp, forall_eq]; exact ⟨con_clus_find_ok N, con_twin_Clusters_ok N, con_clus_without_ok N, con_clus_replace_ok N, con_mid_Mid_ok N, con_clus_nearest_ok N, con_clus_Of_ok N, con_clus_with_ok N, con_clus_fitted_ok N⟩)) Try.func21 (c := bodyOf Try.f21) (by kernel_rfl) (by kernel_rfl) (of_decide_eq_true (by kernel_rfl)) ((F_clus_Leave_eq N x).trans hr) (R_clus_Leave_eq x r)⟩
def as_law8_begun : List AS := []
def bs_law8_begun : List BS := []
def pout_law8_begun : Pat := ⟨[(0, .val .bool)], []⟩
noncomputable def G_law8_begun (w_Made : List Int → Option ((List Int) × Int)) (w_Picks_Dist : (List Int) × Int → Option ((List (List Int)) × (List Int) × Int)) (w_clus_Split : (List (List Int)) × (List Int) × Int → Option ((List Int) × List Int)) (w_clus_Group : (List (List Int)) × (List Int) × Int → Option (List ((List Int) × Int))) (w_clus_Join : (List (List Int)) × (List ((List Int) × Int)) × Int × Int × Int → Option (List ((List Int) × Int))) (w_clus_Leave : (List (List Int)) × (List ((List Int) × Int)) × Int × Int → Option (List ((List Int) × Int))) (w_clus_Of : (List (List Int)) × List Int → Option ((List Int) × Int)) (N : Nat) : OrcT := orcOf [conw_Made w_Made, conw_Picks_Dist w_Picks_Dist, conw_clus_Split w_clus_Split, conw_clus_Group w_clus_Group, conw_clus_Join w_clus_Join, conw_clus_Leave w_clus_Leave, conw_clus_Of w_clus_Of]
noncomputable def F_law8_begun (w_Made : List Int → Option ((List Int) × Int)) (w_Picks_Dist : (List Int) × Int → Option ((List (List Int)) × (List Int) × Int)) (w_clus_Split : (List (List Int)) × (List Int) × Int → Option ((List Int) × List Int)) (w_clus_Group : (List (List Int)) × (List Int) × Int → Option (List ((List Int) × Int))) (w_clus_Join : (List (List Int)) × (List ((List Int) × Int)) × Int × Int × Int → Option (List ((List Int) × Int))) (w_clus_Leave : (List (List Int)) × (List ((List Int) × Int)) × Int × Int → Option (List ((List Int) × Int))) (w_clus_Of : (List (List Int)) × List Int → Option ((List Int) × Int)) (N : Nat) (x : Unit) : Option (Bool) :=
  (evT (G_law8_begun w_Made w_Picks_Dist w_clus_Split w_clus_Group w_clus_Join w_clus_Leave w_clus_Of N) L0 P0 []
    [(1000006, .reg [(8, [1, 4, 5, 6], ⟨[(30, .val .bool)], []⟩), (5, [1, 5, 6], ⟨[(35, .val .bool)], []⟩), (5, [1, 5, 6], ⟨[(40, .val .bool)], []⟩), (7, [1, 6], ⟨[(47, .val .bool)], []⟩), (5, [1], ⟨[(52, .val .bool)], []⟩)])] N 400 (bodyOf Try.f7) ⟨60, slots 0 (argsOf as_law8_begun bs_law8_begun x), tabU (lbOf as_law8_begun bs_law8_begun x) [], []⟩).elim (kRet 60 pout_law8_begun (kpL []) (lbOf as_law8_begun bs_law8_begun x))
def out_law8_begun (y : Bool) : V × List OK × List OK := (valW .bool y, [], [])
noncomputable def V_law8_begun (w_Made : List Int → Option ((List Int) × Int)) (w_Picks_Dist : (List Int) × Int → Option ((List (List Int)) × (List Int) × Int)) (w_clus_Split : (List (List Int)) × (List Int) × Int → Option ((List Int) × List Int)) (w_clus_Group : (List (List Int)) × (List Int) × Int → Option (List ((List Int) × Int))) (w_clus_Join : (List (List Int)) × (List ((List Int) × Int)) × Int × Int × Int → Option (List ((List Int) × Int))) (w_clus_Leave : (List (List Int)) × (List ((List Int) × Int)) × Int × Int → Option (List ((List Int) × Int))) (w_clus_Of : (List (List Int)) × List Int → Option ((List Int) × Int)) (N : Nat) (x : Unit) : Option (Bool) :=
  obind (w_Made []) fun b => obind (w_Picks_Dist b) fun b => obind (w_clus_Split (b.1, [(1:Int), (2:Int), (3:Int)], (1:Int))) fun b_1 => obind
    (w_clus_Group (b.1, [(1:Int), (2:Int), (3:Int)], (1:Int))) fun b_2 => obind (w_clus_Join (b.1, [], (0:Int), (5:Int), (2:Int))) fun b_3 => obind
    (w_clus_Leave (b.1, b_3, (5:Int), (2:Int))) fun b_4 => obind (cnd (decide ((↑(List.length b_1.1) : Int) = (2:Int))) (some (decide ((↑(List.length
    b_1.2) : Int) = (1:Int)))) (some false)) fun (b_5 : Bool) => obind (cnd b_5 (some (decide ((↑(List.length b_2) : Int) = (2:Int)))) (some false)) fun
    (b_6 : Bool) => obind (cnd b_6 (some (decide ((↑(List.length b_3) : Int) = (1:Int)))) (some false)) fun (b_7 : Bool) => obind (cnd b_7 (cnd (decide
    ((0:Int) ≤ (0:Int)) && decide ((0:Int) < (↑(List.length b_3) : Int))) (some (decide (Prod.snd (List.getD b_3 (0:Nat) ([], (0:Int))) = (5:Int))))
    none) (some false)) fun (b_8 : Bool) => obind (cnd b_8 (some (decide ((↑(List.length b_4) : Int) = (0:Int)))) (some false)) fun (b_9 : Bool) => cnd
    b_9 (obind (w_clus_Of (b.1, [(4:Int)])) fun b => some (decide (b.2 = (4:Int)))) (some false)
theorem FV_law8_begun_eq (w_Made : List Int → Option ((List Int) × Int)) (w_Picks_Dist : (List Int) × Int → Option ((List (List Int)) × (List Int) × Int)) (w_clus_Split : (List (List Int)) × (List Int) × Int → Option ((List Int) × List Int)) (w_clus_Group : (List (List Int)) × (List Int) × Int → Option (List ((List Int) × Int))) (w_clus_Join : (List (List Int)) × (List ((List Int) × Int)) × Int × Int × Int → Option (List ((List Int) × Int))) (w_clus_Leave : (List (List Int)) × (List ((List Int) × Int)) × Int × Int → Option (List ((List Int) × Int))) (w_clus_Of : (List (List Int)) × List Int → Option ((List Int) × Int)) (N : Nat) (x : Unit) : F_law8_begun w_Made w_Picks_Dist w_clus_Split w_clus_Group w_clus_Join w_clus_Leave w_clus_Of N x = V_law8_begun w_Made w_Picks_Dist w_clus_Split w_clus_Group w_clus_Join w_clus_Leave w_clus_Of N x := by kernel_rfl
noncomputable def W_law8_begun (N : Nat) (x : Unit) : Option (Bool) := V_law8_begun (W_Made N) (W_Picks_Dist N) (W_clus_Split N) (W_clus_Group N) (W_clus_Join N) (W_clus_Leave N) (W_clus_Of N) N x
theorem F_law8_begun_eq (N : Nat) (x : Unit) : F_law8_begun (W_Made N) (W_Picks_Dist N) (W_clus_Split N) (W_clus_Group N) (W_clus_Join N) (W_clus_Leave N) (W_clus_Of N) N x = W_law8_begun N x := (FV_law8_begun_eq (W_Made N) (W_Picks_Dist N) (W_clus_Split N) (W_clus_Group N) (W_clus_Join N) (W_clus_Leave N) (W_clus_Of N) N x).trans (by kernel_rfl)
noncomputable def conw_law8_begun (w : Unit → Option (Bool)) : Con := ⟨7, as_law8_begun, bs_law8_begun, Bool, w, out_law8_begun⟩
noncomputable def con_law8_begun (N : Nat) : Con := conw_law8_begun (W_law8_begun N)
theorem R_law8_begun_eq (x : Unit) (y : Bool) : retOf2 P0 Try.f7 (kpL []) (lbOf as_law8_begun bs_law8_begun x) (patS ⟨60, [], [], []⟩ pout_law8_begun y) = some (out_law8_begun y) := by kernel_rfl
theorem con_law8_begun_ok (N : Nat) : Con.ok P0 (con_law8_begun N) := ⟨⟨Try.f7, Try.func7, by kernel_rfl, by kernel_rfl⟩, fun (x : Unit) (r : Bool) (hr : W_law8_begun N x = some r) =>
  spec2_evT (Γ := G_law8_begun (W_Made N) (W_Picks_Dist N) (W_clus_Split N) (W_clus_Group N) (W_clus_Join N) (W_clus_Leave N) (W_clus_Of N) N) (Λ := L0) (pout := pout_law8_begun) (kp := kpL []) mixed (orcOf_ok _ (by simp only [List.mem_cons, List.not_mem_nil, or_false, forall_eq_or_imp, forall_eq]; exact ⟨con_Made_ok N, con_Picks_Dist_ok N, con_clus_Split_ok N, con_clus_Group_ok N, con_clus_Join_ok N, con_clus_Leave_ok N, con_clus_Of_ok N⟩)) Try.func7 (c := bodyOf Try.f7) (by kernel_rfl) (by kernel_rfl) (of_decide_eq_true (by kernel_rfl)) ((F_law8_begun_eq N x).trans hr) (R_law8_begun_eq x r)⟩
def as_Picks_Some : List AS := [.ptr 0 0, .val (.int .i64)]
def bs_Picks_Some : List BS := [.box 53 (.pair (.list (.int .u8)) (.int .i64))]
def pout_Picks_Some : Pat := ⟨[(0, .ptr 1000000 0), (4, .val (.list (.int .i64)))], [(1000000, .box 53 (.val (.pair (.list (.int .u8)) (.int .i64))))]⟩
noncomputable def G_Picks_Some (w_Picks_Num : Int × (List Int) × Int → Option (Int × (List Int) × Int)) (N : Nat) : OrcT := orcOf [conw_Picks_Num w_Picks_Num]
noncomputable def F_Picks_Some (w_Picks_Num : Int × (List Int) × Int → Option (Int × (List Int) × Int)) (N : Nat) (x : Int × (List Int) × Int) : Option ((List Int) × (List Int) × Int) :=
  (evT (G_Picks_Some w_Picks_Num N) L0 P0 [(3, .loop [] ⟨[(0, .ptr 1000000 0), (5, .acc 700005), (6, .val (.int .i64))], [(1000000, .box 53 (.val (.pair (.list (.int .u8)) (.int .i64)))), (700005, .nrow 3 (.int .i64) true true)]⟩ [(.exit 0, ⟨[(0, .ptr 1000000 0), (5, .val (.list (.int .i64)))], [(1000000, .box 53 (.val (.pair (.list (.int .u8)) (.int .i64))))]⟩)])]
    [] N 400 (bodyOf Try.f10) ⟨28, slots 0 (argsOf as_Picks_Some bs_Picks_Some x), tabU (lbOf as_Picks_Some bs_Picks_Some x) [], []⟩).elim (kRet 28 pout_Picks_Some (kpL [true]) (lbOf as_Picks_Some bs_Picks_Some x))
def out_Picks_Some (y : (List Int) × (List Int) × Int) : V × List OK × List OK := (valW (.list (.int .i64)) y.1, [.box 53 (cellsW (.pair (.list (.int .u8)) (.int .i64)) y.2)], [])
noncomputable def V_Picks_Some (w_Picks_Num : Int × (List Int) × Int → Option (Int × (List Int) × Int)) (N : Nat) (x : Int × (List Int) × Int) : Option ((List Int) × (List Int) × Int) :=
  obind (loopN N (fun (v : Int × (List Int × Int) × List Int) => cnd (decide (v.1 ≤ (8:Int))) (obind (w_Picks_Num ((2:Int), v.2.1)) fun b => cnd
    (decide (b.1 = (0:Int))) (cnd (decide ((List.length v.2.2 + List.length [v.1]) * (8:Nat) ≤ (140737488355328:Nat))) (some (Sum.inl (wr .i64 (v.1 +
    (1:Int)), b.2, v.2.2 ++ [v.1]))) none) (cnd (decide (wr .i64 ((8:Int) - v.1) < wr .i64 (x.1 - (↑(List.length v.2.2) : Int)))) (cnd (decide
    ((List.length v.2.2 + List.length [v.1]) * (8:Nat) ≤ (140737488355328:Nat))) (some (Sum.inl (wr .i64 (v.1 + (1:Int)), b.2, v.2.2 ++ [v.1]))) none)
    (some (Sum.inl (wr .i64 (v.1 + (1:Int)), b.2, v.2.2))))) (some (Sum.inr (v.2.2, v.2.1)))) ((1:Int), x.2, [])) fun (b : List Int × List Int × Int) =>
    some b
theorem FV_Picks_Some_eq (w_Picks_Num : Int × (List Int) × Int → Option (Int × (List Int) × Int)) (N : Nat) (x : Int × (List Int) × Int) : F_Picks_Some w_Picks_Num N x = V_Picks_Some w_Picks_Num N x := by kernel_rfl
noncomputable def W_Picks_Some (N : Nat) (x : Int × (List Int) × Int) : Option ((List Int) × (List Int) × Int) := V_Picks_Some (W_Picks_Num N) N x
theorem F_Picks_Some_eq (N : Nat) (x : Int × (List Int) × Int) : F_Picks_Some (W_Picks_Num N) N x = W_Picks_Some N x := (FV_Picks_Some_eq (W_Picks_Num N) N x).trans (by kernel_rfl)
noncomputable def conw_Picks_Some (w : Int × (List Int) × Int → Option ((List Int) × (List Int) × Int)) : Con := ⟨10, as_Picks_Some, bs_Picks_Some, (List Int) × (List Int) × Int, w, out_Picks_Some⟩
noncomputable def con_Picks_Some (N : Nat) : Con := conw_Picks_Some (W_Picks_Some N)
theorem R_Picks_Some_eq (x : Int × (List Int) × Int) (y : (List Int) × (List Int) × Int) : retOf2 P0 Try.f10 (kpL [true]) (lbOf as_Picks_Some bs_Picks_Some x) (patS ⟨28, [], [], []⟩ pout_Picks_Some y) = some (out_Picks_Some y) := by kernel_rfl
theorem con_Picks_Some_ok (N : Nat) : Con.ok P0 (con_Picks_Some N) := ⟨⟨Try.f10, Try.func10, by kernel_rfl, by kernel_rfl⟩, fun (x : Int × (List Int) × Int) (r : (List Int) × (List Int) × Int) (hr : W_Picks_Some N x = some r) =>
  spec2_evT (Γ := G_Picks_Some (W_Picks_Num N) N) (Λ := L0) (pout := pout_Picks_Some) (kp := kpL [true]) mixed (orcOf_ok _ (by simp only [List.mem_cons, List.not_mem_nil, or_false, forall_eq_or_imp, forall_eq]; exact con_Picks_Num_ok N)) Try.func10 (c := bodyOf Try.f10) (by kernel_rfl) (by kernel_rfl) (of_decide_eq_true (by kernel_rfl)) ((F_Picks_Some_eq N x).trans hr) (R_Picks_Some_eq x r)⟩
def as_ref1_Has : List AS := [.val (.list (.int .i64)), .val (.int .i64)]
def bs_ref1_Has : List BS := []
def pout_ref1_Has : Pat := ⟨[(4, .val .bool)], []⟩
noncomputable def G_ref1_Has  (N : Nat) : OrcT := orcOf []
noncomputable def F_ref1_Has  (N : Nat) (x : (List Int) × Int) : Option (Bool) :=
  (evT (G_ref1_Has  N) L0 P0 [(2, .loop [] ⟨[(5, .val (.int .i64))], []⟩ [(.exit 0, ⟨[], []⟩), (.ret, ⟨[(4, .val .bool)], []⟩)])]
    [] N 400 (bodyOf Try.f26) ⟨18, slots 0 (argsOf as_ref1_Has bs_ref1_Has x), tabU (lbOf as_ref1_Has bs_ref1_Has x) [], []⟩).elim (kRet 18 pout_ref1_Has (kpL []) (lbOf as_ref1_Has bs_ref1_Has x))
def out_ref1_Has (y : Bool) : V × List OK × List OK := (valW .bool y, [], [])
noncomputable def V_ref1_Has  (N : Nat) (x : (List Int) × Int) : Option (Bool) :=
  obind (loopN N (fun (v : Int) => cnd (decide (v < (↑(List.length x.1) : Int))) (cnd (decide ((0:Int) ≤ v) && decide (v < (↑(List.length x.1) : Int)))
    (cnd (decide (List.getD x.1 (Int.toNat v) (0:Int) = x.2)) (some (Sum.inr (Sum.inr true))) (some (Sum.inl (wr .i64 (v + (1:Int)))))) none) (some
    (Sum.inr (Sum.inl ())))) (Int.ofNat (0:Nat))) fun (b : PUnit ⊕ Bool) => selim (fun (b : PUnit) => some false) (fun (c : Bool) => some c) b
theorem FV_ref1_Has_eq  (N : Nat) (x : (List Int) × Int) : F_ref1_Has  N x = V_ref1_Has  N x := by kernel_rfl
noncomputable def W_ref1_Has (N : Nat) (x : (List Int) × Int) : Option (Bool) := V_ref1_Has  N x
theorem F_ref1_Has_eq (N : Nat) (x : (List Int) × Int) : F_ref1_Has  N x = W_ref1_Has N x := (FV_ref1_Has_eq  N x).trans (by kernel_rfl)
noncomputable def conw_ref1_Has (w : (List Int) × Int → Option (Bool)) : Con := ⟨26, as_ref1_Has, bs_ref1_Has, Bool, w, out_ref1_Has⟩
noncomputable def con_ref1_Has (N : Nat) : Con := conw_ref1_Has (W_ref1_Has N)
theorem R_ref1_Has_eq (x : (List Int) × Int) (y : Bool) : retOf2 P0 Try.f26 (kpL []) (lbOf as_ref1_Has bs_ref1_Has x) (patS ⟨18, [], [], []⟩ pout_ref1_Has y) = some (out_ref1_Has y) := by kernel_rfl
theorem con_ref1_Has_ok (N : Nat) : Con.ok P0 (con_ref1_Has N) := ⟨⟨Try.f26, Try.func26, by kernel_rfl, by kernel_rfl⟩, fun (x : (List Int) × Int) (r : Bool) (hr : W_ref1_Has N x = some r) =>
  spec2_evT (Γ := G_ref1_Has N) (Λ := L0) (pout := pout_ref1_Has) (kp := kpL []) mixed (orcOf_ok [] (by simp)) Try.func26 (c := bodyOf Try.f26) (by kernel_rfl) (by kernel_rfl) (of_decide_eq_true (by kernel_rfl)) ((F_ref1_Has_eq N x).trans hr) (R_ref1_Has_eq x r)⟩
def as_ref7_Far : List AS := [.val (.list (.list (.int .i64))), .val (.int .i64), .val (.list (.int .i64))]
def bs_ref7_Far : List BS := []
def pout_ref7_Far : Pat := ⟨[(6, .val (.int .i64))], []⟩
noncomputable def G_ref7_Far  (N : Nat) : OrcT := orcOf []
noncomputable def F_ref7_Far  (N : Nat) (x : (List (List Int)) × Int × List Int) : Option (Int) :=
  (evT (G_ref7_Far  N) L0 P0 [(3, .loop [] ⟨[(7, .val (.int .i64)), (8, .val (.int .i64))], []⟩ [(.exit 0, ⟨[(7, .val (.int .i64))], []⟩)])]
    [] N 400 (bodyOf Try.f44) ⟨30, slots 0 (argsOf as_ref7_Far bs_ref7_Far x), tabU (lbOf as_ref7_Far bs_ref7_Far x) [], []⟩).elim (kRet 30 pout_ref7_Far (kpL []) (lbOf as_ref7_Far bs_ref7_Far x))
def out_ref7_Far (y : Int) : V × List OK × List OK := (valW (.int .i64) y, [], [])
noncomputable def V_ref7_Far  (N : Nat) (x : (List (List Int)) × Int × List Int) : Option (Int) :=
  obind (loopN N (fun (v : Int × Int) => cnd (decide (v.2 < (↑(List.length x.2.2) : Int))) (cnd (decide ((0:Int) ≤ wr .i64 (x.2.1 - (1:Int))) && decide
    (wr .i64 (x.2.1 - (1:Int)) < (↑(List.length x.1) : Int))) (cnd (decide ((0:Int) ≤ v.2) && decide (v.2 < (↑(List.length x.2.2) : Int))) (cnd (decide
    ((0:Int) ≤ wr .i64 (List.getD x.2.2 (Int.toNat v.2) (0:Int) - (1:Int))) && decide (wr .i64 (List.getD x.2.2 (Int.toNat v.2) (0:Int) - (1:Int)) <
    (↑(List.length (List.getD x.1 (Int.toNat (wr .i64 (x.2.1 - (1:Int)))) [])) : Int))) (some (Sum.inl (max v.1 (List.getD (List.getD x.1 (Int.toNat (wr
    .i64 (x.2.1 - (1:Int)))) []) (Int.toNat (wr .i64 (List.getD x.2.2 (Int.toNat v.2) (0:Int) - (1:Int)))) (0:Int)), wr .i64 (v.2 + (1:Int))))) none)
    none) none) (some (Sum.inr v.1))) ((0:Int), (0:Int))) fun (b : Int) => some b
theorem FV_ref7_Far_eq  (N : Nat) (x : (List (List Int)) × Int × List Int) : F_ref7_Far  N x = V_ref7_Far  N x := by kernel_rfl
noncomputable def W_ref7_Far (N : Nat) (x : (List (List Int)) × Int × List Int) : Option (Int) := V_ref7_Far  N x
theorem F_ref7_Far_eq (N : Nat) (x : (List (List Int)) × Int × List Int) : F_ref7_Far  N x = W_ref7_Far N x := (FV_ref7_Far_eq  N x).trans (by kernel_rfl)
noncomputable def conw_ref7_Far (w : (List (List Int)) × Int × List Int → Option (Int)) : Con := ⟨44, as_ref7_Far, bs_ref7_Far, Int, w, out_ref7_Far⟩
noncomputable def con_ref7_Far (N : Nat) : Con := conw_ref7_Far (W_ref7_Far N)
theorem R_ref7_Far_eq (x : (List (List Int)) × Int × List Int) (y : Int) : retOf2 P0 Try.f44 (kpL []) (lbOf as_ref7_Far bs_ref7_Far x) (patS ⟨30, [], [], []⟩ pout_ref7_Far y) = some (out_ref7_Far y) := by kernel_rfl
theorem con_ref7_Far_ok (N : Nat) : Con.ok P0 (con_ref7_Far N) := ⟨⟨Try.f44, Try.func44, by kernel_rfl, by kernel_rfl⟩, fun (x : (List (List Int)) × Int × List Int) (r : Int) (hr : W_ref7_Far N x = some r) =>
  spec2_evT (Γ := G_ref7_Far N) (Λ := L0) (pout := pout_ref7_Far) (kp := kpL []) mixed (orcOf_ok [] (by simp)) Try.func44 (c := bodyOf Try.f44) (by kernel_rfl) (by kernel_rfl) (of_decide_eq_true (by kernel_rfl)) ((F_ref7_Far_eq N x).trans hr) (R_ref7_Far_eq x r)⟩
def as_ref7_Mid : List AS := [.val (.list (.list (.int .i64))), .val (.list (.int .i64))]
def bs_ref7_Mid : List BS := []
def pout_ref7_Mid : Pat := ⟨[(4, .val (.int .i64))], []⟩
noncomputable def G_ref7_Mid (w_ref1_Has : (List Int) × Int → Option (Bool)) (w_ref7_Far : (List (List Int)) × Int × List Int → Option (Int)) (N : Nat) : OrcT := orcOf [conw_ref1_Has w_ref1_Has, conw_ref7_Far w_ref7_Far]
noncomputable def F_ref7_Mid (w_ref1_Has : (List Int) × Int → Option (Bool)) (w_ref7_Far : (List (List Int)) × Int × List Int → Option (Int)) (N : Nat) (x : (List (List Int)) × List Int) : Option (Int) :=
  (evT (G_ref7_Mid w_ref1_Has w_ref7_Far N) L0 P0 [(3, .loop [] ⟨[(5, .val (.int .i64)), (6, .val (.int .i64))], []⟩ [(.exit 0, ⟨[(5, .val (.int .i64))], []⟩)])]
    [] N 400 (bodyOf Try.f27) ⟨31, slots 0 (argsOf as_ref7_Mid bs_ref7_Mid x), tabU (lbOf as_ref7_Mid bs_ref7_Mid x) [], []⟩).elim (kRet 31 pout_ref7_Mid (kpL []) (lbOf as_ref7_Mid bs_ref7_Mid x))
def out_ref7_Mid (y : Int) : V × List OK × List OK := (valW (.int .i64) y, [], [])
noncomputable def V_ref7_Mid (w_ref1_Has : (List Int) × Int → Option (Bool)) (w_ref7_Far : (List (List Int)) × Int × List Int → Option (Int)) (N : Nat) (x : (List (List Int)) × List Int) : Option (Int) :=
  obind (loopN N (fun (v : Int × Int) => cnd (decide (v.2 ≤ (8:Int))) (obind (w_ref1_Has (x.2, v.2)) fun b => cnd b (cnd (decide (v.1 = (0:Int)))
    (some (Sum.inl (v.2, wr .i64 (v.2 + (1:Int))))) (obind (w_ref7_Far (x.1, v.2, x.2)) fun b => obind (w_ref7_Far (x.1, v.1, x.2)) fun b_1 => cnd
    (decide (b < b_1)) (some (Sum.inl (v.2, wr .i64 (v.2 + (1:Int))))) (some (Sum.inl (v.1, wr .i64 (v.2 + (1:Int))))))) (some (Sum.inl (v.1, wr .i64
    (v.2 + (1:Int)))))) (some (Sum.inr v.1))) ((0:Int), (1:Int))) fun (b : Int) => some b
theorem FV_ref7_Mid_eq (w_ref1_Has : (List Int) × Int → Option (Bool)) (w_ref7_Far : (List (List Int)) × Int × List Int → Option (Int)) (N : Nat) (x : (List (List Int)) × List Int) : F_ref7_Mid w_ref1_Has w_ref7_Far N x = V_ref7_Mid w_ref1_Has w_ref7_Far N x := by kernel_rfl
noncomputable def W_ref7_Mid (N : Nat) (x : (List (List Int)) × List Int) : Option (Int) := V_ref7_Mid (W_ref1_Has N) (W_ref7_Far N) N x
theorem F_ref7_Mid_eq (N : Nat) (x : (List (List Int)) × List Int) : F_ref7_Mid (W_ref1_Has N) (W_ref7_Far N) N x = W_ref7_Mid N x := (FV_ref7_Mid_eq (W_ref1_Has N) (W_ref7_Far N) N x).trans (by kernel_rfl)
noncomputable def conw_ref7_Mid (w : (List (List Int)) × List Int → Option (Int)) : Con := ⟨27, as_ref7_Mid, bs_ref7_Mid, Int, w, out_ref7_Mid⟩
noncomputable def con_ref7_Mid (N : Nat) : Con := conw_ref7_Mid (W_ref7_Mid N)
theorem R_ref7_Mid_eq (x : (List (List Int)) × List Int) (y : Int) : retOf2 P0 Try.f27 (kpL []) (lbOf as_ref7_Mid bs_ref7_Mid x) (patS ⟨31, [], [], []⟩ pout_ref7_Mid y) = some (out_ref7_Mid y) := by kernel_rfl
theorem con_ref7_Mid_ok (N : Nat) : Con.ok P0 (con_ref7_Mid N) := ⟨⟨Try.f27, Try.func27, by kernel_rfl, by kernel_rfl⟩, fun (x : (List (List Int)) × List Int) (r : Int) (hr : W_ref7_Mid N x = some r) =>
  spec2_evT (Γ := G_ref7_Mid (W_ref1_Has N) (W_ref7_Far N) N) (Λ := L0) (pout := pout_ref7_Mid) (kp := kpL []) mixed (orcOf_ok _ (by simp only [List.mem_cons, List.not_mem_nil, or_false, forall_eq_or_imp, forall_eq]; exact ⟨con_ref1_Has_ok N, con_ref7_Far_ok N⟩)) Try.func27 (c := bodyOf Try.f27) (by kernel_rfl) (by kernel_rfl) (of_decide_eq_true (by kernel_rfl)) ((F_ref7_Mid_eq N x).trans hr) (R_ref7_Mid_eq x r)⟩
def as_ref7_Rising : List AS := [.val (.list (.int .i64))]
def bs_ref7_Rising : List BS := []
def pout_ref7_Rising : Pat := ⟨[(2, .val (.list (.int .i64)))], []⟩
noncomputable def G_ref7_Rising (w_ref1_Has : (List Int) × Int → Option (Bool)) (N : Nat) : OrcT := orcOf [conw_ref1_Has w_ref1_Has]
noncomputable def F_ref7_Rising (w_ref1_Has : (List Int) × Int → Option (Bool)) (N : Nat) (x : List Int) : Option (List Int) :=
  (evT (G_ref7_Rising w_ref1_Has N) L0 P0 [(3, .loop [] ⟨[(3, .acc 700003), (4, .val (.int .i64))], [(700003, .nrow 3 (.int .i64) true true)]⟩ [(.exit 0, ⟨[(3, .val (.list (.int .i64)))], []⟩)])]
    [] N 400 (bodyOf Try.f28) ⟨17, slots 0 (argsOf as_ref7_Rising bs_ref7_Rising x), tabU (lbOf as_ref7_Rising bs_ref7_Rising x) [], []⟩).elim (kRet 17 pout_ref7_Rising (kpL []) (lbOf as_ref7_Rising bs_ref7_Rising x))
def out_ref7_Rising (y : List Int) : V × List OK × List OK := (valW (.list (.int .i64)) y, [], [])
noncomputable def V_ref7_Rising (w_ref1_Has : (List Int) × Int → Option (Bool)) (N : Nat) (x : List Int) : Option (List Int) :=
  obind (loopN N (fun (v : Int × List Int) => cnd (decide (v.1 ≤ (8:Int))) (obind (w_ref1_Has (x, v.1)) fun b => cnd b (cnd (decide ((List.length v.2
    + List.length [v.1]) * (8:Nat) ≤ (140737488355328:Nat))) (some (Sum.inl (wr .i64 (v.1 + (1:Int)), v.2 ++ [v.1]))) none) (some (Sum.inl (wr .i64 (v.1
    + (1:Int)), v.2)))) (some (Sum.inr v.2))) ((1:Int), [])) fun (b : List Int) => some b
theorem FV_ref7_Rising_eq (w_ref1_Has : (List Int) × Int → Option (Bool)) (N : Nat) (x : List Int) : F_ref7_Rising w_ref1_Has N x = V_ref7_Rising w_ref1_Has N x := by kernel_rfl
noncomputable def W_ref7_Rising (N : Nat) (x : List Int) : Option (List Int) := V_ref7_Rising (W_ref1_Has N) N x
theorem F_ref7_Rising_eq (N : Nat) (x : List Int) : F_ref7_Rising (W_ref1_Has N) N x = W_ref7_Rising N x := (FV_ref7_Rising_eq (W_ref1_Has N) N x).trans (by kernel_rfl)
noncomputable def conw_ref7_Rising (w : List Int → Option (List Int)) : Con := ⟨28, as_ref7_Rising, bs_ref7_Rising, List Int, w, out_ref7_Rising⟩
noncomputable def con_ref7_Rising (N : Nat) : Con := conw_ref7_Rising (W_ref7_Rising N)
theorem R_ref7_Rising_eq (x : List Int) (y : List Int) : retOf2 P0 Try.f28 (kpL []) (lbOf as_ref7_Rising bs_ref7_Rising x) (patS ⟨17, [], [], []⟩ pout_ref7_Rising y) = some (out_ref7_Rising y) := by kernel_rfl
theorem con_ref7_Rising_ok (N : Nat) : Con.ok P0 (con_ref7_Rising N) := ⟨⟨Try.f28, Try.func28, by kernel_rfl, by kernel_rfl⟩, fun (x : List Int) (r : List Int) (hr : W_ref7_Rising N x = some r) =>
  spec2_evT (Γ := G_ref7_Rising (W_ref1_Has N) N) (Λ := L0) (pout := pout_ref7_Rising) (kp := kpL []) mixed (orcOf_ok _ (by simp only [List.mem_cons, List.not_mem_nil, or_false, forall_eq_or_imp, forall_eq]; exact con_ref1_Has_ok N)) Try.func28 (c := bodyOf Try.f28) (by kernel_rfl) (by kernel_rfl) (of_decide_eq_true (by kernel_rfl)) ((F_ref7_Rising_eq N x).trans hr) (R_ref7_Rising_eq x r)⟩
def as_ref1_SameInts : List AS := [.val (.list (.int .i64)), .val (.list (.int .i64))]
def bs_ref1_SameInts : List BS := []
def pout_ref1_SameInts : Pat := ⟨[(4, .val .bool)], []⟩
noncomputable def G_ref1_SameInts  (N : Nat) : OrcT := orcOf []
noncomputable def F_ref1_SameInts  (N : Nat) (x : (List Int) × List Int) : Option (Bool) :=
  (evT (G_ref1_SameInts  N) L0 P0 [(4, .loop [] ⟨[(5, .val (.int .i64))], []⟩ [(.exit 0, ⟨[], []⟩), (.ret, ⟨[(4, .val .bool)], []⟩)])]
    [] N 400 (bodyOf Try.f15) ⟨26, slots 0 (argsOf as_ref1_SameInts bs_ref1_SameInts x), tabU (lbOf as_ref1_SameInts bs_ref1_SameInts x) [], []⟩).elim (kRet 26 pout_ref1_SameInts (kpL []) (lbOf as_ref1_SameInts bs_ref1_SameInts x))
def out_ref1_SameInts (y : Bool) : V × List OK × List OK := (valW .bool y, [], [])
noncomputable def V_ref1_SameInts  (N : Nat) (x : (List Int) × List Int) : Option (Bool) :=
  cnd (decide ((↑(List.length x.1) : Int) ≠ (↑(List.length x.2) : Int))) (some false) (obind (loopN N (fun (v : Int) => cnd (decide (v < (↑(List.length
    x.1) : Int))) (cnd (decide ((0:Int) ≤ v) && decide (v < (↑(List.length x.1) : Int))) (cnd (decide ((0:Int) ≤ v) && decide (v < (↑(List.length x.2) :
    Int))) (cnd (decide (List.getD x.1 (Int.toNat v) (0:Int) ≠ List.getD x.2 (Int.toNat v) (0:Int))) (some (Sum.inr (Sum.inr false))) (some (Sum.inl (wr
    .i64 (v + (1:Int)))))) none) none) (some (Sum.inr (Sum.inl ())))) (Int.ofNat (0:Nat))) fun (b : PUnit ⊕ Bool) => selim (fun (b : PUnit) => some
    true) (fun (c : Bool) => some c) b)
theorem FV_ref1_SameInts_eq  (N : Nat) (x : (List Int) × List Int) : F_ref1_SameInts  N x = V_ref1_SameInts  N x := by kernel_rfl
noncomputable def W_ref1_SameInts (N : Nat) (x : (List Int) × List Int) : Option (Bool) := V_ref1_SameInts  N x
theorem F_ref1_SameInts_eq (N : Nat) (x : (List Int) × List Int) : F_ref1_SameInts  N x = W_ref1_SameInts N x := (FV_ref1_SameInts_eq  N x).trans (by kernel_rfl)
noncomputable def conw_ref1_SameInts (w : (List Int) × List Int → Option (Bool)) : Con := ⟨15, as_ref1_SameInts, bs_ref1_SameInts, Bool, w, out_ref1_SameInts⟩
noncomputable def con_ref1_SameInts (N : Nat) : Con := conw_ref1_SameInts (W_ref1_SameInts N)
theorem R_ref1_SameInts_eq (x : (List Int) × List Int) (y : Bool) : retOf2 P0 Try.f15 (kpL []) (lbOf as_ref1_SameInts bs_ref1_SameInts x) (patS ⟨26, [], [], []⟩ pout_ref1_SameInts y) = some (out_ref1_SameInts y) := by kernel_rfl
theorem con_ref1_SameInts_ok (N : Nat) : Con.ok P0 (con_ref1_SameInts N) := ⟨⟨Try.f15, Try.func15, by kernel_rfl, by kernel_rfl⟩, fun (x : (List Int) × List Int) (r : Bool) (hr : W_ref1_SameInts N x = some r) =>
  spec2_evT (Γ := G_ref1_SameInts N) (Λ := L0) (pout := pout_ref1_SameInts) (kp := kpL []) mixed (orcOf_ok [] (by simp)) Try.func15 (c := bodyOf Try.f15) (by kernel_rfl) (by kernel_rfl) (of_decide_eq_true (by kernel_rfl)) ((F_ref1_SameInts_eq N x).trans hr) (R_ref1_SameInts_eq x r)⟩
def as_law8_ClusGroup : List AS := [.val (.list (.int .u8)), .val (.list (.int .u8)), .val (.int .u8)]
def bs_law8_ClusGroup : List BS := []
def pout_law8_ClusGroup : Pat := ⟨[(6, .val .bool)], []⟩
noncomputable def G_law8_ClusGroup (w_law8_begun : Unit → Option (Bool)) (w_Made : List Int → Option ((List Int) × Int)) (w_Picks_Dist : (List Int) × Int → Option ((List (List Int)) × (List Int) × Int)) (w_Picks_Some : Int × (List Int) × Int → Option ((List Int) × (List Int) × Int)) (w_clus_Group : (List (List Int)) × (List Int) × Int → Option (List ((List Int) × Int))) (w_ref7_Mid : (List (List Int)) × List Int → Option (Int)) (w_ref7_Rising : List Int → Option (List Int)) (w_ref1_SameInts : (List Int) × List Int → Option (Bool)) (N : Nat) : OrcT := orcOf [conw_law8_begun w_law8_begun, conw_Made w_Made, conw_Picks_Dist w_Picks_Dist, conw_Picks_Some w_Picks_Some, conw_clus_Group w_clus_Group, conw_ref7_Mid w_ref7_Mid, conw_ref7_Rising w_ref7_Rising, conw_ref1_SameInts w_ref1_SameInts]
noncomputable def F_law8_ClusGroup (w_law8_begun : Unit → Option (Bool)) (w_Made : List Int → Option ((List Int) × Int)) (w_Picks_Dist : (List Int) × Int → Option ((List (List Int)) × (List Int) × Int)) (w_Picks_Some : Int × (List Int) × Int → Option ((List Int) × (List Int) × Int)) (w_clus_Group : (List (List Int)) × (List Int) × Int → Option (List ((List Int) × Int))) (w_ref7_Mid : (List (List Int)) × List Int → Option (Int)) (w_ref7_Rising : List Int → Option (List Int)) (w_ref1_SameInts : (List Int) × List Int → Option (Bool)) (N : Nat) (x : (List Int) × (List Int) × Int) : Option (Bool) :=
  (evT (G_law8_ClusGroup w_law8_begun w_Made w_Picks_Dist w_Picks_Some w_clus_Group w_ref7_Mid w_ref7_Rising w_ref1_SameInts N) L0 P0 [(11, .loop [7, 8, 10] ⟨[(11, .acc 700011), (12, .val (.int .i64))], [(700011, .nrow 3 (.int .i64) true true)]⟩ [(.exit 0, ⟨[(11, .val (.list (.int .i64)))], []⟩), (.ret, ⟨[(6, .val .bool)], []⟩)])]
    [(1000017, .reg [(11, [8, 10], ⟨[(95, .val .bool)], []⟩)])] N 400 (bodyOf Try.f6) ⟨108, slots 0 (argsOf as_law8_ClusGroup bs_law8_ClusGroup x), tabU (lbOf as_law8_ClusGroup bs_law8_ClusGroup x) [], []⟩).elim (kRet 108 pout_law8_ClusGroup (kpL []) (lbOf as_law8_ClusGroup bs_law8_ClusGroup x))
def out_law8_ClusGroup (y : Bool) : V × List OK × List OK := (valW .bool y, [], [])
noncomputable def V_law8_ClusGroup (w_law8_begun : Unit → Option (Bool)) (w_Made : List Int → Option ((List Int) × Int)) (w_Picks_Dist : (List Int) × Int → Option ((List (List Int)) × (List Int) × Int)) (w_Picks_Some : Int × (List Int) × Int → Option ((List Int) × (List Int) × Int)) (w_clus_Group : (List (List Int)) × (List Int) × Int → Option (List ((List Int) × Int))) (w_ref7_Mid : (List (List Int)) × List Int → Option (Int)) (w_ref7_Rising : List Int → Option (List Int)) (w_ref1_SameInts : (List Int) × List Int → Option (Bool)) (N : Nat) (x : (List Int) × (List Int) × Int) : Option (Bool) :=
  obind (w_law8_begun ()) fun b => cnd (!b) (some false) (cnd (decide ((30:Int) < (↑(List.length x.1) : Int))) (some true) (cnd (decide ((8:Int) <
    (↑(List.length x.2.1) : Int))) (some true) (obind (w_Made x.1) fun b => obind (w_Picks_Dist b) fun b => obind (w_Made x.2.1) fun b_1 => obind
    (w_Picks_Some ((1:Int), b_1)) fun b_2 => obind (w_clus_Group (b.1, b_2.1, wr .i64 ((1:Int) + wr .i64 (Int.tmod x.2.2 (3:Int))))) fun b_3 =>
    obind (loopN N (fun (v : Int × List Int) => cnd (decide (v.1 < (↑(List.length b_3) : Int))) (cnd (decide ((0:Int) ≤ v.1) && decide (v.1 <
    (↑(List.length b_3) : Int))) (cnd (decide ((↑(List.length (Prod.fst (List.getD b_3 (Int.toNat v.1) ([], (0:Int))))) : Int) < (1:Int))) (some
    (Sum.inr (Sum.inr false))) (cnd (decide (wr .i64 (wr .i64 ((3:Int) * wr .i64 ((1:Int) + wr .i64 (Int.tmod x.2.2 (3:Int)))) - (1:Int)) <
    (↑(List.length (Prod.fst (List.getD b_3 (Int.toNat v.1) ([], (0:Int))))) : Int))) (some (Sum.inr (Sum.inr false))) (cnd (decide ((1:Int) <
    (↑(List.length b_3) : Int))) (cnd (decide ((↑(List.length (Prod.fst (List.getD b_3 (Int.toNat v.1) ([], (0:Int))))) : Int) < wr .i64 ((1:Int) + wr
    .i64 (Int.tmod x.2.2 (3:Int))))) (some (Sum.inr (Sum.inr false))) (cnd (decide ((0:Int) ≤ v.1) && decide (v.1 < (↑(List.length b_3) : Int))) (obind
    (w_ref7_Mid (b.1, Prod.fst (List.getD b_3 (Int.toNat v.1) ([], (0:Int))))) fun b => cnd (decide (Prod.snd (List.getD b_3 (Int.toNat v.1) ([],
    (0:Int))) ≠ b)) (some (Sum.inr (Sum.inr false))) (cnd (decide ((List.length v.2 + List.length (Prod.fst (List.getD b_3 (Int.toNat v.1) ([],
    (0:Int))))) * (8:Nat) ≤ (140737488355328:Nat))) (some (Sum.inl (wr .i64 (v.1 + (1:Int)), v.2 ++ Prod.fst (List.getD b_3 (Int.toNat v.1) ([],
    (0:Int)))))) none)) none)) (cnd (decide ((0:Int) ≤ v.1) && decide (v.1 < (↑(List.length b_3) : Int))) (obind (w_ref7_Mid (b.1, Prod.fst (List.getD
    b_3 (Int.toNat v.1) ([], (0:Int))))) fun b => cnd (decide (Prod.snd (List.getD b_3 (Int.toNat v.1) ([], (0:Int))) ≠ b)) (some (Sum.inr (Sum.inr
    false))) (cnd (decide ((List.length v.2 + List.length (Prod.fst (List.getD b_3 (Int.toNat v.1) ([], (0:Int))))) * (8:Nat) ≤ (140737488355328:Nat)))
    (some (Sum.inl (wr .i64 (v.1 + (1:Int)), v.2 ++ Prod.fst (List.getD b_3 (Int.toNat v.1) ([], (0:Int)))))) none)) none)))) none) (some (Sum.inr
    (Sum.inl v.2)))) ((0:Int), [])) fun (b : List Int ⊕ Bool) => selim (fun (b : List Int) => obind (cnd (decide ((↑(List.length b) : Int) =
    (↑(List.length b_2.1) : Int))) (obind (w_ref7_Rising b) fun b => obind (w_ref1_SameInts (b, b_2.1)) fun b => some b) (some false)) fun (b :
    Bool) => cnd b (some (decide ((↑(List.length b_3) : Int) = (1:Int)) == decide ((↑(List.length b_2.1) : Int) ≤ wr .i64 (wr .i64 ((3:Int) * wr .i64
    ((1:Int) + wr .i64 (Int.tmod x.2.2 (3:Int)))) - (1:Int))))) (some false)) (fun (c : Bool) => some c) b)))
theorem FV_law8_ClusGroup_eq (w_law8_begun : Unit → Option (Bool)) (w_Made : List Int → Option ((List Int) × Int)) (w_Picks_Dist : (List Int) × Int → Option ((List (List Int)) × (List Int) × Int)) (w_Picks_Some : Int × (List Int) × Int → Option ((List Int) × (List Int) × Int)) (w_clus_Group : (List (List Int)) × (List Int) × Int → Option (List ((List Int) × Int))) (w_ref7_Mid : (List (List Int)) × List Int → Option (Int)) (w_ref7_Rising : List Int → Option (List Int)) (w_ref1_SameInts : (List Int) × List Int → Option (Bool)) (N : Nat) (x : (List Int) × (List Int) × Int) : F_law8_ClusGroup w_law8_begun w_Made w_Picks_Dist w_Picks_Some w_clus_Group w_ref7_Mid w_ref7_Rising w_ref1_SameInts N x = V_law8_ClusGroup w_law8_begun w_Made w_Picks_Dist w_Picks_Some w_clus_Group w_ref7_Mid w_ref7_Rising w_ref1_SameInts N x := by kernel_rfl
noncomputable def W_law8_ClusGroup (N : Nat) (x : (List Int) × (List Int) × Int) : Option (Bool) := V_law8_ClusGroup (W_law8_begun N) (W_Made N) (W_Picks_Dist N) (W_Picks_Some N) (W_clus_Group N) (W_ref7_Mid N) (W_ref7_Rising N) (W_ref1_SameInts N) N x
theorem F_law8_ClusGroup_eq (N : Nat) (x : (List Int) × (List Int) × Int) : F_law8_ClusGroup (W_law8_begun N) (W_Made N) (W_Picks_Dist N) (W_Picks_Some N) (W_clus_Group N) (W_ref7_Mid N) (W_ref7_Rising N) (W_ref1_SameInts N) N x = W_law8_ClusGroup N x := (FV_law8_ClusGroup_eq (W_law8_begun N) (W_Made N) (W_Picks_Dist N) (W_Picks_Some N) (W_clus_Group N) (W_ref7_Mid N) (W_ref7_Rising N) (W_ref1_SameInts N) N x).trans (by kernel_rfl)
noncomputable def conw_law8_ClusGroup (w : (List Int) × (List Int) × Int → Option (Bool)) : Con := ⟨6, as_law8_ClusGroup, bs_law8_ClusGroup, Bool, w, out_law8_ClusGroup⟩
noncomputable def con_law8_ClusGroup (N : Nat) : Con := conw_law8_ClusGroup (W_law8_ClusGroup N)
theorem R_law8_ClusGroup_eq (x : (List Int) × (List Int) × Int) (y : Bool) : retOf2 P0 Try.f6 (kpL []) (lbOf as_law8_ClusGroup bs_law8_ClusGroup x) (patS ⟨108, [], [], []⟩ pout_law8_ClusGroup y) = some (out_law8_ClusGroup y) := by kernel_rfl
theorem con_law8_ClusGroup_ok (N : Nat) : Con.ok P0 (con_law8_ClusGroup N) := ⟨⟨Try.f6, Try.func6, by kernel_rfl, by kernel_rfl⟩, fun (x : (List Int) × (List Int) × Int) (r : Bool) (hr : W_law8_ClusGroup N x = some r) =>
  spec2_evT (Γ := G_law8_ClusGroup (W_law8_begun N) (W_Made N) (W_Picks_Dist N) (W_Picks_Some N) (W_clus_Group N) (W_ref7_Mid N) (W_ref7_Rising N) (W_ref1_SameInts N) N) (Λ := L0) (pout := pout_law8_ClusGroup) (kp := kpL []) mixed (orcOf_ok _ (by simp only [List.mem_cons, List.not_mem_nil, or_false, forall_eq_or_imp, forall_eq]; exact ⟨con_law8_begun_ok N, con_Made_ok N, con_Picks_Dist_ok N, con_Picks_Some_ok N, con_clus_Group_ok N, con_ref7_Mid_ok N, con_ref7_Rising_ok N, con_ref1_SameInts_ok N⟩)) Try.func6 (c := bodyOf Try.f6) (by kernel_rfl) (by kernel_rfl) (of_decide_eq_true (by kernel_rfl)) ((F_law8_ClusGroup_eq N x).trans hr) (R_law8_ClusGroup_eq x r)⟩
/-! What is reckoned. -/
-- PURE
theorem wr_m {z : Int} (h : -140737488355328 ≤ z) (h2 : z ≤ 140737488355328) : wr .i64 z = z := wr_i64 (by omega) (by omega)
theorem cnd_T {α : Type} {p : Prop} {i : Decidable p} {x y : α} (h : p) : cnd (@decide p i) x y = x := by rw [decide_eq_true h]; rfl
theorem cnd_F {α : Type} {p : Prop} {i : Decidable p} {x y : α} (h : ¬ p) : cnd (@decide p i) x y = y := by rw [decide_eq_false h]; rfl
def U8 (l : List Int) : Prop := ∀ n ∈ l, 0 ≤ n ∧ n ≤ 255
theorem U8_get {a : List Int} (ha : U8 a) (j : Nat) (hj : j < a.length) : 0 ≤ a.getD j 0 ∧ a.getD j 0 ≤ 255 := by
  rw [List.getD_eq_getElem?_getD, List.getElem?_eq_getElem hj]
  exact ha _ (List.getElem_mem hj)
def dv (k : Int) : Int := List.getD [(1 : Int), (2 : Int), (3 : Int), (5 : Int), (9 : Int), (9 : Int), (20 : Int), (1000 : Int), (0 : Int)] (Int.toNat k) (0 : Int)
theorem dv_rng (k : Int) : 0 ≤ dv k ∧ dv k ≤ 1000 := by
  unfold dv
  generalize k.toNat = j
  match j with
  | 0 | 1 | 2 | 3 | 4 | 5 | 6 | 7 | 8 => decide
  | j + 9 => simp [List.getD_eq_getElem?_getD]
/-- A square of distances. -/
def gd (D : List (List Int)) (i j : Nat) : Int := (D.getD i []).getD j 0
structure GD (D : List (List Int)) : Prop where
  len : D.length = 8
  row : ∀ i, i < 8 → (D.getD i []).length = 8
  rng : ∀ i j, i < 8 → j < 8 → 0 ≤ gd D i j ∧ gd D i j ≤ 1000
  sym : ∀ i j, i < 8 → j < 8 → gd D i j = gd D j i
theorem lt8 {P : Nat → Prop} (h0 : P 0) (h1 : P 1) (h2 : P 2) (h3 : P 3) (h4 : P 4) (h5 : P 5) (h6 : P 6) (h7 : P 7) : ∀ i, i < 8 → P i
  | 0, _ => h0 | 1, _ => h1 | 2, _ => h2 | 3, _ => h3 | 4, _ => h4 | 5, _ => h5 | 6, _ => h6 | 7, _ => h7
  | n + 8, h => by omega
theorem Num_spec (N : Nat) (m : Int) (l : List Int) (n : Int) (hU : U8 l) (hl : l.length ≤ 1000) (h0 : 0 ≤ n) (h1 : n ≤ l.length) (hm : 1 ≤ m) (hm2 : m ≤ 255) : ∃ v n', W_Picks_Num N (m, l, n) = some (v, l, n') ∧ 0 ≤ v ∧ v < m ∧ 0 ≤ n' ∧ n' ≤ l.length := by
  unfold W_Picks_Num V_Picks_Num
  try simp only
  by_cases hn : (l.length : Int) ≤ n
  · rw [dT hn, cnd_t]; exact ⟨_, _, rfl, by omega, by omega, h0, h1⟩
  have w : wr .i64 (wr .i64 (n + 1) - 1) = n := by rw [wr_m (z := n + 1) (by omega) (by omega), wr_m (z := n + 1 - 1) (by omega) (by omega)]; omega
  have g := U8_get hU n.toNat (by omega)
  rw [w, wr_m (z := n + 1) (by omega) (by omega)]
  clear w
  rw [dF hn, cnd_f, dF (show ¬ m < 1 by omega), cnd_f, dT h0, dT (show n < l.length by omega), Bool.and_self, cnd_t, dF (show ¬ m = 0 by omega), Bool.not_false, cnd_t, wr_m (by omega) (by omega)]
  exact ⟨_, _, rfl, Int.tmod_nonneg _ g.1, Int.tmod_lt_of_pos _ (by omega), by omega, by omega⟩
theorem Dist_spec (N : Nat) (l : List Int) (n : Int) (hU : U8 l) (hl : l.length ≤ 1000) (h0 : 0 ≤ n) (h1 : n ≤ l.length) : ∃ D n', W_Picks_Dist N (l, n) = some (D, l, n') ∧ GD D := by
  unfold W_Picks_Dist V_Picks_Dist
  try simp only
  obtain ⟨v0, n0, e0, p0, q0, r0, s0⟩ := Num_spec N 9 l n hU hl h0 h1 (by omega) (by omega)
  rw [e0, obind_s, dT p0, cnd_t, dT (show v0 < ((9 : Nat) : Int) from q0), cnd_t]
  obtain ⟨v1, n1, e1, p1, q1, r1, s1⟩ := Num_spec N 9 l n0 hU hl r0 s0 (by omega) (by omega)
  rw [e1, obind_s, dT p1, cnd_t, dT (show v1 < ((9 : Nat) : Int) from q1), cnd_t]
  obtain ⟨v2, n2, e2, p2, q2, r2, s2⟩ := Num_spec N 9 l n1 hU hl r1 s1 (by omega) (by omega)
  rw [e2, obind_s, dT p2, cnd_t, dT (show v2 < ((9 : Nat) : Int) from q2), cnd_t]
  obtain ⟨v3, n3, e3, p3, q3, r3, s3⟩ := Num_spec N 9 l n2 hU hl r2 s2 (by omega) (by omega)
  rw [e3, obind_s, dT p3, cnd_t, dT (show v3 < ((9 : Nat) : Int) from q3), cnd_t]
  obtain ⟨v4, n4, e4, p4, q4, r4, s4⟩ := Num_spec N 9 l n3 hU hl r3 s3 (by omega) (by omega)
  rw [e4, obind_s, dT p4, cnd_t, dT (show v4 < ((9 : Nat) : Int) from q4), cnd_t]
  obtain ⟨v5, n5, e5, p5, q5, r5, s5⟩ := Num_spec N 9 l n4 hU hl r4 s4 (by omega) (by omega)
  rw [e5, obind_s, dT p5, cnd_t, dT (show v5 < ((9 : Nat) : Int) from q5), cnd_t]
  obtain ⟨v6, n6, e6, p6, q6, r6, s6⟩ := Num_spec N 9 l n5 hU hl r5 s5 (by omega) (by omega)
  rw [e6, obind_s, dT p6, cnd_t, dT (show v6 < ((9 : Nat) : Int) from q6), cnd_t]
  obtain ⟨v7, n7, e7, p7, q7, r7, s7⟩ := Num_spec N 9 l n6 hU hl r6 s6 (by omega) (by omega)
  rw [e7, obind_s, dT p7, cnd_t, dT (show v7 < ((9 : Nat) : Int) from q7), cnd_t]
  obtain ⟨v8, n8, e8, p8, q8, r8, s8⟩ := Num_spec N 9 l n7 hU hl r7 s7 (by omega) (by omega)
  rw [e8, obind_s, dT p8, cnd_t, dT (show v8 < ((9 : Nat) : Int) from q8), cnd_t]
  obtain ⟨v9, n9, e9, p9, q9, r9, s9⟩ := Num_spec N 9 l n8 hU hl r8 s8 (by omega) (by omega)
  rw [e9, obind_s, dT p9, cnd_t, dT (show v9 < ((9 : Nat) : Int) from q9), cnd_t]
  obtain ⟨v10, n10, e10, p10, q10, r10, s10⟩ := Num_spec N 9 l n9 hU hl r9 s9 (by omega) (by omega)
  rw [e10, obind_s, dT p10, cnd_t, dT (show v10 < ((9 : Nat) : Int) from q10), cnd_t]
  obtain ⟨v11, n11, e11, p11, q11, r11, s11⟩ := Num_spec N 9 l n10 hU hl r10 s10 (by omega) (by omega)
  rw [e11, obind_s, dT p11, cnd_t, dT (show v11 < ((9 : Nat) : Int) from q11), cnd_t]
  obtain ⟨v12, n12, e12, p12, q12, r12, s12⟩ := Num_spec N 9 l n11 hU hl r11 s11 (by omega) (by omega)
  rw [e12, obind_s, dT p12, cnd_t, dT (show v12 < ((9 : Nat) : Int) from q12), cnd_t]
  obtain ⟨v13, n13, e13, p13, q13, r13, s13⟩ := Num_spec N 9 l n12 hU hl r12 s12 (by omega) (by omega)
  rw [e13, obind_s, dT p13, cnd_t, dT (show v13 < ((9 : Nat) : Int) from q13), cnd_t]
  obtain ⟨v14, n14, e14, p14, q14, r14, s14⟩ := Num_spec N 9 l n13 hU hl r13 s13 (by omega) (by omega)
  rw [e14, obind_s, dT p14, cnd_t, dT (show v14 < ((9 : Nat) : Int) from q14), cnd_t]
  obtain ⟨v15, n15, e15, p15, q15, r15, s15⟩ := Num_spec N 9 l n14 hU hl r14 s14 (by omega) (by omega)
  rw [e15, obind_s, dT p15, cnd_t, dT (show v15 < ((9 : Nat) : Int) from q15), cnd_t]
  obtain ⟨v16, n16, e16, p16, q16, r16, s16⟩ := Num_spec N 9 l n15 hU hl r15 s15 (by omega) (by omega)
  rw [e16, obind_s, dT p16, cnd_t, dT (show v16 < ((9 : Nat) : Int) from q16), cnd_t]
  obtain ⟨v17, n17, e17, p17, q17, r17, s17⟩ := Num_spec N 9 l n16 hU hl r16 s16 (by omega) (by omega)
  rw [e17, obind_s, dT p17, cnd_t, dT (show v17 < ((9 : Nat) : Int) from q17), cnd_t]
  obtain ⟨v18, n18, e18, p18, q18, r18, s18⟩ := Num_spec N 9 l n17 hU hl r17 s17 (by omega) (by omega)
  rw [e18, obind_s, dT p18, cnd_t, dT (show v18 < ((9 : Nat) : Int) from q18), cnd_t]
  obtain ⟨v19, n19, e19, p19, q19, r19, s19⟩ := Num_spec N 9 l n18 hU hl r18 s18 (by omega) (by omega)
  rw [e19, obind_s, dT p19, cnd_t, dT (show v19 < ((9 : Nat) : Int) from q19), cnd_t]
  obtain ⟨v20, n20, e20, p20, q20, r20, s20⟩ := Num_spec N 9 l n19 hU hl r19 s19 (by omega) (by omega)
  rw [e20, obind_s, dT p20, cnd_t, dT (show v20 < ((9 : Nat) : Int) from q20), cnd_t]
  obtain ⟨v21, n21, e21, p21, q21, r21, s21⟩ := Num_spec N 9 l n20 hU hl r20 s20 (by omega) (by omega)
  rw [e21, obind_s, dT p21, cnd_t, dT (show v21 < ((9 : Nat) : Int) from q21), cnd_t]
  obtain ⟨v22, n22, e22, p22, q22, r22, s22⟩ := Num_spec N 9 l n21 hU hl r21 s21 (by omega) (by omega)
  rw [e22, obind_s, dT p22, cnd_t, dT (show v22 < ((9 : Nat) : Int) from q22), cnd_t]
  obtain ⟨v23, n23, e23, p23, q23, r23, s23⟩ := Num_spec N 9 l n22 hU hl r22 s22 (by omega) (by omega)
  rw [e23, obind_s, dT p23, cnd_t, dT (show v23 < ((9 : Nat) : Int) from q23), cnd_t]
  obtain ⟨v24, n24, e24, p24, q24, r24, s24⟩ := Num_spec N 9 l n23 hU hl r23 s23 (by omega) (by omega)
  rw [e24, obind_s, dT p24, cnd_t, dT (show v24 < ((9 : Nat) : Int) from q24), cnd_t]
  obtain ⟨v25, n25, e25, p25, q25, r25, s25⟩ := Num_spec N 9 l n24 hU hl r24 s24 (by omega) (by omega)
  rw [e25, obind_s, dT p25, cnd_t, dT (show v25 < ((9 : Nat) : Int) from q25), cnd_t]
  obtain ⟨v26, n26, e26, p26, q26, r26, s26⟩ := Num_spec N 9 l n25 hU hl r25 s25 (by omega) (by omega)
  rw [e26, obind_s, dT p26, cnd_t, dT (show v26 < ((9 : Nat) : Int) from q26), cnd_t]
  obtain ⟨v27, n27, e27, p27, q27, r27, s27⟩ := Num_spec N 9 l n26 hU hl r26 s26 (by omega) (by omega)
  rw [e27, obind_s, dT p27, cnd_t, dT (show v27 < ((9 : Nat) : Int) from q27), cnd_t]
  refine ⟨[[(0 : Int), dv v0, dv v1, dv v3, dv v6, dv v10, dv v15, dv v21], [dv v0, (0 : Int), dv v2, dv v4, dv v7, dv v11, dv v16, dv v22], [dv v1, dv v2, (0 : Int), dv v5, dv v8, dv v12, dv v17, dv v23], [dv v3, dv v4, dv v5, (0 : Int), dv v9, dv v13, dv v18, dv v24], [dv v6, dv v7, dv v8, dv v9, (0 : Int), dv v14, dv v19, dv v25], [dv v10, dv v11, dv v12, dv v13, dv v14, (0 : Int), dv v20, dv v26], [dv v15, dv v16, dv v17, dv v18, dv v19, dv v20, (0 : Int), dv v27], [dv v21, dv v22, dv v23, dv v24, dv v25, dv v26, dv v27, (0 : Int)]], n27, rfl, ?_⟩
  have d0 := dv_rng v0
  have d1 := dv_rng v1
  have d2 := dv_rng v2
  have d3 := dv_rng v3
  have d4 := dv_rng v4
  have d5 := dv_rng v5
  have d6 := dv_rng v6
  have d7 := dv_rng v7
  have d8 := dv_rng v8
  have d9 := dv_rng v9
  have d10 := dv_rng v10
  have d11 := dv_rng v11
  have d12 := dv_rng v12
  have d13 := dv_rng v13
  have d14 := dv_rng v14
  have d15 := dv_rng v15
  have d16 := dv_rng v16
  have d17 := dv_rng v17
  have d18 := dv_rng v18
  have d19 := dv_rng v19
  have d20 := dv_rng v20
  have d21 := dv_rng v21
  have d22 := dv_rng v22
  have d23 := dv_rng v23
  have d24 := dv_rng v24
  have d25 := dv_rng v25
  have d26 := dv_rng v26
  have d27 := dv_rng v27
  generalize dv v0 = w0 at *
  generalize dv v1 = w1 at *
  generalize dv v2 = w2 at *
  generalize dv v3 = w3 at *
  generalize dv v4 = w4 at *
  generalize dv v5 = w5 at *
  generalize dv v6 = w6 at *
  generalize dv v7 = w7 at *
  generalize dv v8 = w8 at *
  generalize dv v9 = w9 at *
  generalize dv v10 = w10 at *
  generalize dv v11 = w11 at *
  generalize dv v12 = w12 at *
  generalize dv v13 = w13 at *
  generalize dv v14 = w14 at *
  generalize dv v15 = w15 at *
  generalize dv v16 = w16 at *
  generalize dv v17 = w17 at *
  generalize dv v18 = w18 at *
  generalize dv v19 = w19 at *
  generalize dv v20 = w20 at *
  generalize dv v21 = w21 at *
  generalize dv v22 = w22 at *
  generalize dv v23 = w23 at *
  generalize dv v24 = w24 at *
  generalize dv v25 = w25 at *
  generalize dv v26 = w26 at *
  generalize dv v27 = w27 at *
  refine ⟨rfl, lt8 rfl rfl rfl rfl rfl rfl rfl rfl, ?_, fun i j hi hj => lt8 (P := fun i => ∀ j, j < 8 → gd [[(0 : Int), w0, w1, w3, w6, w10, w15, w21], [w0, (0 : Int), w2, w4, w7, w11, w16, w22], [w1, w2, (0 : Int), w5, w8, w12, w17, w23], [w3, w4, w5, (0 : Int), w9, w13, w18, w24], [w6, w7, w8, w9, (0 : Int), w14, w19, w25], [w10, w11, w12, w13, w14, (0 : Int), w20, w26], [w15, w16, w17, w18, w19, w20, (0 : Int), w27], [w21, w22, w23, w24, w25, w26, w27, (0 : Int)]] i j = gd [[(0 : Int), w0, w1, w3, w6, w10, w15, w21], [w0, (0 : Int), w2, w4, w7, w11, w16, w22], [w1, w2, (0 : Int), w5, w8, w12, w17, w23], [w3, w4, w5, (0 : Int), w9, w13, w18, w24], [w6, w7, w8, w9, (0 : Int), w14, w19, w25], [w10, w11, w12, w13, w14, (0 : Int), w20, w26], [w15, w16, w17, w18, w19, w20, (0 : Int), w27], [w21, w22, w23, w24, w25, w26, w27, (0 : Int)]] j i) (lt8 rfl rfl rfl rfl rfl rfl rfl rfl) (lt8 rfl rfl rfl rfl rfl rfl rfl rfl) (lt8 rfl rfl rfl rfl rfl rfl rfl rfl) (lt8 rfl rfl rfl rfl rfl rfl rfl rfl) (lt8 rfl rfl rfl rfl rfl rfl rfl rfl) (lt8 rfl rfl rfl rfl rfl rfl rfl rfl) (lt8 rfl rfl rfl rfl rfl rfl rfl rfl) (lt8 rfl rfl rfl rfl rfl rfl rfl rfl) i hi j hj⟩
  have z : (0 : Int) ≤ 0 ∧ (0 : Int) ≤ 1000 := ⟨by omega, by omega⟩
  refine fun i j hi hj => lt8 (P := fun i => ∀ j, j < 8 → 0 ≤ gd [[(0 : Int), w0, w1, w3, w6, w10, w15, w21], [w0, (0 : Int), w2, w4, w7, w11, w16, w22], [w1, w2, (0 : Int), w5, w8, w12, w17, w23], [w3, w4, w5, (0 : Int), w9, w13, w18, w24], [w6, w7, w8, w9, (0 : Int), w14, w19, w25], [w10, w11, w12, w13, w14, (0 : Int), w20, w26], [w15, w16, w17, w18, w19, w20, (0 : Int), w27], [w21, w22, w23, w24, w25, w26, w27, (0 : Int)]] i j ∧ gd [[(0 : Int), w0, w1, w3, w6, w10, w15, w21], [w0, (0 : Int), w2, w4, w7, w11, w16, w22], [w1, w2, (0 : Int), w5, w8, w12, w17, w23], [w3, w4, w5, (0 : Int), w9, w13, w18, w24], [w6, w7, w8, w9, (0 : Int), w14, w19, w25], [w10, w11, w12, w13, w14, (0 : Int), w20, w26], [w15, w16, w17, w18, w19, w20, (0 : Int), w27], [w21, w22, w23, w24, w25, w26, w27, (0 : Int)]] i j ≤ 1000) ?_ ?_ ?_ ?_ ?_ ?_ ?_ ?_ i hi j hj
  · exact lt8 z d0 d1 d3 d6 d10 d15 d21
  · exact lt8 d0 z d2 d4 d7 d11 d16 d22
  · exact lt8 d1 d2 z d5 d8 d12 d17 d23
  · exact lt8 d3 d4 d5 z d9 d13 d18 d24
  · exact lt8 d6 d7 d8 d9 z d14 d19 d25
  · exact lt8 d10 d11 d12 d13 d14 z d20 d26
  · exact lt8 d15 d16 d17 d18 d19 d20 z d27
  · exact lt8 d21 d22 d23 d24 d25 d26 d27 z
theorem loop_post {σ ρ β : Type} {f : σ → Option (σ ⊕ ρ)} {k : ρ → Option β} {x : σ} {N : Nat} (Q : Option β → Prop) (I : σ → Prop) (m : σ → Nat) (J : ρ → Prop) (hx : I x) (hm : m x < N) (hk : ∀ r, J r → Q (k r))
    (hs : ∀ x, I x → (∃ y, f x = some (.inl y) ∧ I y ∧ m y < m x) ∨ ∃ r, f x = some (.inr r) ∧ J r) : Q (obind (loopN N f x) k) := by
  obtain ⟨r, h1, h2⟩ := loopN_run I m J hs N x hx hm
  rw [h1]; exact hk r h2
def S8 (l : List Int) : Prop := ∀ b ∈ l, 1 ≤ b ∧ b ≤ 8
def G (D : List (List Int)) (a b : Int) : Int := gd D (a - 1).toNat (b - 1).toNat
def far (D : List (List Int)) (a : Int) (l : List Int) : Int := l.foldl (fun m b => max m (G D a b)) 0
theorem take_snoc (l : List Int) (j : Nat) (h : j < l.length) : l.take (j + 1) = l.take j ++ [l.getD j 0] := by
  rw [List.take_add_one, List.getD_eq_getElem?_getD, List.getElem?_eq_getElem h]; rfl
theorem getD_mem (l : List Int) (j : Nat) (h : j < l.length) : l.getD j 0 ∈ l := by
  rw [List.getD_eq_getElem?_getD, List.getElem?_eq_getElem h]
  exact List.getElem_mem h
theorem far_snoc (D : List (List Int)) (a : Int) (l : List Int) (b : Int) : far D a (l ++ [b]) = max (far D a l) (G D a b) := by
  unfold far; rw [List.foldl_append]; rfl
theorem row_eq {D : List (List Int)} (hD : GD D) {a : Int} (ha : 1 ≤ a ∧ a ≤ 8) : ((D.getD (a - 1).toNat []).length : Int) = 8 := by
  have := hD.row (a - 1).toNat (by omega); omega
theorem len_eq {D : List (List Int)} (hD : GD D) : (D.length : Int) = 8 := by
  have := hD.len; omega
theorem between_eq (N : Nat) {D : List (List Int)} (hD : GD D) {a b : Int} (ha : 1 ≤ a ∧ a ≤ 8) (hb : 1 ≤ b ∧ b ≤ 8) : W_mid_between N (D, a, b) = some (G D a b) := by
  unfold W_mid_between V_mid_between
  try simp only
  rw [wr_m (z := a - 1) (by omega) (by omega), wr_m (z := b - 1) (by omega) (by omega), row_eq hD ha, len_eq hD]
  rw [dF (show ¬ a < 1 by omega), cnd_f, dF (show ¬ 8 < a by omega), obind_s, cnd_f, dF (show ¬ b < 1 by omega), obind_s, cnd_f, dT (show 0 ≤ a - 1 by omega), dT (show a - 1 < 8 by omega), Bool.and_self, cnd_t, dF (show ¬ 8 < b by omega), cnd_f, cnd_t, dT (show 0 ≤ b - 1 by omega), dT (show b - 1 < 8 by omega), Bool.and_self, cnd_t]
  rfl
theorem Far_eq (N : Nat) {D : List (List Int)} (hD : GD D) {a : Int} (ha : 1 ≤ a ∧ a ≤ 8) {l : List Int} (hl : S8 l) (hlen : l.length ≤ 900) (hN : 1000 ≤ N) : W_mid_Far N (D, a, l) = some (far D a l) := by
  unfold W_mid_Far V_mid_Far
  try simp only
  refine loop_post (fun o => o = some (far D a l)) (fun v => 0 ≤ v.2 ∧ v.2 ≤ l.length ∧ v.1 = far D a (l.take v.2.toNat)) (fun v => l.length - v.2.toNat) (fun r => r = far D a l) ⟨by simp, by simp, rfl⟩ (by simp; omega) (fun r h => by rw [h]) ?_
  rintro ⟨m, i⟩ ⟨g1, g2, g3⟩
  simp only at g1 g2 g3 ⊢
  by_cases h : i < l.length
  · left
    have hb := hl _ (getD_mem l i.toNat (by omega))
    rw [dT h, cnd_t, dT g1, Bool.and_self, cnd_t, between_eq N hD ha hb, obind_s, wr_m (by omega) (by omega)]
    refine ⟨_, rfl, ⟨by omega, by omega, ?_⟩, by omega⟩
    try simp only
    rw [show (i + 1).toNat = i.toNat + 1 by omega, take_snoc l _ (by omega), far_snoc, g3]
  · right
    rw [dF h, cnd_f]
    refine ⟨_, rfl, ?_⟩
    rw [g3, List.take_of_length_le (by omega)]
/-- The least of a list by a measure, then by itself. -/
def Least (F : Int → Int) (l : List Int) (w : Int) : Prop := w ∈ l ∧ ∀ x ∈ l, F w < F x ∨ (F w = F x ∧ w ≤ x)
theorem Least_one {F : Int → Int} {l : List Int} {v w : Int} (hv : Least F l v) (hw : Least F l w) : v = w := by
  have h1 := hv.2 w hw.1
  have h2 := hw.2 v hv.1
  omega
theorem Least_snoc {F : Int → Int} {l : List Int} {w b : Int} (h : Least F l w) : Least F (l ++ [b]) (if F b < F w ∨ F w = F b ∧ b < w then b else w) := by
  by_cases c : F b < F w ∨ F w = F b ∧ b < w
  · rw [if_pos c]
    refine ⟨by simp, fun x hx => ?_⟩
    rcases List.mem_append.1 hx with hx | hx
    · have := h.2 x hx; omega
    · rw [List.mem_singleton.1 hx]; omega
  · rw [if_neg c]
    refine ⟨List.mem_append.2 (.inl h.1), fun x hx => ?_⟩
    rcases List.mem_append.1 hx with hx | hx
    · exact h.2 x hx
    · rw [List.mem_singleton.1 hx]; omega
theorem Least_first {F : Int → Int} {b : Int} : Least F [b] b := ⟨by simp, fun x hx => by rw [List.mem_singleton.1 hx]; omega⟩
theorem better_l (N : Nat) (u : Unit) (a f : Int) : W_mid_better N (.inl u, a, f) = some (a, f) := rfl
theorem better_r (N : Nat) (w g a f : Int) : W_mid_better N (.inr (w, g), a, f) = some (if f < g ∨ g = f ∧ a < w then (a, f) else (w, g)) := by
  unfold W_mid_better V_mid_better
  try simp only
  rw [selim_r]
  by_cases h : g < f
  · rw [dT h, cnd_t, if_neg (by omega)]
  rw [dF h, cnd_f]
  by_cases h2 : g = f
  · rw [dT h2, cnd_t]
    by_cases h3 : w < a
    · rw [dT h3, cnd_t, if_neg (by omega)]
    · rw [dF h3, cnd_f]
      by_cases h4 : a < w
      · rw [if_pos (.inr ⟨h2, h4⟩)]
      · rw [if_neg (by omega), show a = w by omega, h2]
  · rw [dF h2, cnd_f, if_pos (by omega)]
/-- What the search for the least has: nothing from an empty list, the least from another. -/
def Sofar (F : Int → Int) (l : List Int) (c : Unit ⊕ (Int × Int)) : Prop := (l = [] ∧ c = .inl ()) ∨ ∃ w, c = .inr (w, F w) ∧ Least F l w
theorem Sofar_snoc (N : Nat) {F : Int → Int} {l : List Int} {c : Unit ⊕ (Int × Int)} (h : Sofar F l c) (b : Int) : ∃ p : Int × Int, W_mid_better N (c, b, F b) = some p ∧ Sofar F (l ++ [b]) (.inr p) := by
  rcases h with ⟨rfl, rfl⟩ | ⟨w, rfl, hw⟩
  · exact ⟨_, better_l N () b (F b), .inr ⟨b, rfl, Least_first⟩⟩
  · rw [better_r]
    refine ⟨_, rfl, .inr ⟨_, ?_, Least_snoc (b := b) hw⟩⟩
    by_cases c : F b < F w ∨ F w = F b ∧ b < w
    · rw [if_pos c, if_pos c]
    · rw [if_neg c, if_neg c]
def Who (F : Int → Int) (l : List Int) (v : Int) : Prop := (l = [] ∧ v = 0) ∨ Least F l v
theorem Sofar_who (N : Nat) {F : Int → Int} {l : List Int} {c : Unit ⊕ (Int × Int)} (h : Sofar F l c) : ∃ v, W_mid_who N c = some v ∧ Who F l v := by
  rcases h with ⟨rfl, rfl⟩ | ⟨w, rfl, hw⟩
  · exact ⟨0, rfl, .inl ⟨rfl, rfl⟩⟩
  · exact ⟨w, rfl, .inr hw⟩
theorem Near_spec (N : Nat) {D : List (List Int)} (hD : GD D) {a : Int} (ha : 1 ≤ a ∧ a ≤ 8) {l : List Int} (hl : S8 l) (hlen : l.length ≤ 900) (hN : 1000 ≤ N) : ∃ v, W_mid_Near N (D, a, l) = some v ∧ Who (fun x => G D a x) (l.filter fun x => decide (x ≠ a)) v := by
  unfold W_mid_Near V_mid_Near
  try simp only
  refine loop_post (fun o => ∃ v, o = some v ∧ Who (fun x => G D a x) (l.filter fun x => decide (x ≠ a)) v) (fun v => 0 ≤ v.2 ∧ v.2 ≤ l.length ∧ Sofar (fun x => G D a x) ((l.take v.2.toNat).filter fun x => decide (x ≠ a)) v.1) (fun v => l.length - v.2.toNat) (fun r => Sofar (fun x => G D a x) (l.filter fun x => decide (x ≠ a)) r) ⟨by simp, by simp, .inl ⟨rfl, rfl⟩⟩ (by simp; omega) (fun r h => ?_) ?_
  · obtain ⟨v, e, h⟩ := Sofar_who N h
    rw [e]; exact ⟨v, rfl, h⟩
  rintro ⟨m, i⟩ ⟨g1, g2, g3⟩
  simp only at g1 g2 g3 ⊢
  by_cases h : i < l.length
  · left
    have hb := hl _ (getD_mem l i.toNat (by omega))
    have ht : l.take (i + 1).toNat = l.take i.toNat ++ [l.getD i.toNat 0] := by rw [show (i + 1).toNat = i.toNat + 1 by omega, take_snoc l _ (by omega)]
    rw [dT h, cnd_t, dT g1, Bool.and_self, cnd_t, wr_m (z := i + 1) (by omega) (by omega)]
    generalize l.getD i.toNat 0 = b at *
    by_cases hba : b = a
    · refine ⟨(m, i + 1), cnd_F (fun c => c hba), ⟨by omega, by omega, ?_⟩, by simp only; omega⟩
      try simp only
      rw [ht, List.filter_append, show List.filter (fun x => decide (x ≠ a)) [b] = [] by simp [hba], List.append_nil]
      exact g3
    · obtain ⟨p, e, hp⟩ := Sofar_snoc N g3 b
      refine ⟨(.inr p, i + 1), (cnd_T hba).trans ?_, ⟨by omega, by omega, ?_⟩, by simp only; omega⟩
      · rw [between_eq N hD ha hb, obind_s, e, obind_s]
      · simp only
        rw [ht, List.filter_append, show List.filter (fun x => decide (x ≠ a)) [b] = [b] by simp [hba]]
        exact hp
  · right
    rw [dF h, cnd_f]
    refine ⟨_, rfl, ?_⟩
    rw [List.take_of_length_le (by omega)] at g3
    exact g3
theorem Has_eq (N : Nat) (l : List Int) (a : Int) (hlen : l.length ≤ 900) (hN : 1000 ≤ N) : W_ref1_Has N (l, a) = some (decide (a ∈ l)) := by
  unfold W_ref1_Has V_ref1_Has
  try simp only
  refine loop_post (fun o => o = some (decide (a ∈ l))) (fun v => 0 ≤ v ∧ v ≤ l.length ∧ a ∉ l.take v.toNat) (fun v => l.length - v.toNat) (fun r => (r = .inl () ∧ a ∉ l) ∨ (r = .inr true ∧ a ∈ l)) ⟨by simp, by simp, by simp⟩ (by simp; omega) (fun r h => ?_) ?_
  · rcases h with ⟨rfl, h⟩ | ⟨rfl, h⟩
    · rw [selim_l, dF h]
    · rw [selim_r, dT h]
  rintro i ⟨g1, g2, g3⟩
  by_cases h : i < l.length
  · rw [dT h, cnd_t, dT g1, Bool.and_self, cnd_t]
    by_cases e : l.getD i.toNat 0 = a
    · right
      rw [dT e, cnd_t]
      exact ⟨_, rfl, .inr ⟨rfl, e ▸ getD_mem l i.toNat (by omega)⟩⟩
    · left
      rw [dF e, cnd_f, wr_m (by omega) (by omega)]
      refine ⟨_, rfl, ⟨by omega, by omega, ?_⟩, by omega⟩
      rw [show (i + 1).toNat = i.toNat + 1 by omega, take_snoc l _ (by omega)]
      intro hm
      rcases List.mem_append.1 hm with hm | hm
      · exact g3 hm
      · exact e (List.mem_singleton.1 hm).symm
  · right
    rw [dF h, cnd_f]
    rw [List.take_of_length_le (by omega)] at g3
    exact ⟨_, rfl, .inl ⟨rfl, g3⟩⟩
abbrev Up (l : List Int) : Prop := l.Pairwise (· < ·)
theorem Up_nodup {l : List Int} (h : Up l) : l.Nodup := h.imp fun h => by omega
theorem Up_eq : ∀ {l m : List Int}, Up l → Up m → (∀ x, x ∈ l ↔ x ∈ m) → l = m
  | [], [], _, _, _ => rfl
  | [], b :: m, _, _, h => by have := (h b).2 (List.mem_cons_self ..); cases this
  | a :: l, [], _, _, h => by have := (h a).1 (List.mem_cons_self ..); cases this
  | a :: l, b :: m, hl, hm, h => by
    have hl' := List.pairwise_cons.1 hl
    have hm' := List.pairwise_cons.1 hm
    have hab : a = b := by
      rcases List.mem_cons.1 ((h a).1 (List.mem_cons_self ..)) with e | e
      · exact e
      rcases List.mem_cons.1 ((h b).2 (List.mem_cons_self ..)) with e2 | e2
      · exact e2.symm
      · have h1 := hm'.1 a e; have h2 := hl'.1 b e2; omega
    subst hab
    rw [Up_eq hl'.2 hm'.2 fun x => ?_]
    constructor
    · intro hx
      rcases List.mem_cons.1 ((h x).1 (List.mem_cons_of_mem _ hx)) with e | e
      · have := hl'.1 x hx; omega
      · exact e
    · intro hx
      rcases List.mem_cons.1 ((h x).2 (List.mem_cons_of_mem _ hx)) with e | e
      · have := hm'.1 x hx; omega
      · exact e
theorem Up_snoc {l : List Int} {b : Int} (h : Up l) (hb : ∀ x ∈ l, x < b) : Up (l ++ [b]) := by
  rw [Up, List.pairwise_append]
  exact ⟨h, by simp, fun x hx y hy => by rw [List.mem_singleton.1 hy]; exact hb x hx⟩
/-- What is laid in, in its order. -/
def ins (l m : List Int) : List Int := (l ++ m).mergeSort fun a b => decide (a ≤ b)
theorem ins_mem {l m : List Int} {x : Int} : x ∈ ins l m ↔ x ∈ l ∨ x ∈ m := by
  unfold ins
  rw [List.mem_mergeSort, List.mem_append]
theorem ins_len {l m : List Int} : (ins l m).length = l.length + m.length := by
  unfold ins
  rw [List.length_mergeSort, List.length_append]
theorem ins_up {l m : List Int} (h : (l ++ m).Nodup) : Up (ins l m) := by
  have h1 : (ins l m).Nodup := (List.mergeSort_perm _ _).nodup_iff.2 h
  have h2 : (ins l m).Pairwise (fun a b => decide (a ≤ b) = true) := List.pairwise_mergeSort (fun a b c h1 h2 => by simp only [decide_eq_true_eq] at h1 h2 ⊢; omega) (fun a b => by simp only [Bool.or_eq_true, decide_eq_true_eq]; omega) _
  exact (h2.and h1).imp fun ⟨p, q⟩ => by simp only [decide_eq_true_eq] at p; omega
/-- What is left without one. -/
def les (l : List Int) (k : Int) : List Int := l.filter fun x => decide (x ≠ k)
theorem les_mem {l : List Int} {k x : Int} : x ∈ les l k ↔ x ∈ l ∧ x ≠ k := by
  unfold les
  rw [List.mem_filter, decide_eq_true_eq]
theorem les_up {l : List Int} {k : Int} (h : Up l) : Up (les l k) := h.filter _
theorem les_len : ∀ {l : List Int} {k : Int}, l.Nodup → k ∈ l → (les l k).length + 1 = l.length
  | [], k, _, h => nomatch h
  | a :: l, k, hn, h => by
    have hn' := List.nodup_cons.1 hn
    unfold les
    by_cases e : a = k
    · subst e
      rw [List.filter_cons_of_neg (by simp)]
      rw [List.filter_eq_self.2 fun x hx => by simp only [decide_eq_true_eq]; intro q; exact hn'.1 (q ▸ hx)]
      rfl
    · rw [List.filter_cons_of_pos (by simpa using e)]
      rcases List.mem_cons.1 h with h | h
      · exact absurd h.symm e
      · have := les_len hn'.2 h
        unfold les at this
        simp only [List.length_cons]; omega
theorem les_le {l : List Int} {k : Int} : (les l k).length ≤ l.length := List.length_filter_le _ _
theorem Clone_i (N : Nat) (l : List Int) (hl : l.length ≤ 1000) : W_slices_Clone_int N l = some l := by
  unfold W_slices_Clone_int V_slices_Clone_int
  rw [dT (show l.length * 8 ≤ 140737488355328 by omega), cnd_t]
theorem with_eq (N : Nat) (l m : List Int) (hl : l.length ≤ 900) (hm : m.length ≤ 900) (h0 : 0 < m.length) : W_clus_with N (l, m) = some (ins l m) := by
  have hs : W_slices_Sort_int N (l ++ m) = some (ins l m) := by
    unfold W_slices_Sort_int ins
    rw [dT (show 0 < (l ++ m).length by rw [List.length_append]; omega), dT (show (l ++ m).length ≤ 140737488355328 by rw [List.length_append]; omega), Bool.and_self, cnd_t]
  unfold W_clus_with V_clus_with
  try simp only
  rw [Clone_i N l (by omega), obind_s, dT (show (l.length + m.length) * 8 ≤ 140737488355328 by omega), cnd_t, hs, obind_s]
  exact cnd_T (by rw [ins_len, List.length_append])
theorem apart_eq (N : Nat) {D : List (List Int)} (hD : GD D) {a b : Int} (ha : 1 ≤ a ∧ a ≤ 8) (hb : 1 ≤ b ∧ b ≤ 8) (hN : 1000 ≤ N) : W_clus_apart N (D, a, b) = some (far D a [b]) := by
  unfold W_clus_apart V_clus_apart
  try simp only
  rw [Far_eq N hD ha (fun x hx => by rw [List.mem_singleton.1 hx]; exact hb) (by simp) hN, obind_s]
theorem rises_eq (N : Nat) {l : List Int} (hl : S8 l) (hu : Up l) (hlen : l.length ≤ 900) (hN : 1000 ≤ N) : W_clus_rises N l = some true := by
  unfold W_clus_rises V_clus_rises
  refine loop_post (σ := Int × Int) (ρ := Unit ⊕ Bool) (β := Bool) (fun o => o = some true) (fun v => (0 ≤ v.2 ∧ v.2 ≤ l.length) ∧ ∀ x ∈ l.drop v.2.toNat, v.1 < x) (fun v => l.length - v.2.toNat) (fun r => r = .inl ()) ⟨⟨by simp, by simp⟩, fun x hx => by have := hl x (List.mem_of_mem_drop hx); simp only; omega⟩ (by simp; omega) (fun r h => by rw [h, selim_l]) ?_
  rintro ⟨m, i⟩ ⟨⟨g1, g2⟩, g3⟩
  simp only at g1 g2 g3 ⊢
  by_cases h : i < l.length
  · left
    have hj : i.toNat < l.length := by omega
    have hd : l.drop i.toNat = l[i.toNat] :: l.drop (i.toNat + 1) := List.drop_eq_getElem_cons hj
    have hg : l.getD i.toNat 0 = l[i.toNat] := by rw [List.getD_eq_getElem?_getD, List.getElem?_eq_getElem hj]; rfl
    have hb := hl _ (getD_mem l i.toNat hj)
    rw [hd] at g3
    have h1 := g3 _ (List.mem_cons_self ..)
    have hud : Up (l.drop i.toNat) := List.Pairwise.drop hu
    rw [hd] at hud
    rw [dT h, cnd_t, dT g1, Bool.and_self, cnd_t, dF (show ¬ l.getD i.toNat 0 ≤ m by rw [hg]; omega), cnd_f, dF (show ¬ 8 < l.getD i.toNat 0 by omega), cnd_f, wr_m (by omega) (by omega)]
    refine ⟨_, rfl, ⟨⟨by simp only; omega, by simp only; omega⟩, ?_⟩, by simp only; omega⟩
    try simp only
    rw [hg, show (i + 1).toNat = i.toNat + 1 by omega]
    exact (List.pairwise_cons.1 hud).1
  · right
    rw [dF h, cnd_f]
    exact ⟨_, rfl, rfl⟩
theorem without_eq (N : Nat) (l : List Int) (k : Int) (h0 : 0 < l.length) (hl : l.length ≤ 900) : W_clus_without N (l, k) = some (les l k) := by
  unfold W_clus_without V_clus_without
  try simp only
  rw [Clone_i N l (by omega), obind_s]
  have e : W_slices_DeleteFunc_int__clus_without_1 N (l, k) = some (k, les l k) := by
    unfold W_slices_DeleteFunc_int__clus_without_1 les
    try simp only
    rw [dT h0, dT (show l.length ≤ 140737488355328 by omega), Bool.and_self, cnd_t]
    have : (fun (a : Int) => !decide (a = k)) = fun a => decide (a ≠ k) := by
      funext a
      by_cases h : a = k <;> simp [h]
    rw [this]
  rw [e, obind_s]
theorem Some_up (N : Nat) (t : Int) (l : List Int) (n : Int) (hU : U8 l) (hl : l.length ≤ 900) (h0 : 0 ≤ n) (h1 : n ≤ l.length) (ht : 0 ≤ t ∧ t ≤ 8) (hN : 1000 ≤ N) : ∃ L l' n', W_Picks_Some N (t, l, n) = some (L, l', n') ∧ S8 L ∧ L.length ≤ 8 ∧ t ≤ L.length ∧ Up L := by
  unfold W_Picks_Some V_Picks_Some
  try simp only
  refine loop_post (σ := Int × (List Int × Int) × List Int) (ρ := List Int × List Int × Int) (β := List Int × List Int × Int) (fun o => ∃ L l' n', o = some (L, l', n') ∧ S8 L ∧ L.length ≤ 8 ∧ t ≤ L.length ∧ Up L) (fun v => (1 ≤ v.1 ∧ v.1 ≤ 9) ∧ v.2.1.1 = l ∧ (0 ≤ v.2.1.2 ∧ v.2.1.2 ≤ l.length) ∧ S8 v.2.2 ∧ v.2.2.length ≤ v.1 - 1 ∧ t - v.2.2.length ≤ 9 - v.1 ∧ Up v.2.2 ∧ ∀ b ∈ v.2.2, b < v.1) (fun v => 9 - v.1.toNat) (fun r => S8 r.1 ∧ r.1.length ≤ 8 ∧ t ≤ r.1.length ∧ Up r.1) ⟨⟨by simp, by simp⟩, rfl, ⟨h0, h1⟩, (fun b hb => by cases hb), by simp, by simp; omega, by simp, fun b hb => by cases hb⟩ (by simp; omega) (fun r h => ?_) ?_
  · obtain ⟨a, b, c⟩ := r
    exact ⟨_, _, _, rfl, h⟩
  rintro ⟨i, ⟨l2, k⟩, L⟩ ⟨⟨g1, g2⟩, g3, ⟨g4, g5⟩, g6, g7, g8, g9, gA⟩
  simp only at g1 g2 g3 g4 g5 g6 g7 g8 g9 gA ⊢
  subst g3
  by_cases h : i ≤ 8
  · left
    have hap : S8 (L ++ [i]) := fun b hb => by
      rcases List.mem_append.1 hb with hb | hb
      · exact g6 b hb
      · rw [List.mem_singleton.1 hb]; omega
    have hlt : ∀ b ∈ L ++ [i], b < i + 1 := fun b hb => by
      rcases List.mem_append.1 hb with hb | hb
      · have := gA b hb; omega
      · rw [List.mem_singleton.1 hb]; omega
    have hup := Up_snoc g9 gA
    have hll : (L ++ [i]).length = L.length + 1 := by rw [List.length_append, List.length_singleton]
    obtain ⟨v, k', e, p, q, r, s⟩ := Num_spec N 2 l2 k hU (by omega) g4 g5 (by omega) (by omega)
    rw [dT h, cnd_t, e, obind_s]
    try simp only
    rw [wr_m (z := i + 1) (by omega) (by omega)]
    have hc : (List.length L + List.length [i]) * 8 ≤ 140737488355328 := by rw [List.length_singleton]; omega
    by_cases hv : v = 0
    · rw [dT hv, cnd_t, dT hc, cnd_t]
      exact ⟨_, rfl, ⟨⟨by omega, by omega⟩, rfl, ⟨r, s⟩, hap, by simp only [hll]; omega, by simp only [hll]; omega, hup, hlt⟩, by simp only; omega⟩
    rw [dF hv, cnd_f]
    rw [wr_m (by omega) (by omega), wr_m (by omega) (by omega)]
    by_cases hd : 8 - i < t - L.length
    · rw [dT hd, cnd_t, dT hc, cnd_t]
      exact ⟨_, rfl, ⟨⟨by omega, by omega⟩, rfl, ⟨r, s⟩, hap, by simp only [hll]; omega, by simp only [hll]; omega, hup, hlt⟩, by simp only; omega⟩
    · rw [dF hd, cnd_f]
      exact ⟨_, rfl, ⟨⟨by omega, by omega⟩, rfl, ⟨r, s⟩, g6, by simp only; omega, by simp only; omega, g9, fun b hb => by have := gA b hb; simp only; omega⟩, by simp only; omega⟩
  · right
    rw [dF h, cnd_f]
    exact ⟨_, rfl, g6, by simp only; omega, by simp only; omega, g9⟩
theorem Rising_up (N : Nat) (l : List Int) (hlen : l.length ≤ 900) (hN : 1000 ≤ N) : ∃ R, W_ref7_Rising N l = some R ∧ Up R ∧ ∀ x, x ∈ R ↔ (1 ≤ x ∧ x ≤ 8) ∧ x ∈ l := by
  unfold W_ref7_Rising V_ref7_Rising
  refine loop_post (σ := Int × List Int) (ρ := List Int) (β := List Int) (fun o => ∃ R, o = some R ∧ Up R ∧ ∀ x, x ∈ R ↔ (1 ≤ x ∧ x ≤ 8) ∧ x ∈ l) (fun v => (1 ≤ v.1 ∧ v.1 ≤ 9) ∧ (v.2.length ≤ v.1 - 1 ∧ Up v.2) ∧ ∀ x, x ∈ v.2 ↔ (1 ≤ x ∧ x < v.1) ∧ x ∈ l) (fun v => 9 - v.1.toNat) (fun r => Up r ∧ ∀ x, x ∈ r ↔ (1 ≤ x ∧ x ≤ 8) ∧ x ∈ l) ⟨⟨by simp, by simp⟩, ⟨by simp, by simp⟩, fun x => ⟨fun h => (by cases h), fun h => by have := h.1; simp only at this; omega⟩⟩ (by simp; omega) (fun r h => ⟨r, rfl, h⟩) ?_
  rintro ⟨i, R⟩ ⟨⟨g1, g2⟩, ⟨g3, g5⟩, g4⟩
  simp only at g1 g2 g3 g4 g5 ⊢
  by_cases h : i ≤ 8
  · left
    rw [dT h, cnd_t, Has_eq N l i hlen hN, obind_s, wr_m (by omega) (by omega)]
    by_cases hm : i ∈ l
    · rw [dT hm, cnd_t, dT (show (List.length R + List.length [i]) * 8 ≤ 140737488355328 by rw [List.length_singleton]; omega), cnd_t]
      refine ⟨_, rfl, ⟨⟨by omega, by omega⟩, ⟨by simp only [List.length_append, List.length_singleton]; omega, Up_snoc g5 fun x hx => ((g4 x).1 hx).1.2⟩, fun x => ?_⟩, by simp only; omega⟩
      simp only [List.mem_append, List.mem_singleton, g4]
      constructor
      · rintro (⟨hx, hm⟩ | rfl)
        · exact ⟨by omega, hm⟩
        · exact ⟨by omega, hm⟩
      · rintro ⟨hx, hm2⟩
        by_cases hxi : x = i
        · exact .inr hxi
        · exact .inl ⟨by omega, hm2⟩
    · rw [dF hm, cnd_f]
      refine ⟨_, rfl, ⟨⟨by omega, by omega⟩, ⟨by simp only; omega, g5⟩, fun x => ?_⟩, by simp only; omega⟩
      simp only [g4]
      constructor
      · rintro ⟨hx, hm⟩
        exact ⟨by omega, hm⟩
      · rintro ⟨hx, hm2⟩
        by_cases hxi : x = i
        · exact absurd (hxi ▸ hm2) hm
        · exact ⟨by omega, hm2⟩
  · right
    rw [dF h, cnd_f]
    refine ⟨_, rfl, g5, fun x => ?_⟩
    rw [g4]
    exact ⟨fun ⟨a, b⟩ => ⟨by omega, b⟩, fun ⟨a, b⟩ => ⟨by omega, b⟩⟩
theorem Rising_is (N : Nat) {l m : List Int} (hlen : l.length ≤ 900) (hN : 1000 ≤ N) (hm : Up m) (h8 : S8 m) (h : ∀ x, x ∈ l ↔ x ∈ m) : W_ref7_Rising N l = some m := by
  obtain ⟨R, e, h1, h2⟩ := Rising_up N l hlen hN
  rw [e, Up_eq h1 hm fun x => by rw [h2, h]; exact ⟨fun q => q.2, fun q => ⟨h8 x q, q⟩⟩]
theorem farthest_spec (N : Nat) {D : List (List Int)} (hD : GD D) {l : List Int} (hl : S8 l) (hu : Up l) (h2 : 2 ≤ l.length) (hlen : l.length ≤ 900) (hN : 1000 ≤ N) : ∃ lo hi, W_clus_farthest N (D, l) = some (.inl (lo, hi)) ∧ lo ∈ l ∧ hi ∈ l ∧ lo < hi := by
  unfold W_clus_farthest V_clus_farthest
  try simp only
  rw [dF (show ¬ (l.length : Int) < 2 by omega), cnd_f, rises_eq N hl hu hlen hN, obind_s, Bool.not_true, cnd_f, dT (Int.le_refl 0), dT (show (0 : Int) < l.length by omega), Bool.and_self, cnd_t, dT (show (0 : Int) ≤ 1 by omega), dT (show (1 : Int) < l.length by omega), Bool.and_self, cnd_t, List.take_length]
  have hlow : ∀ j : Nat, j < l.length → ∀ x ∈ l.drop (j + 1), l.getD j 0 < x := fun j hj => by
    have hd : l.drop j = l[j] :: l.drop (j + 1) := List.drop_eq_getElem_cons hj
    have hud : Up (l.drop j) := List.Pairwise.drop hu
    rw [hd] at hud
    have hg : l.getD j 0 = l[j] := by rw [List.getD_eq_getElem?_getD, List.getElem?_eq_getElem hj]; rfl
    rw [hg]
    exact (List.pairwise_cons.1 hud).1
  have h01 : l.getD 0 0 < l.getD 1 0 := hlow 0 (by omega) _ (by
    have e : (l.drop (0 + 1)).getD 0 0 = l.getD 1 0 := by simp [List.getD_eq_getElem?_getD]
    rw [← e]
    exact getD_mem _ _ (by rw [List.length_drop]; omega))
  refine loop_post (σ := Int × Int × Int) (ρ := Int × Int) (β := (Int × Int) ⊕ Unit) (fun o => ∃ lo hi, o = some (.inl (lo, hi)) ∧ lo ∈ l ∧ hi ∈ l ∧ lo < hi) (fun v => (0 ≤ v.1 ∧ v.1 ≤ l.length) ∧ v.2.1 ∈ l ∧ v.2.2 ∈ l ∧ v.2.1 < v.2.2) (fun v => l.length - v.1.toNat) (fun r => r.1 ∈ l ∧ r.2 ∈ l ∧ r.1 < r.2) ⟨⟨by simp, by simp⟩, getD_mem _ _ (by omega), getD_mem _ _ (by omega), h01⟩ (by simp; omega) (fun r h => ⟨_, _, rfl, h⟩) ?_
  rintro ⟨i, lo, hi⟩ ⟨⟨g1, g2⟩, g3, g4, g5⟩
  simp only at g1 g2 g3 g4 g5 ⊢
  by_cases h : i < l.length
  · left
    rw [dT h, cnd_t, dT g1, Bool.and_self, cnd_t, wr_m (z := i + 1) (by omega) (by omega), dT (show 0 ≤ i + 1 by omega), dT (show i + 1 ≤ l.length by omega), Bool.and_self, cnd_t, show (i + 1).toNat = i.toNat + 1 by omega]
    have hlo := hlow i.toNat (by omega)
    have him := getD_mem l i.toNat (by omega)
    have hrm : ∀ x ∈ l.drop (i.toNat + 1), x ∈ l := fun x hx => List.mem_of_mem_drop hx
    have hrl : (l.drop (i.toNat + 1)).length ≤ 900 := by rw [List.length_drop]; omega
    generalize l.drop (i.toNat + 1) = r at *
    generalize l.getD i.toNat 0 = a at *
    refine loop_post (σ := Int × Int × Int) (ρ := Int × Int) (β := (Int × Int × Int) ⊕ (Int × Int)) (fun o => ∃ y : Int × Int × Int, o = some (.inl y) ∧ ((0 ≤ y.1 ∧ y.1 ≤ l.length) ∧ y.2.1 ∈ l ∧ y.2.2 ∈ l ∧ y.2.1 < y.2.2) ∧ l.length - y.1.toNat < l.length - i.toNat) (fun v => (0 ≤ v.1 ∧ v.1 ≤ r.length) ∧ v.2.1 ∈ l ∧ v.2.2 ∈ l ∧ v.2.1 < v.2.2) (fun v => r.length - v.1.toNat) (fun q => q.1 ∈ l ∧ q.2 ∈ l ∧ q.1 < q.2) ⟨⟨by simp, by simp⟩, g3, g4, g5⟩ (by simp; omega) (fun q h => ⟨_, rfl, ⟨⟨by simp only; omega, by simp only; omega⟩, h⟩, by simp only; omega⟩) ?_
    rintro ⟨j, p, q⟩ ⟨⟨k1, k2⟩, k3, k4, k5⟩
    simp only at k1 k2 k3 k4 k5 ⊢
    by_cases hj : j < r.length
    · left
      have hb := getD_mem r j.toNat (by omega)
      rw [dT hj, cnd_t, dT k1, Bool.and_self, cnd_t]
      generalize r.getD j.toNat 0 = b at *
      have hbl := hrm b hb
      have hab := hlo b hb
      rw [apart_eq N hD (hl a him) (hl b hbl) hN, obind_s, apart_eq N hD (hl p k3) (hl q k4) hN, obind_s, wr_m (by omega) (by omega)]
      by_cases hc : far D p [q] < far D a [b]
      · rw [dT hc, cnd_t]
        exact ⟨_, rfl, ⟨⟨by simp only; omega, by simp only; omega⟩, him, hbl, hab⟩, by simp only; omega⟩
      · rw [dF hc, cnd_f]
        exact ⟨_, rfl, ⟨⟨by simp only; omega, by simp only; omega⟩, k3, k4, k5⟩, by simp only; omega⟩
    · right
      rw [dF hj, cnd_f]
      exact ⟨_, rfl, k3, k4, k5⟩
  · right
    rw [dF h, cnd_f]
    exact ⟨_, rfl, g3, g4, g5⟩
/-- s parted into a and b. -/
structure Pt (s a b : List Int) (lo hi : Int) : Prop where
  ua : Up a
  ub : Up b
  ma : ∀ x ∈ a, x ∈ s
  mb : ∀ x ∈ b, x ∈ s
  cov : ∀ x ∈ s, x ∈ a ∨ x ∈ b
  dis : ∀ x ∈ a, x ∉ b
  len : a.length + b.length = s.length
  la : hi ∉ a
  lb : lo ∉ b
theorem Pt.swap {s a b : List Int} {lo hi : Int} (h : Pt s a b lo hi) : Pt s b a hi lo :=
  ⟨h.ub, h.ua, h.mb, h.ma, fun x hx => (h.cov x hx).symm, fun x hx hy => h.dis x hy hx, by have := h.len; omega, h.lb, h.la⟩
theorem Pt.toA {s a b : List Int} {lo hi x : Int} (h : Pt s a b lo hi) (hs : ∀ y ∈ s, y < x) (hx : x ≠ hi) : Pt (s ++ [x]) (a ++ [x]) b lo hi where
  ua := Up_snoc h.ua fun y hy => hs y (h.ma y hy)
  ub := h.ub
  ma := fun y hy => by
    rcases List.mem_append.1 hy with hy | hy
    · exact List.mem_append.2 (.inl (h.ma y hy))
    · exact List.mem_append.2 (.inr hy)
  mb := fun y hy => List.mem_append.2 (.inl (h.mb y hy))
  cov := fun y hy => by
    rcases List.mem_append.1 hy with hy | hy
    · rcases h.cov y hy with q | q
      · exact .inl (List.mem_append.2 (.inl q))
      · exact .inr q
    · exact .inl (List.mem_append.2 (.inr hy))
  dis := fun y hy hb => by
    rcases List.mem_append.1 hy with hy | hy
    · exact h.dis y hy hb
    · have := hs y (h.mb y hb); rw [List.mem_singleton.1 hy] at this; omega
  len := by have := h.len; simp only [List.length_append, List.length_singleton]; omega
  la := fun hy => by
    rcases List.mem_append.1 hy with hy | hy
    · exact h.la hy
    · exact hx (List.mem_singleton.1 hy).symm
  lb := h.lb
theorem Pt.toB {s a b : List Int} {lo hi x : Int} (h : Pt s a b lo hi) (hs : ∀ y ∈ s, y < x) (hx : x ≠ lo) : Pt (s ++ [x]) a (b ++ [x]) lo hi := (h.swap.toA hs hx).swap
theorem Pt.give {s a b : List Int} {lo hi id : Int} (h : Pt s a b lo hi) (hid : id ∈ b) (hh : id ≠ hi) : Pt s (ins a [id]) (les b id) lo hi where
  ua := ins_up (by
    rw [List.nodup_append]
    refine ⟨Up_nodup h.ua, by simp, fun x hx y hy => ?_⟩
    rw [List.mem_singleton.1 hy]
    exact fun q => h.dis x hx (q ▸ hid))
  ub := les_up h.ub
  ma := fun x hx => by
    rcases ins_mem.1 hx with q | q
    · exact h.ma x q
    · rw [List.mem_singleton.1 q]; exact h.mb id hid
  mb := fun x hx => h.mb x (les_mem.1 hx).1
  cov := fun x hx => by
    rcases h.cov x hx with q | q
    · exact .inl (ins_mem.2 (.inl q))
    · by_cases e : x = id
      · exact .inl (ins_mem.2 (.inr (by simp [e])))
      · exact .inr (les_mem.2 ⟨q, e⟩)
  dis := fun x hx hb => by
    have hb := les_mem.1 hb
    rcases ins_mem.1 hx with q | q
    · exact h.dis x q hb.1
    · exact hb.2 (List.mem_singleton.1 q)
  len := by
    have := h.len
    have := les_len (Up_nodup h.ub) hid
    rw [ins_len, List.length_singleton]; omega
  la := fun q => by
    rcases ins_mem.1 q with q | q
    · exact h.la q
    · exact hh (List.mem_singleton.1 q).symm
  lb := fun q => h.lb (les_mem.1 q).1
theorem fill_spec (N : Nat) {D : List (List Int)} (hD : GD D) {s a b : List Int} {lo hi k : Int} (hs : S8 s) (hsl : s.length ≤ 8) (hlo : lo ∈ s) (hk : 1 ≤ k) (hP : Pt s a b lo hi) (hN : 1000 ≤ N) :
    ∃ a' b', W_clus_fill N (D, (lo, hi), a, b, k) = some (a', b') ∧ Pt s a' b' lo hi ∧ (k ≤ a'.length ∨ (b'.length : Int) ≤ k) ∧ (k ≤ b.length → k ≤ b'.length) := by
  unfold W_clus_fill V_clus_fill
  try simp only
  refine loop_post (σ := List Int × List Int × Int × Int) (ρ := List Int × List Int) (β := List Int × List Int) (fun o => ∃ a' b', o = some (a', b') ∧ Pt s a' b' lo hi ∧ (k ≤ a'.length ∨ (b'.length : Int) ≤ k) ∧ (k ≤ b.length → k ≤ b'.length)) (fun v => (v.2.2.1 = lo ∧ v.2.2.2 = hi) ∧ Pt s v.1 v.2.1 lo hi ∧ (k ≤ b.length → k ≤ v.2.1.length)) (fun v => v.2.1.length) (fun r => Pt s r.1 r.2 lo hi ∧ (k ≤ r.1.length ∨ (r.2.length : Int) ≤ k) ∧ (k ≤ b.length → k ≤ r.2.length)) ⟨⟨rfl, rfl⟩, hP, fun h => h⟩ (by have := hP.len; simp only; omega) (fun r h => ⟨_, _, rfl, h⟩) ?_
  rintro ⟨p, q, u, v⟩ ⟨⟨g1, g2⟩, g3, g4⟩
  simp only at g1 g2 g3 g4 ⊢
  subst g1 g2
  have hlen := g3.len
  by_cases h1 : (p.length : Int) < k
  · rw [dT h1, cnd_t]
    by_cases h2 : k < q.length
    · left
      rw [dT h2, cnd_t, without_eq N q v (by omega) (by omega), obind_s]
      obtain ⟨id, e, hw⟩ := Near_spec N hD (hs u hlo) (l := les q v) (fun x hx => hs x (g3.mb x (les_mem.1 hx).1)) (by have := les_le (l := q) (k := v); omega) hN
      have hid : id ∈ les q v := by
        rcases hw with ⟨h, _⟩ | h
        · exfalso
          have hq : 2 ≤ q.length := by omega
          have : ∃ y, y ∈ les q v := by
            by_cases hv : v ∈ q
            · have := les_len (Up_nodup g3.ub) hv
              obtain ⟨y, hy⟩ := List.exists_mem_of_length_pos (show 0 < (les q v).length by omega)
              exact ⟨y, hy⟩
            · obtain ⟨y, hy⟩ := List.exists_mem_of_length_pos (show 0 < q.length by omega)
              exact ⟨y, les_mem.2 ⟨hy, fun c => hv (c ▸ hy)⟩⟩
          obtain ⟨y, hy⟩ := this
          have : y ∈ (les q v).filter fun x => decide (x ≠ u) := by
            rw [List.mem_filter, decide_eq_true_eq]
            exact ⟨hy, fun c => g3.lb (c ▸ (les_mem.1 hy).1)⟩
          rw [h] at this
          cases this
        · exact (List.mem_filter.1 h.1).1
      have hid2 := les_mem.1 hid
      rw [e, obind_s, with_eq N p [id] (by omega) (by simp) (by simp), obind_s, without_eq N q id (by omega) (by omega), obind_s]
      have hl2 := les_len (Up_nodup g3.ub) hid2.1
      exact ⟨_, rfl, ⟨⟨rfl, rfl⟩, g3.give hid2.1 hid2.2, fun h => by have := g4 h; simp only; omega⟩, by simp only; omega⟩
    · right
      rw [dF h2, cnd_f]
      exact ⟨_, rfl, g3, .inr (by simp only; omega), g4⟩
  · right
    rw [dF h1, cnd_f]
    exact ⟨_, rfl, g3, .inl (by simp only; omega), g4⟩
theorem Split_spec (N : Nat) {D : List (List Int)} (hD : GD D) {l : List Int} {k : Int} (hl : S8 l) (hu : Up l) (h2 : 2 ≤ l.length) (h8 : l.length ≤ 8) (hk : 1 ≤ k) (hN : 1000 ≤ N) :
    ∃ a b lo hi, W_clus_Split N (D, l, k) = some (a, b) ∧ Pt l a b lo hi ∧ lo ∈ l ∧ hi ∈ l ∧ (2 * k ≤ l.length → k ≤ a.length ∧ k ≤ b.length) := by
  obtain ⟨lo, hi, e0, hlo, hhi, hlh⟩ := farthest_spec N hD hl hu h2 (by omega) hN
  unfold W_clus_Split V_clus_Split
  try simp only
  rw [e0, obind_s, selim_l]
  refine loop_post (σ := Int × List Int × List Int × Int × Int) (ρ := List Int × List Int × Int × Int) (β := List Int × List Int) (fun o => ∃ a b lo hi, o = some (a, b) ∧ Pt l a b lo hi ∧ lo ∈ l ∧ hi ∈ l ∧ (2 * k ≤ l.length → k ≤ a.length ∧ k ≤ b.length)) (fun v => (0 ≤ v.1 ∧ v.1 ≤ l.length) ∧ (v.2.2.2.1 = lo ∧ v.2.2.2.2 = hi) ∧ Pt (l.take v.1.toNat) v.2.1 v.2.2.1 lo hi) (fun v => l.length - v.1.toNat) (fun r => (r.2.2.1 = lo ∧ r.2.2.2 = hi) ∧ Pt l r.1 r.2.1 lo hi) ⟨⟨by simp, by simp⟩, ⟨rfl, rfl⟩, ⟨by simp, by simp, by simp, by simp, by simp, by simp, by simp, by simp, by simp⟩⟩ (by simp; omega) (fun r h => ?_) ?_
  · obtain ⟨a, b, u, v⟩ := r
    obtain ⟨⟨q1, q2⟩, hP⟩ := h
    simp only at q1 q2 hP ⊢
    subst q1 q2
    obtain ⟨a1, b1, e1, hP1, h3, h4⟩ := fill_spec N hD hl h8 hlo hk hP hN
    rw [e1, obind_s]
    try simp only
    obtain ⟨b2, a2, e2, hP2, h5, h6⟩ := fill_spec N hD hl h8 hhi hk hP1.swap hN
    rw [e2, obind_s]
    have l1 := hP1.len
    have l2 := hP2.len
    refine ⟨_, _, u, v, rfl, hP2.swap, hlo, hhi, fun hk2 => ?_⟩
    have h7 : k ≤ a2.length := h6 (by omega)
    show k ≤ (a2.length : Int) ∧ k ≤ (b2.length : Int)
    exact ⟨h7, by omega⟩
  rintro ⟨i, a, b, u, v⟩ ⟨⟨g1, g2⟩, ⟨g3, g4⟩, hP⟩
  simp only at g1 g2 g3 g4 hP ⊢
  subst g3 g4
  by_cases h : i < l.length
  · left
    have hst : ∀ y ∈ l.take i.toNat, y < l.getD i.toNat 0 := fun y hy => by
      have hx : l.getD i.toNat 0 ∈ l.drop i.toNat := by
        have e : (l.drop i.toNat).getD 0 0 = l.getD i.toNat 0 := by simp [List.getD_eq_getElem?_getD]
        rw [← e]; exact getD_mem _ _ (by rw [List.length_drop]; omega)
      have hu2 : Up (l.take i.toNat ++ l.drop i.toNat) := by rw [List.take_append_drop]; exact hu
      exact (List.pairwise_append.1 hu2).2.2 y hy _ hx
    have htk : l.take (i + 1).toNat = l.take i.toNat ++ [l.getD i.toNat 0] := by rw [show (i + 1).toNat = i.toNat + 1 by omega, take_snoc l _ (by omega)]
    have hx8 := hl _ (getD_mem l i.toNat (by omega))
    have hPl := hP.len
    rw [List.length_take] at hPl
    rw [dT h, cnd_t, dT g1, Bool.and_self, cnd_t, wr_m (z := i + 1) (by omega) (by omega)]
    generalize l.getD i.toNat 0 = x at *
    have ca : (a.length + [x].length) * 8 ≤ 140737488355328 := by rw [List.length_singleton]; omega
    have cb : (b.length + [x].length) * 8 ≤ 140737488355328 := by rw [List.length_singleton]; omega
    rw [dT ca, dT cb]
    have mk : ∀ a' b', Pt (l.take i.toNat ++ [x]) a' b' u v → ((0 ≤ i + 1 ∧ i + 1 ≤ (l.length : Int)) ∧ (u = u ∧ v = v) ∧ Pt (l.take (i + 1).toNat) a' b' u v) ∧ l.length - (i + 1).toNat < l.length - i.toNat := fun a' b' hp => ⟨⟨⟨by omega, by omega⟩, ⟨rfl, rfl⟩, by rw [htk]; exact hp⟩, by omega⟩
    by_cases c1 : x = u
    · rw [dT c1, cnd_t, cnd_t]
      exact ⟨_, rfl, mk _ _ (hP.toA hst (by omega))⟩
    rw [dF c1, cnd_f]
    by_cases c2 : x = v
    · exact ⟨_, (cnd_F (fun q => q c2)).trans cnd_t, mk _ _ (hP.toB hst c1)⟩
    · rw [apart_eq N hD hx8 (hl u hlo) hN, obind_s, apart_eq N hD hx8 (hl v hhi) hN, obind_s]
      by_cases c3 : far D x [u] ≤ far D x [v]
      · refine ⟨_, (cnd_T c2).trans ((cnd_T c3).trans cnd_t), mk _ _ (hP.toA hst c2)⟩
      · refine ⟨_, (cnd_T c2).trans ((cnd_F c3).trans cnd_t), mk _ _ (hP.toB hst c1)⟩
  · right
    rw [dF h, cnd_f]
    refine ⟨_, rfl, ⟨rfl, rfl⟩, ?_⟩
    rw [List.take_of_length_le (by omega)] at hP
    exact hP
theorem SameInts_eq (N : Nat) (l : List Int) (hl : l.length ≤ 900) (hN : 1000 ≤ N) : W_ref1_SameInts N (l, l) = some true := by
  unfold W_ref1_SameInts V_ref1_SameInts
  try simp only
  refine (cnd_F (fun q => q rfl)).trans ?_
  refine loop_post (σ := Int) (ρ := Unit ⊕ Bool) (β := Bool) (fun o => o = some true) (fun v => 0 ≤ v ∧ v ≤ l.length) (fun v => l.length - v.toNat) (fun r => r = .inl ()) ⟨by simp, by simp⟩ (by simp; omega) (fun r h => by rw [h, selim_l]) ?_
  rintro i ⟨g1, g2⟩
  by_cases h : i < l.length
  · left
    rw [dT h, cnd_t, dT g1, Bool.and_self, cnd_t, cnd_t]
    refine ⟨i + 1, (cnd_F (fun q => q rfl)).trans ?_, ⟨by omega, by omega⟩, by omega⟩
    rw [wr_m (by omega) (by omega)]
  · right
    rw [dF h, cnd_f]
    exact ⟨_, rfl, rfl⟩
theorem Mid_spec (N : Nat) {D : List (List Int)} (hD : GD D) {l : List Int} (hl : S8 l) (hlen : l.length ≤ 900) (hN : 1000 ≤ N) : ∃ v, W_mid_Mid N (D, l) = some v ∧ Who (fun x => far D x l) l v := by
  unfold W_mid_Mid V_mid_Mid
  try simp only
  refine loop_post (fun o => ∃ v, o = some v ∧ Who (fun x => far D x l) l v) (fun v => 0 ≤ v.2 ∧ v.2 ≤ l.length ∧ Sofar (fun x => far D x l) (l.take v.2.toNat) v.1) (fun v => l.length - v.2.toNat) (fun r => Sofar (fun x => far D x l) l r) ⟨by simp, by simp, .inl ⟨rfl, rfl⟩⟩ (by simp; omega) (fun r h => ?_) ?_
  · obtain ⟨v, e, h⟩ := Sofar_who N h
    rw [e]; exact ⟨v, rfl, h⟩
  rintro ⟨m, i⟩ ⟨g1, g2, g3⟩
  simp only at g1 g2 g3 ⊢
  by_cases h : i < l.length
  · left
    have hb := hl _ (getD_mem l i.toNat (by omega))
    obtain ⟨p, e, hp⟩ := Sofar_snoc N g3 (l.getD i.toNat 0)
    try simp only at e
    rw [dT h, cnd_t, dT g1, Bool.and_self, cnd_t, Far_eq N hD hb hl hlen hN, obind_s, e, obind_s, wr_m (by omega) (by omega)]
    refine ⟨_, rfl, ⟨by omega, by omega, ?_⟩, by omega⟩
    try simp only
    rw [show (i + 1).toNat = i.toNat + 1 by omega, take_snoc l _ (by omega)]
    exact hp
  · right
    rw [dF h, cnd_f]
    refine ⟨_, rfl, ?_⟩
    rw [List.take_of_length_le (by omega)] at g3
    exact g3
theorem Who_one {F : Int → Int} {l : List Int} {v w : Int} (hv : Who F l v) (hw : Who F l w) : v = w := by
  rcases hv with ⟨rfl, rfl⟩ | hv
  · rcases hw with ⟨_, rfl⟩ | hw
    · rfl
    · exact nomatch hw.1
  · rcases hw with ⟨rfl, rfl⟩ | hw
    · exact nomatch hv.1
    · exact Least_one hv hw
/-- Least among the numbers below i that P takes, 0 if there is none. -/
def Below (F : Int → Int) (P : Int → Prop) (i w : Int) : Prop := (w = 0 ∧ ∀ x, 1 ≤ x → x < i → ¬ P x) ∨ ((1 ≤ w ∧ w < i) ∧ P w ∧ ∀ x, 1 ≤ x → x < i → P x → F w < F x ∨ (F w = F x ∧ w ≤ x))
theorem Below_no {F : Int → Int} {P : Int → Prop} {i w : Int} (h : Below F P i w) (hi : ¬ P i) : Below F P (i + 1) w := by
  have e : ∀ x, x < i + 1 → P x → x < i := fun x hx hp => by
    by_cases c : x = i
    · exact absurd (c ▸ hp) hi
    · omega
  rcases h with ⟨rfl, h⟩ | ⟨h1, h2, h3⟩
  · exact .inl ⟨rfl, fun x h1 h2 hp => h x h1 (e x h2 hp) hp⟩
  · exact .inr ⟨by omega, h2, fun x k1 k2 hp => h3 x k1 (e x k2 hp) hp⟩
theorem Below_new {F : Int → Int} {P : Int → Prop} {i w : Int} (h1 : 1 ≤ i) (h : Below F P i w) (hi : P i) (hw : w = 0 ∨ F i < F w) : Below F P (i + 1) i := by
  refine .inr ⟨by omega, hi, fun x k1 k2 hp => ?_⟩
  by_cases c : x = i
  · subst c; omega
  · rcases h with ⟨rfl, h⟩ | ⟨h1, h2, h3⟩
    · exact absurd hp (h x k1 (by omega))
    · have := h3 x k1 (by omega) hp; omega
theorem Below_old {F : Int → Int} {P : Int → Prop} {i w : Int} (h : Below F P i w) (hw : ¬ w = 0) (hw2 : ¬ F i < F w) : Below F P (i + 1) w := by
  rcases h with ⟨rfl, h⟩ | ⟨h1, h2, h3⟩
  · exact absurd rfl hw
  · refine .inr ⟨by omega, h2, fun x k1 k2 hp => ?_⟩
    by_cases c : x = i
    · subst c; omega
    · exact h3 x k1 (by omega) hp
theorem Below_who {F : Int → Int} {P : Int → Prop} {l : List Int} {w : Int} (hl : S8 l) (hP : ∀ x, P x ↔ x ∈ l) (h : Below F P 9 w) : Who F l w := by
  rcases h with ⟨rfl, h⟩ | ⟨h1, h2, h3⟩
  · refine .inl ⟨?_, rfl⟩
    cases l with
    | nil => rfl
    | cons a t =>
      have := hl a (List.mem_cons_self ..)
      exact absurd ((hP a).2 (List.mem_cons_self ..)) (h a (by omega) (by omega))
  · exact .inr ⟨(hP w).1 h2, fun x hx => h3 x (hl x hx).1 (by have := hl x hx; omega) ((hP x).2 hx)⟩
theorem Far7_eq (N : Nat) {D : List (List Int)} (hD : GD D) {a : Int} (ha : 1 ≤ a ∧ a ≤ 8) {l : List Int} (hl : S8 l) (hlen : l.length ≤ 900) (hN : 1000 ≤ N) : W_ref7_Far N (D, a, l) = some (far D a l) := by
  unfold W_ref7_Far V_ref7_Far
  try simp only
  refine loop_post (fun o => o = some (far D a l)) (fun v => 0 ≤ v.2 ∧ v.2 ≤ l.length ∧ v.1 = far D a (l.take v.2.toNat)) (fun v => l.length - v.2.toNat) (fun r => r = far D a l) ⟨by simp, by simp, rfl⟩ (by simp; omega) (fun r h => by rw [h]) ?_
  rintro ⟨m, i⟩ ⟨g1, g2, g3⟩
  simp only at g1 g2 g3 ⊢
  by_cases h : i < l.length
  · left
    have hb := hl _ (getD_mem l i.toNat (by omega))
    rw [wr_m (z := a - 1) (by omega) (by omega), wr_m (z := l.getD i.toNat 0 - 1) (by omega) (by omega), row_eq hD ha, len_eq hD]
    rw [dT h, cnd_t, dT (show 0 ≤ a - 1 by omega), dT (show a - 1 < 8 by omega), Bool.and_self, cnd_t, dT g1, Bool.and_self, cnd_t, dT (show 0 ≤ l.getD i.toNat 0 - 1 by omega), dT (show l.getD i.toNat 0 - 1 < 8 by omega), Bool.and_self, cnd_t, wr_m (by omega) (by omega)]
    refine ⟨_, rfl, ⟨by omega, by omega, ?_⟩, by omega⟩
    try simp only
    rw [show (i + 1).toNat = i.toNat + 1 by omega, take_snoc l _ (by omega), far_snoc, g3]
    rfl
  · right
    rw [dF h, cnd_f]
    refine ⟨_, rfl, ?_⟩
    rw [g3, List.take_of_length_le (by omega)]
theorem Mid7_spec (N : Nat) {D : List (List Int)} (hD : GD D) {l : List Int} (hl : S8 l) (hlen : l.length ≤ 900) (hN : 1000 ≤ N) : ∃ v, W_ref7_Mid N (D, l) = some v ∧ Who (fun x => far D x l) l v := by
  unfold W_ref7_Mid V_ref7_Mid
  try simp only
  refine loop_post (σ := Int × Int) (ρ := Int) (β := Int) (fun o => ∃ v, o = some v ∧ Who (fun x => far D x l) l v) (fun v => (1 ≤ v.2 ∧ v.2 ≤ 9) ∧ Below (fun x => far D x l) (fun x => x ∈ l) v.2 v.1) (fun v => 9 - v.2.toNat) (fun r => Who (fun x => far D x l) l r) ⟨⟨by simp, by simp⟩, .inl ⟨rfl, fun x h1 h2 => by simp only at h2; omega⟩⟩ (by simp; omega) (fun r h => ⟨r, rfl, h⟩) ?_
  rintro ⟨w, i⟩ ⟨⟨g1, g2⟩, g3⟩
  simp only at g1 g2 g3 ⊢
  by_cases h : i ≤ 8
  · left
    rw [dT h, cnd_t, Has_eq N l i hlen hN, obind_s, wr_m (by omega) (by omega)]
    by_cases hm : i ∈ l
    · rw [dT hm, cnd_t]
      by_cases hw : w = 0
      · rw [dT hw, cnd_t]
        exact ⟨_, rfl, ⟨⟨by omega, by omega⟩, Below_new g1 g3 hm (.inl hw)⟩, by simp only; omega⟩
      rw [dF hw, cnd_f]
      have hw8 : 1 ≤ w ∧ w ≤ 8 := by
        rcases g3 with ⟨h, _⟩ | ⟨h, _⟩ <;> omega
      rw [Far7_eq N hD ⟨g1, h⟩ hl hlen hN, obind_s, Far7_eq N hD hw8 hl hlen hN, obind_s]
      by_cases hf : far D i l < far D w l
      · rw [dT hf, cnd_t]
        exact ⟨_, rfl, ⟨⟨by omega, by omega⟩, Below_new g1 g3 hm (.inr hf)⟩, by simp only; omega⟩
      · rw [dF hf, cnd_f]
        exact ⟨_, rfl, ⟨⟨by omega, by omega⟩, Below_old g3 hw hf⟩, by simp only; omega⟩
    · rw [dF hm, cnd_f]
      exact ⟨_, rfl, ⟨⟨by omega, by omega⟩, Below_no g3 hm⟩, by simp only; omega⟩
  · right
    rw [dF h, cnd_f]
    have : i = 9 := by omega
    subst this
    exact ⟨_, rfl, Below_who hl (fun x => Iff.rfl) g3⟩
abbrev Cl := List Int × Int
abbrev cD : Cl := (([] : List Int), (0 : Int))
theorem Of_spec (N : Nat) {D : List (List Int)} (hD : GD D) {l : List Int} (hl : S8 l) (hlen : l.length ≤ 900) (hN : 1000 ≤ N) : ∃ v, W_clus_Of N (D, l) = some (l, v) ∧ Who (fun x => far D x l) l v := by
  obtain ⟨v, e, h⟩ := Mid_spec N hD hl hlen hN
  refine ⟨v, ?_, h⟩
  unfold W_clus_Of V_clus_Of
  try simp only
  rw [Clone_i N l (by omega), obind_s, e, obind_s]
theorem fitted_one (N : Nat) {D : List (List Int)} (hD : GD D) {l : List Int} {k : Int} (hl : S8 l) (hlen : l.length ≤ 8) (hk : 1 ≤ k ∧ k ≤ 3) (h : (l.length : Int) ≤ 3 * k - 1) (hN : 1000 ≤ N) : ∃ v, W_clus_fitted N (D, l, k) = some [(l, v)] ∧ Who (fun x => far D x l) l v := by
  obtain ⟨v, e, hw⟩ := Of_spec N hD hl (by omega) hN
  refine ⟨v, ?_, hw⟩
  unfold W_clus_fitted V_clus_fitted
  try simp only
  rw [wr_m (z := 3 * k) (by omega) (by omega), wr_m (z := 3 * k - 1) (by omega) (by omega), dT h, cnd_t, e, obind_s]
theorem fitted_two (N : Nat) {D : List (List Int)} (hD : GD D) {l : List Int} {k : Int} (hl : S8 l) (hu : Up l) (hlen : l.length ≤ 8) (hk : 1 ≤ k ∧ k ≤ 3) (h : ¬ (l.length : Int) ≤ 3 * k - 1) (hN : 1000 ≤ N) :
    ∃ a b lo hi v w, W_clus_Split N (D, l, k) = some (a, b) ∧ W_clus_fitted N (D, l, k) = some [(a, v), (b, w)] ∧ Pt l a b lo hi ∧ (k ≤ a.length ∧ k ≤ b.length) ∧ Who (fun x => far D x a) a v ∧ Who (fun x => far D x b) b w := by
  obtain ⟨a, b, lo, hi, e, hP, h1, h2, h3⟩ := Split_spec N hD hl hu (by omega) hlen hk.1 hN
  obtain ⟨k1, k2⟩ := h3 (by omega)
  have hpl := hP.len
  obtain ⟨v, e1, w1⟩ := Of_spec N hD (l := a) (fun x hx => hl x (hP.ma x hx)) (by omega) hN
  obtain ⟨w, e2, w2⟩ := Of_spec N hD (l := b) (fun x hx => hl x (hP.mb x hx)) (by omega) hN
  refine ⟨a, b, lo, hi, v, w, e, ?_, hP, ⟨k1, k2⟩, w1, w2⟩
  unfold W_clus_fitted V_clus_fitted
  try simp only
  rw [wr_m (z := 3 * k) (by omega) (by omega), wr_m (z := 3 * k - 1) (by omega) (by omega), dF h, cnd_f, e, obind_s]
  try simp only
  rw [dF (show ¬ (b.length : Int) = 0 by omega), cnd_f, e1, obind_s, e2, obind_s]
theorem Group_step (N m : Nat) (D : List (List Int)) (l : List Int) (k : Int) : WR_clus_Group N (m + 1) (D, l, k) = cnd (decide ((↑(List.length l) : Int) = (0 : Int))) (some []) (obind (W_clus_fitted N (D, l, k)) fun (b : List (List Int × Int)) => cnd (decide ((↑(List.length b) : Int) = (1 : Int))) (some b) (cnd (decide ((0 : Int) ≤ (0 : Int)) && decide ((0 : Int) < (↑(List.length b) : Int))) (obind (WR_clus_Group N m (D, (List.getD b (0 : Nat) cD).1, k)) fun (b_1 : List (List Int × Int)) => cnd (decide ((0 : Int) ≤ (1 : Int)) && decide ((1 : Int) < (↑(List.length b) : Int))) (obind (WR_clus_Group N m (D, (List.getD b (1 : Nat) cD).1, k)) fun (b : List (List Int × Int)) => cnd (decide ((List.length b_1 + List.length b) * (32 : Nat) ≤ (140737488355328 : Nat))) (some (b_1 ++ b)) none) none) none)) := rfl
/-- l, as clusters. -/
structure Gp (D : List (List Int)) (k : Int) (l : List Int) (cs : List Cl) : Prop where
  ne : cs ≠ []
  m : ∀ c ∈ cs, (1 ≤ c.1.length ∧ (c.1.length : Int) ≤ 3 * k - 1) ∧ (S8 c.1 ∧ Up c.1) ∧ Who (fun x => far D x c.1) c.1 c.2
  kk : 1 < cs.length → ∀ c ∈ cs, k ≤ c.1.length
  mem : ∀ x, x ∈ cs.flatMap (fun c => c.1) ↔ x ∈ l
  len : (cs.flatMap (fun c => c.1)).length = l.length
  o : cs.length = 1 ↔ (l.length : Int) ≤ 3 * k - 1
theorem Gp.cl {D : List (List Int)} {k : Int} {l : List Int} {cs : List Cl} (h : Gp D k l cs) : cs.length ≤ l.length := by
  have hm := h.m
  have hl := h.len
  have : ∀ cs : List Cl, (∀ c ∈ cs, 1 ≤ c.1.length) → cs.length ≤ (cs.flatMap (fun c => c.1)).length := by
    intro cs
    induction cs with
    | nil => intro _; simp
    | cons c r ih =>
      intro hc
      have h1 := hc c (by simp)
      have h2 := ih (fun x hx => hc x (by simp [hx]))
      simp only [List.length_cons, List.flatMap_cons, List.length_append]
      omega
  have := this cs (fun c hc => (hm c hc).1.1)
  omega
theorem Gp.each {D : List (List Int)} {k : Int} {l : List Int} {cs : List Cl} (h : Gp D k l cs) (hk : k ≤ l.length) : ∀ c ∈ cs, k ≤ c.1.length := by
  intro c hc
  by_cases c1 : 1 < cs.length
  · exact h.kk c1 c hc
  · cases cs with
    | nil => simp at hc
    | cons c' r =>
      have : r = [] := List.eq_nil_of_length_eq_zero (by simp only [List.length_cons] at c1; omega)
      subst this
      rw [List.mem_singleton.1 hc]
      have := h.len
      simp at this
      omega
theorem Group_spec (N : Nat) {D : List (List Int)} (hD : GD D) {k : Int} (hk : 1 ≤ k ∧ k ≤ 3) (hN : 1000 ≤ N) : ∀ (m : Nat) (l : List Int), S8 l → Up l → l.length ≤ 8 → 1 ≤ l.length → l.length < m → ∃ cs, WR_clus_Group N m (D, l, k) = some cs ∧ Gp D k l cs
  | 0, l, _, _, _, _, h => by omega
  | m + 1, l, hl, hu, h8, h1, hm => by
    rw [Group_step, dF (show ¬ (l.length : Int) = 0 by omega), cnd_f]
    by_cases c : (l.length : Int) ≤ 3 * k - 1
    · obtain ⟨v, e, hw⟩ := fitted_one N hD hl h8 hk c hN
      rw [e, obind_s, dT (show ((List.length [(l, v)] : Nat) : Int) = 1 from rfl), cnd_t]
      refine ⟨_, rfl, by simp, fun q hq => ?_, fun q => by simp at q, fun x => by simp, by simp, by simp [c]⟩
      rw [List.mem_singleton.1 hq]
      exact ⟨⟨h1, c⟩, ⟨hl, hu⟩, hw⟩
    · obtain ⟨a, b, lo, hi, v, w, _, e, hP, ⟨k1, k2⟩, w1, w2⟩ := fitted_two N hD hl hu h8 hk c hN
      have hpl := hP.len
      obtain ⟨g1, e1, G1⟩ := Group_spec N hD hk hN m a (fun x hx => hl x (hP.ma x hx)) hP.ua (by omega) (by omega) (by omega)
      obtain ⟨g2, e2, G2⟩ := Group_spec N hD hk hN m b (fun x hx => hl x (hP.mb x hx)) hP.ub (by omega) (by omega) (by omega)
      have hc1 := G1.cl
      have hc2 := G2.cl
      have hn1 : 1 ≤ g1.length := List.length_pos_iff.2 G1.ne
      have hn2 : 1 ≤ g2.length := List.length_pos_iff.2 G2.ne
      rw [e, obind_s, dF (show ¬ ((List.length [(a, v), (b, w)] : Nat) : Int) = 1 by simp), cnd_f, dT (show (0 : Int) ≤ 0 by omega), dT (show (0 : Int) < ((List.length [(a, v), (b, w)] : Nat) : Int) by simp), Bool.and_self, cnd_t]
      show ∃ cs, obind (WR_clus_Group N m (D, a, k)) _ = some cs ∧ _
      rw [e1, obind_s, dT (show (0 : Int) ≤ 1 by omega), dT (show (1 : Int) < ((List.length [(a, v), (b, w)] : Nat) : Int) by simp), Bool.and_self, cnd_t]
      show ∃ cs, obind (WR_clus_Group N m (D, b, k)) _ = some cs ∧ _
      rw [e2, obind_s, cnd_T (by omega)]
      refine ⟨_, rfl, by simp [G1.ne], fun q hq => (List.mem_append.1 hq).elim (G1.m q) (G2.m q), fun _ q hq => (List.mem_append.1 hq).elim (G1.each k1 q) (G2.each k2 q), fun x => ?_, ?_, ?_⟩
      · rw [List.flatMap_append, List.mem_append, G1.mem, G2.mem]
        exact ⟨fun q => q.elim (hP.ma x) (hP.mb x), hP.cov x⟩
      · rw [List.flatMap_append, List.length_append, G1.len, G2.len]; exact hpl
      · rw [List.length_append]
        exact ⟨fun q => by omega, fun q => absurd q c⟩
theorem take_snocC {l : List Cl} {k : Nat} (h : k < l.length) : l.take (k + 1) = l.take k ++ [l.getD k cD] := by
  rw [List.take_succ_eq_append_getElem h, List.getD_eq_getElem?_getD, List.getElem?_eq_getElem h]; rfl
theorem getD_memC {l : List Cl} {i : Nat} (h : i < l.length) : l.getD i cD ∈ l := by
  rw [List.getD_eq_getElem?_getD, List.getElem?_eq_getElem h]; exact List.getElem_mem h
theorem flat_le (cs : List Cl) (j : Nat) : ((cs.take j).flatMap (fun c => c.1)).length ≤ (cs.flatMap (fun c => c.1)).length := by
  have : cs.flatMap (fun c => c.1) = (cs.take j).flatMap (fun c => c.1) ++ (cs.drop j).flatMap (fun c => c.1) := by rw [← List.flatMap_append, List.take_append_drop]
  rw [this, List.length_append]; omega
theorem law_aux (N : Nat) (hN : 1000 ≤ N) (hbeg : W_law8_begun N () = some true) (x y : List Int) (z : Int) (hx : U8 x) (hy : U8 y) (hz : 0 ≤ z ∧ z ≤ 255) : W_law8_ClusGroup N (x, y, z) = some true := by
  unfold W_law8_ClusGroup V_law8_ClusGroup
  try simp only
  rw [hbeg, obind_s, Bool.not_true, cnd_f]
  by_cases c1 : (30 : Int) < x.length
  · rw [dT c1, cnd_t]
  by_cases c2 : (8 : Int) < y.length
  · rw [dF c1, cnd_f, dT c2, cnd_t]
  rw [dF c1, cnd_f, dF c2, cnd_f]
  have hM : ∀ l, W_Made N l = some (l, 0) := fun l => rfl
  obtain ⟨D, n', e1, hD⟩ := Dist_spec N x 0 hx (by omega) (by omega) (by omega)
  obtain ⟨L, l', k', e2, hL, hL8, hL2, hLu⟩ := Some_up N 1 y 0 hy (by omega) (by omega) (by omega) (by omega) hN
  have hk1 : 0 ≤ Int.tmod z 3 := Int.tmod_nonneg _ hz.1
  have hk2 : Int.tmod z 3 < 3 := Int.tmod_lt_of_pos _ (by omega)
  rw [hM, obind_s, e1, obind_s, hM, obind_s, e2, obind_s]
  try simp only
  rw [wr_m (z := Int.tmod z 3) (by omega) (by omega), wr_m (z := 1 + Int.tmod z 3) (by omega) (by omega)]
  generalize hk : 1 + Int.tmod z 3 = k
  have hk : 1 ≤ k ∧ k ≤ 3 := by omega
  obtain ⟨cs, e3, hG⟩ := Group_spec N hD hk hN N L hL hLu hL8 (by omega) (by omega)
  have e3' : W_clus_Group N (D, L, k) = some cs := e3
  have hcl := hG.cl
  have hfl := hG.len
  rw [e3', obind_s, wr_m (z := 3 * k) (by omega) (by omega), wr_m (z := 3 * k - 1) (by omega) (by omega)]
  refine loop_post (σ := Int × List Int) (ρ := List Int ⊕ Bool) (β := Bool) (fun o => o = some true) (fun v => ∃ j : Nat, v = ((j : Int), (cs.take j).flatMap (fun c => c.1)) ∧ j ≤ cs.length) (fun v => cs.length - v.1.toNat) (fun r => r = .inl (cs.flatMap (fun c => c.1))) ⟨0, by simp, by omega⟩ (by simp; omega) ?_ ?_
  · rintro r rfl
    rw [selim_l, dT (show ((cs.flatMap (fun c => c.1)).length : Int) = L.length by rw [hfl]), cnd_t, Rising_is N (by rw [hfl]; omega) hN hLu hL hG.mem, obind_s, SameInts_eq N L (by omega) hN, obind_s, obind_s, cnd_t]
    have : decide ((cs.length : Int) = 1) = decide ((L.length : Int) ≤ 3 * k - 1) := decide_eq_decide.2 ⟨fun q => hG.o.1 (by omega), fun q => by have := hG.o.2 q; omega⟩
    rw [this, beq_self_eq_true]
  · rintro v ⟨j, rfl, hj⟩
    try simp only
    by_cases cj : (j : Int) < cs.length
    case neg =>
      right
      rw [dF cj, cnd_f]
      exact ⟨_, rfl, by rw [List.take_of_length_le (by omega)]⟩
    left
    have hmem := getD_memC (l := cs) (i := j) (by omega)
    obtain ⟨⟨m1, m2⟩, ⟨m3, m4⟩, m5⟩ := hG.m _ hmem
    have hle := flat_le cs (j + 1)
    have hts := take_snocC (l := cs) (k := j) (by omega)
    have hfs : (cs.take (j + 1)).flatMap (fun c => c.1) = (cs.take j).flatMap (fun c => c.1) ++ (cs.getD j cD).1 := by rw [hts, List.flatMap_append]; simp
    rw [hfs, List.length_append] at hle
    rw [dT cj, cnd_t, dT (show (0 : Int) ≤ (j : Int) by omega), Bool.and_self, cnd_t, Int.toNat_natCast, wr_m (z := (j : Int) + 1) (by omega) (by omega)]
    refine ⟨(((j + 1 : Nat) : Int), (cs.take (j + 1)).flatMap (fun c => c.1)), ?_, ⟨j + 1, rfl, by omega⟩, by simp only; omega⟩
    rw [hfs, show ((j + 1 : Nat) : Int) = j + 1 by omega]
    have hkk : 1 < cs.length → k ≤ (cs.getD j cD).1.length := fun q => hG.kk q _ hmem
    obtain ⟨c, hc⟩ : ∃ c, cs.getD j cD = c := ⟨_, rfl⟩
    have hc' : cs.getD j (([] : List Int), (0 : Int)) = c := hc
    rw [hc] at m1 m2 m3 m4 m5 hle hkk ⊢
    obtain ⟨v7, e7, w7⟩ := Mid7_spec N hD (l := c.1) m3 (by omega) hN
    have hv7 : c.2 = v7 := Who_one m5 w7
    have hdl : (((cs.take j).flatMap (fun c => c.1)).length + c.1.length) * 8 ≤ 140737488355328 := by rw [hfl] at hle; omega
    rw [dF (show ¬ (c.1.length : Int) < 1 by omega), cnd_f, dF (show ¬ 3 * k - 1 < (c.1.length : Int) by omega), cnd_f, cnd_t, e7, obind_s, dF (fun q : c.2 ≠ v7 => q hv7), cnd_f, dT hdl, cnd_t]
    by_cases c3 : (1 : Int) < cs.length
    · rw [dT c3, cnd_t, dF (show ¬ (c.1.length : Int) < k by have := hkk (by omega); omega), cnd_f]
    · rw [dF c3, cnd_f]
def NN : Nat := 1000
theorem begun_ok : W_law8_begun NN () = some true := by decide +kernel
theorem law_true (y0 : List Int) (y1 : List Int) (y2 : Int) (h0 : Twf (.list (.int .u8)) y0) (h1 : Twf (.list (.int .u8)) y1) (h2 : Twf (.int .u8) y2) : W_law8_ClusGroup NN (y0, y1, y2) = some true :=
  law_aux NN (Nat.le_refl _) begun_ok y0 y1 y2 h0.2 h1.2 h2

theorem spec (y0 : List Int) (y1 : List Int) (y2 : Int) (h0 : Twf (.list (.int .u8)) y0) (h1 : Twf (.list (.int .u8)) y1) (h2 : Twf (.int .u8) y2) : Spec2 P0 6 [valW (.list (.int .u8)) y0, valW (.list (.int .u8)) y1, valW (.int .u8) y2] [] (.bs true) [] [] := (con_law8_ClusGroup_ok NN).2 (y0, y1, y2) true (law_true y0 y1 y2 h0 h1 h2)
theorem lifted (os : Os) (started : os.Started) (H : Type) (enc : TypeId × Value → H) :
    ReturnsInHanded {} Try.checked os 6 .any (Rows.clusGroupSpec.pre6 enc Try.prog Try.f6 Rows.clusGroupRow.domain false) (Rows.clusGroupSpec.post enc Try.prog Try.f6 false true false false) := by
  refine returnsInHanded_of_change (C := Try.checked) own started (by kernel_rfl) Try.func6
    (ChangeSpec.witness6 (enc := enc) (C := Try.checked) false ⟨#[], #[.slice none 0 0, .slice none 0 0, .int .u8 0], []⟩ 8 (by kernel_rfl) (by kernel_rfl) (by kernel_rfl) (by kernel_rfl)) ?_
  intro W base args ds gs before hval0 hW hcnd _
  have hval : ∀ (j : Nat) t v, Try.f6.params[j]? = some t → args[j]? = some v → Value.okWide Try.prog W .any base t v := hval0
  have hW' := hW
  obtain ⟨p, q, hA0, hV, rfl, hfz, hnd⟩ := hW
  have hA : DataW.TrodAll enc Try.prog W 0 (fun _ => true) true Try.f6.params.toList args.toList ds p := hA0
  rw [Try.params6] at hA hval
  obtain ⟨v0, vs0, d0, ds0, p0, q0, hargs, rfl, rfl, h0, r0⟩ := trodAll_cons hA
  obtain ⟨v1, vs1, d1, ds1, p1, q1, rfl, rfl, rfl, h1, r1⟩ := trodAll_cons r0
  obtain ⟨v2, vs2, d2, ds2, p2, q2, rfl, rfl, rfl, h2, r2⟩ := trodAll_cons r1
  obtain ⟨rfl, rfl, rfl⟩ := trodAll_nil r2
  obtain rfl : args = #[v0, v1, v2] := by cases args; simp_all
  obtain ⟨rfl, rfl⟩ := trodVars_none hV
  have k0 := h0
  have lt0 : ∀ x ∈ p0, x.block < W.heap.size := by obtain ⟨m, hm⟩ := k0; exact DataW.trod_lt m _ _ _ hm
  obtain ⟨y0, rp0, wf0⟩ := arg_ok (n := 12) (ty := (.list (.int .u8))) (by kernel_rfl) (hval 0 _ v0 rfl rfl) h0
  have k1 := h1
  have lt1 : ∀ x ∈ p1, x.block < W.heap.size := by obtain ⟨m, hm⟩ := k1; exact DataW.trod_lt m _ _ _ hm
  obtain ⟨y1, rp1, wf1⟩ := arg_ok (n := 12) (ty := (.list (.int .u8))) (by kernel_rfl) (hval 1 _ v1 rfl rfl) h1
  have k2 := h2
  have lt2 : ∀ x ∈ p2, x.block < W.heap.size := by obtain ⟨m, hm⟩ := k2; exact DataW.trod_lt m _ _ _ hm
  obtain ⟨y2, rp2, wf2⟩ := arg_ok (n := 12) (ty := (.int .u8)) (by kernel_rfl) (hval 2 _ v2 rfl rfl) h2
  clear hA0 hval0
  refine (law_of2 (spec y0 y1 y2 wf0 wf1 wf2) W #[v0, v1, v2] (.cons rp0 (.cons rp1 (.cons rp2 .nil)))).mono fun e W' ⟨he, bel⟩ => ?_
  subst he
  exact ⟨_, rfl, _, _, _, [], _, [], hW', trodAll_mk1 (shut_bool Try.underlying4 _), (trodAll_cons_mk (Below.trod laidOut (by kernel_rfl) (of_decide_eq_true (by kernel_rfl)) k0 bel lt0) (trodAll_cons_mk (Below.trod laidOut (by kernel_rfl) (of_decide_eq_true (by kernel_rfl)) k1 bel lt1) (trodAll_cons_mk (Below.trod laidOut (by kernel_rfl) (of_decide_eq_true (by kernel_rfl)) k2 bel lt2) trodAll_mk0))), rfl, bel.frame _, fun h => by cases h⟩

theorem over : Rows.clusGroupRow.holds Try.pinned (OpenSpec.ofChange Rows.clusGroupSpec) :=
  OpenClaim.holds_of_wide 6 Try.f6 rfl rfl rfl rfl rfl rfl rfl ⟨rfl, rfl, rfl, rfl, rfl⟩ rfl rfl rfl rfl rfl (by kernel_rfl) Try.func6 (by kernel_rfl)
    (of_decide_eq_true (by kernel_rfl)) (by unfold Func.isWrapper; first | (rw [if_pos (by decide +kernel)]; kernel_rfl) | (rw [if_neg (by decide +kernel)]; exact ⟨rfl, rfl⟩))
    (fun os started H enc _ => lifted os started H enc)

theorem holds : Rows.ClusGroupSaid := over
end Go.Proofs.Ytnjmmfcikdfinaa.clusGroupX
