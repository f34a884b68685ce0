/- ClusMoves: for all arguments the call returns true. The law is brought to a function of Lean's own (W_..) by the machine of the texts beside it, and that is reckoned; no condition. -/
import Derived.Test.YtnjmmfcikdfinaaExtSo
import Derived.Test.YtnjmmfcikdfinaaExtL
import Derived.Test.YtnjmmfcikdfinaaRows
import Derived.WalkKit
import Derived.ProofKit
import Derived.OpenShut
import Derived.ShutString
import Derived.ChangeOld
import Derived.Below
import Derived.Shelf.Sort.Plain
import Derived.Shelf.SlicesE.DeleteFunc
import Derived.Shelf.RegionOpenPlain
import Derived.Deep.RegionLaw
import Derived.Lib.Walk
namespace Go.Proofs.Ytnjmmfcikdfinaa.clusMovesX
open Go.Abs Go.RowKit Go.ChangeShapes Go.WideShapes Go.ChangeAt
set_option maxRecDepth 100000
set_option linter.unusedVariables false
set_option linter.unusedSimpArgs false
noncomputable abbrev P0 : Program := Try.prog
noncomputable def bodyOf (fn : Func) : Code := fn.body.getD .skip
def L0 : Lend := fun f => aget [] [(52, [0]), (53, [0]), (57, [0]), (60, [0]), (61, [0]), (62, [0]), (64, [0]), (65, [0]), (67, [0]), (68, [0]), (71, [0])] f
def kpL (l : List Bool) : Nat → Bool := fun j => l.getD j true
theorem own : ownKnob Try.prog.godebug = none := by kernel_rfl
theorem laidOut : laidOutB Try.prog = true := by kernel_rfl
theorem mixed : P0.follows .mixedOrders = true := by decide +kernel
theorem progOk_ : progOk P0 = true := by decide +kernel
def soRen : Go.Shelf.Ren := ⟨fun | 189 => 52 | 125 => 58 | 257 => 57 | 128 => 69 | 129 => 70 | 294 => 60 | 295 => 61 | 296 => 62 | 297 => 63 | 298 => 64 | 299 => 65 | 216 => 66 | 300 => 67 | 301 => 68 | 328 => 71 | 329 => 72 | 330 => 73 | 331 => 74 | 332 => 75 | 215 => 76 | 343 => 77 | n => n, fun | 28 => 28 | 3 => 3 | 46 => 85 | 0 => 0 | 51 => 97 | 53 => 99 | 4 => 4 | 183 => 89 | 182 => 88 | 131 => 94 | 5 => 5 | 9 => 9 | 218 => 100 | 222 => 104 | 228 => 106 | 229 => 107 | n => n, fun | n => n⟩
theorem soLays : Go.Proofs.Lays.n189 Try.prog soRen := {
  mixed := by kernel_rfl
  f125 := Try.func58.trans (congrArg some (by kernel_rfl))
  f128 := Try.func69.trans (congrArg some (by kernel_rfl))
  f129 := Try.func70.trans (congrArg some (by kernel_rfl))
  f189 := Try.func52.trans (congrArg some (by kernel_rfl))
  f215 := Try.func76.trans (congrArg some (by kernel_rfl))
  f216 := Try.func66.trans (congrArg some (by kernel_rfl))
  f257 := Try.func57.trans (congrArg some (by kernel_rfl))
  f294 := Try.func60.trans (congrArg some (by kernel_rfl))
  f295 := Try.func61.trans (congrArg some (by kernel_rfl))
  f296 := Try.func62.trans (congrArg some (by kernel_rfl))
  f297 := Try.func63.trans (congrArg some (by kernel_rfl))
  f298 := Try.func64.trans (congrArg some (by kernel_rfl))
  f299 := Try.func65.trans (congrArg some (by kernel_rfl))
  f300 := Try.func67.trans (congrArg some (by kernel_rfl))
  f301 := Try.func68.trans (congrArg some (by kernel_rfl))
  f328 := Try.func71.trans (congrArg some (by kernel_rfl))
  f329 := Try.func72.trans (congrArg some (by kernel_rfl))
  f330 := Try.func73.trans (congrArg some (by kernel_rfl))
  f331 := Try.func74.trans (congrArg some (by kernel_rfl))
  f332 := Try.func75.trans (congrArg some (by kernel_rfl))
  f343 := Try.func77.trans (congrArg some (by kernel_rfl))
  t0 := Try.underlying0
  a0 := Try.isAgg0
  z0 := Try.sizeOf0
  v0 := Try.zeroValue0
  t3 := Try.underlying3
  a3 := Try.isAgg3
  z3 := Try.sizeOf3
  v3 := Try.zeroValue3
  t4 := Try.underlying4
  a4 := Try.isAgg4
  z4 := Try.sizeOf4
  v4 := Try.zeroValue4
  t5 := Try.underlying5
  a5 := Try.isAgg5
  z5 := Try.sizeOf5
  v5 := Try.zeroValue5
  t9 := Try.underlying9
  a9 := Try.isAgg9
  z9 := Try.sizeOf9
  v9 := Try.zeroValue9
  t28 := Try.underlying28
  a28 := Try.isAgg28
  z28 := Try.sizeOf28
  v28 := Try.zeroValue28
  t46 := Try.underlying85
  a46 := Try.isAgg85
  z46 := Try.sizeOf85
  v46 := Try.zeroValue85
  t51 := Try.underlying97
  a51 := Try.isAgg97
  z51 := Try.sizeOf97
  v51 := Try.zeroValue97
  t53 := Try.underlying99
  a53 := Try.isAgg99
  z53 := Try.sizeOf99
  v53 := Try.zeroValue99
  t131 := Try.underlying94
  a131 := Try.isAgg94
  z131 := Try.sizeOf94
  v131 := Try.zeroValue94
  t182 := Try.underlying88
  a182 := Try.isAgg88
  z182 := Try.sizeOf88
  v182 := Try.zeroValue88
  t183 := Try.underlying89
  a183 := Try.isAgg89
  z183 := Try.sizeOf89
  v183 := Try.zeroValue89
  t218 := Try.underlying100
  a218 := Try.isAgg100
  z218 := Try.sizeOf100
  v218 := Try.zeroValue100
  t222 := Try.underlying104
  a222 := Try.isAgg104
  z222 := Try.sizeOf104
  v222 := Try.zeroValue104
  t228 := Try.underlying106
  a228 := Try.isAgg106
  z228 := Try.sizeOf106
  v228 := Try.zeroValue106
  t229 := Try.underlying107
  a229 := Try.isAgg107
  z229 := Try.sizeOf107
  v229 := Try.zeroValue107 }
open Go.Sort Go.RowKit in
theorem soSort (blk off cap : Nat) (zs : List Int) (w : World) (hH : Holds (Value.int .i64) w blk off zs.toArray) (hblk : blk < w.heap.size) (hsz : zs.length < 4611686018427387904) :
    Calls Try.prog 52 #[.slice (some ⟨blk, off, none⟩) zs.length cap] w fun e w' =>
      e = .returned (.tuple #[]) ∧ ∃ n os, w' = grow (putRow (Value.int .i64) (Sort.ahead w n) blk off (zs.mergeSort fun x y => decide (x ≤ y)).toArray) os := Any.slices_Sort_int soLays blk off cap zs w hH hblk hsz
def dfRen : Go.Shelf.Ren := ⟨fun | 10 => 53 | 6 => 59 | n => n, fun | 22 => 28 | 23 => 3 | 25 => 78 | 3 => 3 | 4 => 4 | 0 => 0 | n => n, fun | n => n⟩
theorem dfLays : Go.Proofs.SlLaysH.n10 Try.prog dfRen := {
  mixed := by kernel_rfl
  f6 := ⟨Try.f59.name, by decide, Try.func59.trans (congrArg some (by kernel_rfl))⟩
  f10 := ⟨Try.f53.name, by decide, Try.func53.trans (congrArg some (by kernel_rfl))⟩
  t0 := Try.underlying0
  a0 := Try.isAgg0
  z0 := Try.sizeOf0
  v0 := Try.zeroValue0
  t3 := Try.underlying3
  a3 := Try.isAgg3
  z3 := Try.sizeOf3
  v3 := Try.zeroValue3
  t4 := Try.underlying4
  a4 := Try.isAgg4
  z4 := Try.sizeOf4
  v4 := Try.zeroValue4
  t22 := Try.underlying28
  a22 := Try.isAgg28
  z22 := Try.sizeOf28
  v22 := Try.zeroValue28
  a23 := Try.isAgg3
  z23 := Try.sizeOf3
  t25 := Try.underlying78
  a25 := Try.isAgg78
  z25 := Try.sizeOf78
  v25 := Try.zeroValue78 }
open Go.RowKit Go.Lib Go.Sort in
theorem dfDel {α : Type} [Inhabited α] (enc : α → Value) (hO : OneCell enc) (p : α → Bool) (g : Nat) (lb : Array Value) (eg : ∀ args w, (callFunc g args).run Try.prog w = .ok (.enter g args) w) (zr : α) (v23 : ∀ w, (zeroValue 3).run Try.prog w = .ok (enc zr) w) (blk off cap : Nat) (d : Array α) (w : World) (hp : PredAt Try.prog g lb enc p w) (hpo : PredOver Try.prog g lb enc p blk off d.size w) (hH : Holds enc w blk off d) (hsz : d.size ≤ 9223372036854775807) (hcap : d.size ≤ cap) :
    Calls Try.prog 53 #[.slice (some ⟨blk, off, none⟩) d.size cap, .func (.func g) #[] lb] w fun e w' => e = .returned (.slice (some ⟨blk, off, none⟩) (d.toList.filter fun x => !p x).length cap) ∧ ∃ q, w' = putRow enc (Sort.ahead w q) blk off ((d.toList.filter fun x => !p x) ++ List.replicate (d.size - (d.toList.filter fun x => !p x).length) zr).toArray := AnyE.slices_DeleteFunc dfLays enc hO p g lb eg zr v23 blk off cap d w hp hpo hH hsz hcap

theorem soF52 : SoF Try.prog 52 := fun blk off cap zs w hH hblk hsz => soSort blk off cap zs w hH hblk hsz
open Go.Lib Go.Sort in
theorem dfP {k : Int} {B : Nat} {W : World} (x : Int) (hc : W.cell? ⟨B, 0, none⟩ = some (.int .i64 k)) : FnGives Try.prog 54 #[.pointer (some ⟨B, 0, none⟩)] #[Value.int .i64 x] (.bool (decide (x = k))) W := by
  have e : (x == k) = decide (x = k) := Bool.eq_iff_iff.2 (by simp)
  unfold FnGives
  go_enter Try.func54, Try.ntmps54
  go_wp2
  go_ret
  exact ⟨by first | (simp; done) | (simp; exact e), 0, rfl⟩
open Go.Lib Go.Sort in
theorem dfF53 : DfF Try.prog 53 54 := fun blk off cap B zs k w hH hblk hB hne hc hcap hsz => by
  have hz : zs.toArray.size = zs.length := by simp
  have h := dfDel (Value.int .i64) (fun _ => rfl) (fun x => decide (x = k)) 54 #[.pointer (some ⟨B, 0, none⟩)] (enters_of Try.func54 (by kernel_rfl) rfl) 0 Try.zeroValue3 blk off cap zs.toArray w
    (fun W x hb => dfP x ((hb.cell (p := ⟨B, 0, none⟩) hB).trans hc))
    (fun n os dk x hs => dfP x (by
      have e : (Go.Sort.grow (Go.Sort.putRow (Value.int .i64) (Go.Sort.ahead w n) blk off dk) os).heap[B]? = w.heap[B]? := by
        unfold Go.Sort.grow
        rw [Array.getElem?_append_left (by rw [Go.Sort.size_putRow]; exact hB)]
        unfold Go.Sort.putRow Go.Sort.mapBlock Go.Sort.ahead
        simp only [Array.getElem?_modify, if_neg (fun q : blk = B => hne q.symm)]
      unfold sortWorld
      rw [← hc]
      unfold World.cell?
      rw [e]))
    hH (by omega) (by omega)
  rw [hz] at h
  exact h
def as_Made : List AS := [.val (.list (.int .u8))]
def bs_Made : List BS := []
def pout_Made : Pat := ⟨[(2, .ptr 600005 0)], [(600005, .box 53 (.val (.pair (.list (.int .u8)) (.int .i64))))]⟩
noncomputable def G_Made  (N : Nat) : OrcT := orcOf []
noncomputable def F_Made  (N : Nat) (x : List Int) : Option ((List Int) × Int) :=
  (evT (G_Made  N) L0 P0 []
    [] N 400 (bodyOf Try.f8) ⟨6, slots 0 (argsOf as_Made bs_Made x), tabU (lbOf as_Made bs_Made x) [], []⟩).elim (kRet 6 pout_Made (kpL []) (lbOf as_Made bs_Made x))
def out_Made (y : (List Int) × Int) : V × List OK × List OK := (.ptr 2000000 0 0, [], [.box 53 (cellsW (.pair (.list (.int .u8)) (.int .i64)) y)])
noncomputable def V_Made  (N : Nat) (x : List Int) : Option ((List Int) × Int) :=
  some (x, (0:Int))
theorem FV_Made_eq  (N : Nat) (x : List Int) : F_Made  N x = V_Made  N x := by kernel_rfl
noncomputable def W_Made (N : Nat) (x : List Int) : Option ((List Int) × Int) := V_Made  N x
theorem F_Made_eq (N : Nat) (x : List Int) : F_Made  N x = W_Made N x := (FV_Made_eq  N x).trans (by kernel_rfl)
noncomputable def conw_Made (w : List Int → Option ((List Int) × Int)) : Con := ⟨8, as_Made, bs_Made, (List Int) × Int, w, out_Made⟩
noncomputable def con_Made (N : Nat) : Con := conw_Made (W_Made N)
theorem R_Made_eq (x : List Int) (y : (List Int) × Int) : retOf2 P0 Try.f8 (kpL []) (lbOf as_Made bs_Made x) (patS ⟨6, [], [], []⟩ pout_Made y) = some (out_Made y) := by kernel_rfl
theorem con_Made_ok (N : Nat) : Con.ok P0 (con_Made N) := ⟨⟨Try.f8, Try.func8, by kernel_rfl, by kernel_rfl⟩, fun (x : List Int) (r : (List Int) × Int) (hr : W_Made N x = some r) =>
  spec2_evT (Γ := G_Made N) (Λ := L0) (pout := pout_Made) (kp := kpL []) mixed (orcOf_ok [] (by simp)) Try.func8 (c := bodyOf Try.f8) (by kernel_rfl) (by kernel_rfl) (of_decide_eq_true (by kernel_rfl)) ((F_Made_eq N x).trans hr) (R_Made_eq x r)⟩
def as_Picks_Num : List AS := [.ptr 0 0, .val (.int .i64)]
def bs_Picks_Num : List BS := [.box 53 (.pair (.list (.int .u8)) (.int .i64))]
def pout_Picks_Num : Pat := ⟨[(0, .ptr 1000000 0), (4, .val (.int .i64))], [(1000000, .box 53 (.val (.pair (.list (.int .u8)) (.int .i64))))]⟩
noncomputable def G_Picks_Num  (N : Nat) : OrcT := orcOf []
noncomputable def F_Picks_Num  (N : Nat) (x : Int × (List Int) × Int) : Option (Int × (List Int) × Int) :=
  (evT (G_Picks_Num  N) L0 P0 []
    [] N 400 (bodyOf Try.f29) ⟨40, slots 0 (argsOf as_Picks_Num bs_Picks_Num x), tabU (lbOf as_Picks_Num bs_Picks_Num x) [], []⟩).elim (kRet 40 pout_Picks_Num (kpL [true]) (lbOf as_Picks_Num bs_Picks_Num x))
def out_Picks_Num (y : Int × (List Int) × Int) : V × List OK × List OK := (valW (.int .i64) y.1, [.box 53 (cellsW (.pair (.list (.int .u8)) (.int .i64)) y.2)], [])
noncomputable def V_Picks_Num  (N : Nat) (x : Int × (List Int) × Int) : Option (Int × (List Int) × Int) :=
  cnd (decide ((↑(List.length x.2.1) : Int) ≤ x.2.2)) (some ((0:Int), x.2)) (cnd (decide (x.1 < (1:Int))) (some ((0:Int), x.2)) (cnd (decide ((0:Int) ≤
    wr .i64 (wr .i64 (x.2.2 + (1:Int)) - (1:Int))) && decide (wr .i64 (wr .i64 (x.2.2 + (1:Int)) - (1:Int)) < (↑(List.length x.2.1) : Int))) (cnd
    (!decide (x.1 = (0:Int))) (some (Int.tmod (wr .i64 (List.getD x.2.1 (Int.toNat (wr .i64 (wr .i64 (x.2.2 + (1:Int)) - (1:Int)))) (0:Int))) x.1,
    x.2.1, wr .i64 (x.2.2 + (1:Int)))) none) none))
theorem FV_Picks_Num_eq  (N : Nat) (x : Int × (List Int) × Int) : F_Picks_Num  N x = V_Picks_Num  N x := by kernel_rfl
noncomputable def W_Picks_Num (N : Nat) (x : Int × (List Int) × Int) : Option (Int × (List Int) × Int) := V_Picks_Num  N x
theorem F_Picks_Num_eq (N : Nat) (x : Int × (List Int) × Int) : F_Picks_Num  N x = W_Picks_Num N x := (FV_Picks_Num_eq  N x).trans (by kernel_rfl)
noncomputable def conw_Picks_Num (w : Int × (List Int) × Int → Option (Int × (List Int) × Int)) : Con := ⟨29, as_Picks_Num, bs_Picks_Num, Int × (List Int) × Int, w, out_Picks_Num⟩
noncomputable def con_Picks_Num (N : Nat) : Con := conw_Picks_Num (W_Picks_Num N)
theorem R_Picks_Num_eq (x : Int × (List Int) × Int) (y : Int × (List Int) × Int) : retOf2 P0 Try.f29 (kpL [true]) (lbOf as_Picks_Num bs_Picks_Num x) (patS ⟨40, [], [], []⟩ pout_Picks_Num y) = some (out_Picks_Num y) := by kernel_rfl
theorem con_Picks_Num_ok (N : Nat) : Con.ok P0 (con_Picks_Num N) := ⟨⟨Try.f29, Try.func29, by kernel_rfl, by kernel_rfl⟩, fun (x : Int × (List Int) × Int) (r : Int × (List Int) × Int) (hr : W_Picks_Num N x = some r) =>
  spec2_evT (Γ := G_Picks_Num N) (Λ := L0) (pout := pout_Picks_Num) (kp := kpL [true]) mixed (orcOf_ok [] (by simp)) Try.func29 (c := bodyOf Try.f29) (by kernel_rfl) (by kernel_rfl) (of_decide_eq_true (by kernel_rfl)) ((F_Picks_Num_eq N x).trans hr) (R_Picks_Num_eq x r)⟩
def as_Picks_Dist : List AS := [.ptr 0 0]
def bs_Picks_Dist : List BS := [.box 53 (.pair (.list (.int .u8)) (.int .i64))]
def pout_Picks_Dist : Pat := ⟨[(0, .ptr 1000000 0), (2, .val (.list (.list (.int .i64))))], [(1000000, .box 53 (.val (.pair (.list (.int .u8)) (.int .i64))))]⟩
noncomputable def G_Picks_Dist (w_Picks_Num : Int × (List Int) × Int → Option (Int × (List Int) × Int)) (N : Nat) : OrcT := orcOf [conw_Picks_Num w_Picks_Num]
noncomputable def F_Picks_Dist (w_Picks_Num : Int × (List Int) × Int → Option (Int × (List Int) × Int)) (N : Nat) (x : (List Int) × Int) : Option ((List (List Int)) × (List Int) × Int) :=
  (evT (G_Picks_Dist w_Picks_Num N) L0 P0 [(3, .unroll 9),
    (10, .unroll 9),
    (7, .unroll 9)]
    [] N 400 (bodyOf Try.f9) ⟨45, slots 0 (argsOf as_Picks_Dist bs_Picks_Dist x), tabU (lbOf as_Picks_Dist bs_Picks_Dist x) [], []⟩).elim (kRet 45 pout_Picks_Dist (kpL [true]) (lbOf as_Picks_Dist bs_Picks_Dist x))
def out_Picks_Dist (y : (List (List Int)) × (List Int) × Int) : V × List OK × List OK := (valW (.list (.list (.int .i64))) y.1, [.box 53 (cellsW (.pair (.list (.int .u8)) (.int .i64)) y.2)], [])
noncomputable def V_Picks_Dist (w_Picks_Num : Int × (List Int) × Int → Option (Int × (List Int) × Int)) (N : Nat) (x : (List Int) × Int) : Option ((List (List Int)) × (List Int) × Int) :=
  obind (w_Picks_Num ((9:Int), x)) fun b0 => cnd (decide ((0:Int) ≤ b0.1)) (cnd (decide (b0.1 < ((↑(9:Nat) : Int) : Int))) (obind (w_Picks_Num
    ((9:Int), b0.2)) fun b1 => cnd (decide ((0:Int) ≤ b1.1)) (cnd (decide (b1.1 < ((↑(9:Nat) : Int) : Int))) (obind (w_Picks_Num ((9:Int), b1.2)) fun
    b2 => cnd (decide ((0:Int) ≤ b2.1)) (cnd (decide (b2.1 < ((↑(9:Nat) : Int) : Int))) (obind (w_Picks_Num ((9:Int), b2.2)) fun b3 => cnd (decide
    ((0:Int) ≤ b3.1)) (cnd (decide (b3.1 < ((↑(9:Nat) : Int) : Int))) (obind (w_Picks_Num ((9:Int), b3.2)) fun b4 => cnd (decide ((0:Int) ≤ b4.1))
    (cnd (decide (b4.1 < ((↑(9:Nat) : Int) : Int))) (obind (w_Picks_Num ((9:Int), b4.2)) fun b5 => cnd (decide ((0:Int) ≤ b5.1)) (cnd (decide (b5.1 <
    ((↑(9:Nat) : Int) : Int))) (obind (w_Picks_Num ((9:Int), b5.2)) fun b6 => cnd (decide ((0:Int) ≤ b6.1)) (cnd (decide (b6.1 < ((↑(9:Nat) : Int) :
    Int))) (obind (w_Picks_Num ((9:Int), b6.2)) fun b7 => cnd (decide ((0:Int) ≤ b7.1)) (cnd (decide (b7.1 < ((↑(9:Nat) : Int) : Int))) (obind
    (w_Picks_Num ((9:Int), b7.2)) fun b8 => cnd (decide ((0:Int) ≤ b8.1)) (cnd (decide (b8.1 < ((↑(9:Nat) : Int) : Int))) (obind (w_Picks_Num
    ((9:Int), b8.2)) fun b9 => cnd (decide ((0:Int) ≤ b9.1)) (cnd (decide (b9.1 < ((↑(9:Nat) : Int) : Int))) (obind (w_Picks_Num ((9:Int), b9.2)) fun
    b10 => cnd (decide ((0:Int) ≤ b10.1)) (cnd (decide (b10.1 < ((↑(9:Nat) : Int) : Int))) (obind (w_Picks_Num ((9:Int), b10.2)) fun b11 => cnd
    (decide ((0:Int) ≤ b11.1)) (cnd (decide (b11.1 < ((↑(9:Nat) : Int) : Int))) (obind (w_Picks_Num ((9:Int), b11.2)) fun b12 => cnd (decide ((0:Int)
    ≤ b12.1)) (cnd (decide (b12.1 < ((↑(9:Nat) : Int) : Int))) (obind (w_Picks_Num ((9:Int), b12.2)) fun b13 => cnd (decide ((0:Int) ≤ b13.1)) (cnd
    (decide (b13.1 < ((↑(9:Nat) : Int) : Int))) (obind (w_Picks_Num ((9:Int), b13.2)) fun b14 => cnd (decide ((0:Int) ≤ b14.1)) (cnd (decide (b14.1 <
    ((↑(9:Nat) : Int) : Int))) (obind (w_Picks_Num ((9:Int), b14.2)) fun b15 => cnd (decide ((0:Int) ≤ b15.1)) (cnd (decide (b15.1 < ((↑(9:Nat) : Int)
    : Int))) (obind (w_Picks_Num ((9:Int), b15.2)) fun b16 => cnd (decide ((0:Int) ≤ b16.1)) (cnd (decide (b16.1 < ((↑(9:Nat) : Int) : Int))) (obind
    (w_Picks_Num ((9:Int), b16.2)) fun b17 => cnd (decide ((0:Int) ≤ b17.1)) (cnd (decide (b17.1 < ((↑(9:Nat) : Int) : Int))) (obind (w_Picks_Num
    ((9:Int), b17.2)) fun b18 => cnd (decide ((0:Int) ≤ b18.1)) (cnd (decide (b18.1 < ((↑(9:Nat) : Int) : Int))) (obind (w_Picks_Num ((9:Int), b18.2))
    fun b19 => cnd (decide ((0:Int) ≤ b19.1)) (cnd (decide (b19.1 < ((↑(9:Nat) : Int) : Int))) (obind (w_Picks_Num ((9:Int), b19.2)) fun b20 => cnd
    (decide ((0:Int) ≤ b20.1)) (cnd (decide (b20.1 < ((↑(9:Nat) : Int) : Int))) (obind (w_Picks_Num ((9:Int), b20.2)) fun b21 => cnd (decide ((0:Int)
    ≤ b21.1)) (cnd (decide (b21.1 < ((↑(9:Nat) : Int) : Int))) (obind (w_Picks_Num ((9:Int), b21.2)) fun b22 => cnd (decide ((0:Int) ≤ b22.1)) (cnd
    (decide (b22.1 < ((↑(9:Nat) : Int) : Int))) (obind (w_Picks_Num ((9:Int), b22.2)) fun b23 => cnd (decide ((0:Int) ≤ b23.1)) (cnd (decide (b23.1 <
    ((↑(9:Nat) : Int) : Int))) (obind (w_Picks_Num ((9:Int), b23.2)) fun b24 => cnd (decide ((0:Int) ≤ b24.1)) (cnd (decide (b24.1 < ((↑(9:Nat) : Int)
    : Int))) (obind (w_Picks_Num ((9:Int), b24.2)) fun b25 => cnd (decide ((0:Int) ≤ b25.1)) (cnd (decide (b25.1 < ((↑(9:Nat) : Int) : Int))) (obind
    (w_Picks_Num ((9:Int), b25.2)) fun b26 => cnd (decide ((0:Int) ≤ b26.1)) (cnd (decide (b26.1 < ((↑(9:Nat) : Int) : Int))) (obind (w_Picks_Num
    ((9:Int), b26.2)) fun b27 => cnd (decide ((0:Int) ≤ b27.1)) (cnd (decide (b27.1 < ((↑(9:Nat) : Int) : Int))) (some ([[(0:Int), List.getD [(1:Int),
    (2:Int), (3:Int), (5:Int), (9:Int), (9:Int), (20:Int), (1000:Int), (0:Int)] (Int.toNat b0.1) (0:Int), List.getD [(1:Int), (2:Int), (3:Int), (5:Int),
    (9:Int), (9:Int), (20:Int), (1000:Int), (0:Int)] (Int.toNat b1.1) (0:Int), List.getD [(1:Int), (2:Int), (3:Int), (5:Int), (9:Int), (9:Int),
    (20:Int), (1000:Int), (0:Int)] (Int.toNat b3.1) (0:Int), List.getD [(1:Int), (2:Int), (3:Int), (5:Int), (9:Int), (9:Int), (20:Int), (1000:Int),
    (0:Int)] (Int.toNat b6.1) (0:Int), List.getD [(1:Int), (2:Int), (3:Int), (5:Int), (9:Int), (9:Int), (20:Int), (1000:Int), (0:Int)] (Int.toNat b10.1)
    (0:Int), List.getD [(1:Int), (2:Int), (3:Int), (5:Int), (9:Int), (9:Int), (20:Int), (1000:Int), (0:Int)] (Int.toNat b15.1) (0:Int), List.getD
    [(1:Int), (2:Int), (3:Int), (5:Int), (9:Int), (9:Int), (20:Int), (1000:Int), (0:Int)] (Int.toNat b21.1) (0:Int)], [List.getD [(1:Int), (2:Int),
    (3:Int), (5:Int), (9:Int), (9:Int), (20:Int), (1000:Int), (0:Int)] (Int.toNat b0.1) (0:Int), (0:Int), List.getD [(1:Int), (2:Int), (3:Int), (5:Int),
    (9:Int), (9:Int), (20:Int), (1000:Int), (0:Int)] (Int.toNat b2.1) (0:Int), List.getD [(1:Int), (2:Int), (3:Int), (5:Int), (9:Int), (9:Int),
    (20:Int), (1000:Int), (0:Int)] (Int.toNat b4.1) (0:Int), List.getD [(1:Int), (2:Int), (3:Int), (5:Int), (9:Int), (9:Int), (20:Int), (1000:Int),
    (0:Int)] (Int.toNat b7.1) (0:Int), List.getD [(1:Int), (2:Int), (3:Int), (5:Int), (9:Int), (9:Int), (20:Int), (1000:Int), (0:Int)] (Int.toNat b11.1)
    (0:Int), List.getD [(1:Int), (2:Int), (3:Int), (5:Int), (9:Int), (9:Int), (20:Int), (1000:Int), (0:Int)] (Int.toNat b16.1) (0:Int), List.getD
    [(1:Int), (2:Int), (3:Int), (5:Int), (9:Int), (9:Int), (20:Int), (1000:Int), (0:Int)] (Int.toNat b22.1) (0:Int)], [List.getD [(1:Int), (2:Int),
    (3:Int), (5:Int), (9:Int), (9:Int), (20:Int), (1000:Int), (0:Int)] (Int.toNat b1.1) (0:Int), List.getD [(1:Int), (2:Int), (3:Int), (5:Int), (9:Int),
    (9:Int), (20:Int), (1000:Int), (0:Int)] (Int.toNat b2.1) (0:Int), (0:Int), List.getD [(1:Int), (2:Int), (3:Int), (5:Int), (9:Int), (9:Int),
    (20:Int), (1000:Int), (0:Int)] (Int.toNat b5.1) (0:Int), List.getD [(1:Int), (2:Int), (3:Int), (5:Int), (9:Int), (9:Int), (20:Int), (1000:Int),
    (0:Int)] (Int.toNat b8.1) (0:Int), List.getD [(1:Int), (2:Int), (3:Int), (5:Int), (9:Int), (9:Int), (20:Int), (1000:Int), (0:Int)] (Int.toNat b12.1)
    (0:Int), List.getD [(1:Int), (2:Int), (3:Int), (5:Int), (9:Int), (9:Int), (20:Int), (1000:Int), (0:Int)] (Int.toNat b17.1) (0:Int), List.getD
    [(1:Int), (2:Int), (3:Int), (5:Int), (9:Int), (9:Int), (20:Int), (1000:Int), (0:Int)] (Int.toNat b23.1) (0:Int)], [List.getD [(1:Int), (2:Int),
    (3:Int), (5:Int), (9:Int), (9:Int), (20:Int), (1000:Int), (0:Int)] (Int.toNat b3.1) (0:Int), List.getD [(1:Int), (2:Int), (3:Int), (5:Int), (9:Int),
    (9:Int), (20:Int), (1000:Int), (0:Int)] (Int.toNat b4.1) (0:Int), List.getD [(1:Int), (2:Int), (3:Int), (5:Int), (9:Int), (9:Int), (20:Int),
    (1000:Int), (0:Int)] (Int.toNat b5.1) (0:Int), (0:Int), List.getD [(1:Int), (2:Int), (3:Int), (5:Int), (9:Int), (9:Int), (20:Int), (1000:Int),
    (0:Int)] (Int.toNat b9.1) (0:Int), List.getD [(1:Int), (2:Int), (3:Int), (5:Int), (9:Int), (9:Int), (20:Int), (1000:Int), (0:Int)] (Int.toNat b13.1)
    (0:Int), List.getD [(1:Int), (2:Int), (3:Int), (5:Int), (9:Int), (9:Int), (20:Int), (1000:Int), (0:Int)] (Int.toNat b18.1) (0:Int), List.getD
    [(1:Int), (2:Int), (3:Int), (5:Int), (9:Int), (9:Int), (20:Int), (1000:Int), (0:Int)] (Int.toNat b24.1) (0:Int)], [List.getD [(1:Int), (2:Int),
    (3:Int), (5:Int), (9:Int), (9:Int), (20:Int), (1000:Int), (0:Int)] (Int.toNat b6.1) (0:Int), List.getD [(1:Int), (2:Int), (3:Int), (5:Int), (9:Int),
    (9:Int), (20:Int), (1000:Int), (0:Int)] (Int.toNat b7.1) (0:Int), List.getD [(1:Int), (2:Int), (3:Int), (5:Int), (9:Int), (9:Int), (20:Int),
    (1000:Int), (0:Int)] (Int.toNat b8.1) (0:Int), List.getD [(1:Int), (2:Int), (3:Int), (5:Int), (9:Int), (9:Int), (20:Int), (1000:Int), (0:Int)]
    (Int.toNat b9.1) (0:Int), (0:Int), List.getD [(1:Int), (2:Int), (3:Int), (5:Int), (9:Int), (9:Int), (20:Int), (1000:Int), (0:Int)] (Int.toNat b14.1)
    (0:Int), List.getD [(1:Int), (2:Int), (3:Int), (5:Int), (9:Int), (9:Int), (20:Int), (1000:Int), (0:Int)] (Int.toNat b19.1) (0:Int), List.getD
    [(1:Int), (2:Int), (3:Int), (5:Int), (9:Int), (9:Int), (20:Int), (1000:Int), (0:Int)] (Int.toNat b25.1) (0:Int)], [List.getD [(1:Int), (2:Int),
    (3:Int), (5:Int), (9:Int), (9:Int), (20:Int), (1000:Int), (0:Int)] (Int.toNat b10.1) (0:Int), List.getD [(1:Int), (2:Int), (3:Int), (5:Int),
    (9:Int), (9:Int), (20:Int), (1000:Int), (0:Int)] (Int.toNat b11.1) (0:Int), List.getD [(1:Int), (2:Int), (3:Int), (5:Int), (9:Int), (9:Int),
    (20:Int), (1000:Int), (0:Int)] (Int.toNat b12.1) (0:Int), List.getD [(1:Int), (2:Int), (3:Int), (5:Int), (9:Int), (9:Int), (20:Int), (1000:Int),
    (0:Int)] (Int.toNat b13.1) (0:Int), List.getD [(1:Int), (2:Int), (3:Int), (5:Int), (9:Int), (9:Int), (20:Int), (1000:Int), (0:Int)] (Int.toNat
    b14.1) (0:Int), (0:Int), List.getD [(1:Int), (2:Int), (3:Int), (5:Int), (9:Int), (9:Int), (20:Int), (1000:Int), (0:Int)] (Int.toNat b20.1) (0:Int),
    List.getD [(1:Int), (2:Int), (3:Int), (5:Int), (9:Int), (9:Int), (20:Int), (1000:Int), (0:Int)] (Int.toNat b26.1) (0:Int)], [List.getD [(1:Int),
    (2:Int), (3:Int), (5:Int), (9:Int), (9:Int), (20:Int), (1000:Int), (0:Int)] (Int.toNat b15.1) (0:Int), List.getD [(1:Int), (2:Int), (3:Int),
    (5:Int), (9:Int), (9:Int), (20:Int), (1000:Int), (0:Int)] (Int.toNat b16.1) (0:Int), List.getD [(1:Int), (2:Int), (3:Int), (5:Int), (9:Int),
    (9:Int), (20:Int), (1000:Int), (0:Int)] (Int.toNat b17.1) (0:Int), List.getD [(1:Int), (2:Int), (3:Int), (5:Int), (9:Int), (9:Int), (20:Int),
    (1000:Int), (0:Int)] (Int.toNat b18.1) (0:Int), List.getD [(1:Int), (2:Int), (3:Int), (5:Int), (9:Int), (9:Int), (20:Int), (1000:Int), (0:Int)]
    (Int.toNat b19.1) (0:Int), List.getD [(1:Int), (2:Int), (3:Int), (5:Int), (9:Int), (9:Int), (20:Int), (1000:Int), (0:Int)] (Int.toNat b20.1)
    (0:Int), (0:Int), List.getD [(1:Int), (2:Int), (3:Int), (5:Int), (9:Int), (9:Int), (20:Int), (1000:Int), (0:Int)] (Int.toNat b27.1) (0:Int)],
    [List.getD [(1:Int), (2:Int), (3:Int), (5:Int), (9:Int), (9:Int), (20:Int), (1000:Int), (0:Int)] (Int.toNat b21.1) (0:Int), List.getD [(1:Int),
    (2:Int), (3:Int), (5:Int), (9:Int), (9:Int), (20:Int), (1000:Int), (0:Int)] (Int.toNat b22.1) (0:Int), List.getD [(1:Int), (2:Int), (3:Int),
    (5:Int), (9:Int), (9:Int), (20:Int), (1000:Int), (0:Int)] (Int.toNat b23.1) (0:Int), List.getD [(1:Int), (2:Int), (3:Int), (5:Int), (9:Int),
    (9:Int), (20:Int), (1000:Int), (0:Int)] (Int.toNat b24.1) (0:Int), List.getD [(1:Int), (2:Int), (3:Int), (5:Int), (9:Int), (9:Int), (20:Int),
    (1000:Int), (0:Int)] (Int.toNat b25.1) (0:Int), List.getD [(1:Int), (2:Int), (3:Int), (5:Int), (9:Int), (9:Int), (20:Int), (1000:Int), (0:Int)]
    (Int.toNat b26.1) (0:Int), List.getD [(1:Int), (2:Int), (3:Int), (5:Int), (9:Int), (9:Int), (20:Int), (1000:Int), (0:Int)] (Int.toNat b27.1)
    (0:Int), (0:Int)]], b27.2)) none) none) none) none) none) none) none) none) none) none) none) none) none) none) none) none) none) none) none) none)
    none) none) none) none) none) none) none) none) none) none) none) none) none) none) none) none) none) none) none) none) none) none) none) none)
    none) none) none) none) none) none) none) none) none) none) none) none
theorem FV_Picks_Dist_eq (w_Picks_Num : Int × (List Int) × Int → Option (Int × (List Int) × Int)) (N : Nat) (x : (List Int) × Int) : F_Picks_Dist w_Picks_Num N x = V_Picks_Dist w_Picks_Num N x := by kernel_rfl
noncomputable def W_Picks_Dist (N : Nat) (x : (List Int) × Int) : Option ((List (List Int)) × (List Int) × Int) := V_Picks_Dist (W_Picks_Num N) N x
theorem F_Picks_Dist_eq (N : Nat) (x : (List Int) × Int) : F_Picks_Dist (W_Picks_Num N) N x = W_Picks_Dist N x := (FV_Picks_Dist_eq (W_Picks_Num N) N x).trans (by kernel_rfl)
noncomputable def conw_Picks_Dist (w : (List Int) × Int → Option ((List (List Int)) × (List Int) × Int)) : Con := ⟨9, as_Picks_Dist, bs_Picks_Dist, (List (List Int)) × (List Int) × Int, w, out_Picks_Dist⟩
noncomputable def con_Picks_Dist (N : Nat) : Con := conw_Picks_Dist (W_Picks_Dist N)
theorem R_Picks_Dist_eq (x : (List Int) × Int) (y : (List (List Int)) × (List Int) × Int) : retOf2 P0 Try.f9 (kpL [true]) (lbOf as_Picks_Dist bs_Picks_Dist x) (patS ⟨45, [], [], []⟩ pout_Picks_Dist y) = some (out_Picks_Dist y) := by kernel_rfl
theorem con_Picks_Dist_ok (N : Nat) : Con.ok P0 (con_Picks_Dist N) := ⟨⟨Try.f9, Try.func9, by kernel_rfl, by kernel_rfl⟩, fun (x : (List Int) × Int) (r : (List (List Int)) × (List Int) × Int) (hr : W_Picks_Dist N x = some r) =>
  spec2_evT (Γ := G_Picks_Dist (W_Picks_Num N) N) (Λ := L0) (pout := pout_Picks_Dist) (kp := kpL [true]) mixed (orcOf_ok _ (by simp only [List.mem_cons, List.not_mem_nil, or_false, forall_eq_or_imp, forall_eq]; exact con_Picks_Num_ok N)) Try.func9 (c := bodyOf Try.f9) (by kernel_rfl) (by kernel_rfl) (of_decide_eq_true (by kernel_rfl)) ((F_Picks_Dist_eq N x).trans hr) (R_Picks_Dist_eq x r)⟩
def as_clus_rises : List AS := [.val (.list (.int .i64))]
def bs_clus_rises : List BS := []
def pout_clus_rises : Pat := ⟨[(2, .val .bool)], []⟩
noncomputable def G_clus_rises  (N : Nat) : OrcT := orcOf []
noncomputable def F_clus_rises  (N : Nat) (x : List Int) : Option (Bool) :=
  (evT (G_clus_rises  N) L0 P0 [(3, .loop [6] ⟨[(3, .val (.int .i64)), (8, .val (.int .i64))], []⟩ [(.exit 0, ⟨[], []⟩), (.ret, ⟨[(2, .val .bool)], []⟩)])]
    [] N 400 (bodyOf Try.f45) ⟨21, slots 0 (argsOf as_clus_rises bs_clus_rises x), tabU (lbOf as_clus_rises bs_clus_rises x) [], []⟩).elim (kRet 21 pout_clus_rises (kpL []) (lbOf as_clus_rises bs_clus_rises x))
def out_clus_rises (y : Bool) : V × List OK × List OK := (valW .bool y, [], [])
noncomputable def V_clus_rises  (N : Nat) (x : List Int) : Option (Bool) :=
  obind (loopN N (fun (v : Int × Int) => cnd (decide (v.2 < (↑(List.length x) : Int))) (cnd (decide ((0:Int) ≤ v.2) && decide (v.2 < (↑(List.length x) :
    Int))) (cnd (decide (List.getD x (Int.toNat v.2) (0:Int) ≤ v.1)) (some (Sum.inr (Sum.inr false))) (cnd (decide ((8:Int) < List.getD x (Int.toNat
    v.2) (0:Int))) (some (Sum.inr (Sum.inr false))) (some (Sum.inl (List.getD x (Int.toNat v.2) (0:Int), wr .i64 (v.2 + (1:Int))))))) none) (some
    (Sum.inr (Sum.inl ())))) ((0:Int), (0:Int))) fun (b : PUnit ⊕ Bool) => selim (fun (b : PUnit) => some true) (fun (c : Bool) => some c) b
theorem FV_clus_rises_eq  (N : Nat) (x : List Int) : F_clus_rises  N x = V_clus_rises  N x := by kernel_rfl
noncomputable def W_clus_rises (N : Nat) (x : List Int) : Option (Bool) := V_clus_rises  N x
theorem F_clus_rises_eq (N : Nat) (x : List Int) : F_clus_rises  N x = W_clus_rises N x := (FV_clus_rises_eq  N x).trans (by kernel_rfl)
noncomputable def conw_clus_rises (w : List Int → Option (Bool)) : Con := ⟨45, as_clus_rises, bs_clus_rises, Bool, w, out_clus_rises⟩
noncomputable def con_clus_rises (N : Nat) : Con := conw_clus_rises (W_clus_rises N)
theorem R_clus_rises_eq (x : List Int) (y : Bool) : retOf2 P0 Try.f45 (kpL []) (lbOf as_clus_rises bs_clus_rises x) (patS ⟨21, [], [], []⟩ pout_clus_rises y) = some (out_clus_rises y) := by kernel_rfl
theorem con_clus_rises_ok (N : Nat) : Con.ok P0 (con_clus_rises N) := ⟨⟨Try.f45, Try.func45, by kernel_rfl, by kernel_rfl⟩, fun (x : List Int) (r : Bool) (hr : W_clus_rises N x = some r) =>
  spec2_evT (Γ := G_clus_rises N) (Λ := L0) (pout := pout_clus_rises) (kp := kpL []) mixed (orcOf_ok [] (by simp)) Try.func45 (c := bodyOf Try.f45) (by kernel_rfl) (by kernel_rfl) (of_decide_eq_true (by kernel_rfl)) ((F_clus_rises_eq N x).trans hr) (R_clus_rises_eq x r)⟩
def as_mid_between : List AS := [.val (.list (.list (.int .i64))), .val (.int .i64), .val (.int .i64)]
def bs_mid_between : List BS := []
def pout_mid_between : Pat := ⟨[(6, .val (.int .i64))], []⟩
noncomputable def G_mid_between  (N : Nat) : OrcT := orcOf []
noncomputable def F_mid_between  (N : Nat) (x : (List (List Int)) × Int × Int) : Option (Int) :=
  (evT (G_mid_between  N) L0 P0 []
    [(1000001, .reg [(8, [], ⟨[(14, .val .bool)], []⟩), (4, [], ⟨[(18, .val .bool)], []⟩)])] N 400 (bodyOf Try.f55) ⟨38, slots 0 (argsOf as_mid_between bs_mid_between x), tabU (lbOf as_mid_between bs_mid_between x) [], []⟩).elim (kRet 38 pout_mid_between (kpL []) (lbOf as_mid_between bs_mid_between x))
def out_mid_between (y : Int) : V × List OK × List OK := (valW (.int .i64) y, [], [])
noncomputable def V_mid_between  (N : Nat) (x : (List (List Int)) × Int × Int) : Option (Int) :=
  obind (cnd (decide (x.2.1 < (1:Int))) (some true) (some (decide ((↑(List.length x.1) : Int) < x.2.1)))) fun (b : Bool) => obind (cnd b (some true)
    (some (decide (x.2.2 < (1:Int))))) fun (b : Bool) => cnd b (some (0:Int)) (cnd (decide ((0:Int) ≤ wr .i64 (x.2.1 - (1:Int))) && decide (wr .i64
    (x.2.1 - (1:Int)) < (↑(List.length x.1) : Int))) (cnd (decide ((↑(List.length (List.getD x.1 (Int.toNat (wr .i64 (x.2.1 - (1:Int)))) [])) : Int) <
    x.2.2)) (some (0:Int)) (cnd (decide ((0:Int) ≤ wr .i64 (x.2.1 - (1:Int))) && decide (wr .i64 (x.2.1 - (1:Int)) < (↑(List.length x.1) : Int))) (cnd
    (decide ((0:Int) ≤ wr .i64 (x.2.2 - (1:Int))) && decide (wr .i64 (x.2.2 - (1:Int)) < (↑(List.length (List.getD x.1 (Int.toNat (wr .i64 (x.2.1 -
    (1:Int)))) [])) : Int))) (some (List.getD (List.getD x.1 (Int.toNat (wr .i64 (x.2.1 - (1:Int)))) []) (Int.toNat (wr .i64 (x.2.2 - (1:Int))))
    (0:Int))) none) none)) none)
theorem FV_mid_between_eq  (N : Nat) (x : (List (List Int)) × Int × Int) : F_mid_between  N x = V_mid_between  N x := by kernel_rfl
noncomputable def W_mid_between (N : Nat) (x : (List (List Int)) × Int × Int) : Option (Int) := V_mid_between  N x
theorem F_mid_between_eq (N : Nat) (x : (List (List Int)) × Int × Int) : F_mid_between  N x = W_mid_between N x := (FV_mid_between_eq  N x).trans (by kernel_rfl)
noncomputable def conw_mid_between (w : (List (List Int)) × Int × Int → Option (Int)) : Con := ⟨55, as_mid_between, bs_mid_between, Int, w, out_mid_between⟩
noncomputable def con_mid_between (N : Nat) : Con := conw_mid_between (W_mid_between N)
theorem R_mid_between_eq (x : (List (List Int)) × Int × Int) (y : Int) : retOf2 P0 Try.f55 (kpL []) (lbOf as_mid_between bs_mid_between x) (patS ⟨38, [], [], []⟩ pout_mid_between y) = some (out_mid_between y) := by kernel_rfl
theorem con_mid_between_ok (N : Nat) : Con.ok P0 (con_mid_between N) := ⟨⟨Try.f55, Try.func55, by kernel_rfl, by kernel_rfl⟩, fun (x : (List (List Int)) × Int × Int) (r : Int) (hr : W_mid_between N x = some r) =>
  spec2_evT (Γ := G_mid_between N) (Λ := L0) (pout := pout_mid_between) (kp := kpL []) mixed (orcOf_ok [] (by simp)) Try.func55 (c := bodyOf Try.f55) (by kernel_rfl) (by kernel_rfl) (of_decide_eq_true (by kernel_rfl)) ((F_mid_between_eq N x).trans hr) (R_mid_between_eq x r)⟩
def as_mid_Far : List AS := [.val (.list (.list (.int .i64))), .val (.int .i64), .val (.list (.int .i64))]
def bs_mid_Far : List BS := []
def pout_mid_Far : Pat := ⟨[(6, .val (.int .i64))], []⟩
noncomputable def G_mid_Far (w_mid_between : (List (List Int)) × Int × Int → Option (Int)) (N : Nat) : OrcT := orcOf [conw_mid_between w_mid_between]
noncomputable def F_mid_Far (w_mid_between : (List (List Int)) × Int × Int → Option (Int)) (N : Nat) (x : (List (List Int)) × Int × List Int) : Option (Int) :=
  (evT (G_mid_Far w_mid_between N) L0 P0 [(3, .loop [10] ⟨[(7, .val (.int .i64)), (12, .val (.int .i64))], []⟩ [(.exit 0, ⟨[(7, .val (.int .i64))], []⟩)])]
    [] N 400 (bodyOf Try.f46) ⟨24, slots 0 (argsOf as_mid_Far bs_mid_Far x), tabU (lbOf as_mid_Far bs_mid_Far x) [], []⟩).elim (kRet 24 pout_mid_Far (kpL []) (lbOf as_mid_Far bs_mid_Far x))
def out_mid_Far (y : Int) : V × List OK × List OK := (valW (.int .i64) y, [], [])
noncomputable def V_mid_Far (w_mid_between : (List (List Int)) × Int × Int → Option (Int)) (N : Nat) (x : (List (List Int)) × Int × List Int) : Option (Int) :=
  obind (loopN N (fun (v : Int × Int) => cnd (decide (v.2 < (↑(List.length x.2.2) : Int))) (cnd (decide ((0:Int) ≤ v.2) && decide (v.2 < (↑(List.length
    x.2.2) : Int))) (obind (w_mid_between (x.1, x.2.1, List.getD x.2.2 (Int.toNat v.2) (0:Int))) fun b => some (Sum.inl (max v.1 b, wr .i64 (v.2 +
    (1:Int))))) none) (some (Sum.inr v.1))) ((0:Int), (0:Int))) fun (b : Int) => some b
theorem FV_mid_Far_eq (w_mid_between : (List (List Int)) × Int × Int → Option (Int)) (N : Nat) (x : (List (List Int)) × Int × List Int) : F_mid_Far w_mid_between N x = V_mid_Far w_mid_between N x := by kernel_rfl
noncomputable def W_mid_Far (N : Nat) (x : (List (List Int)) × Int × List Int) : Option (Int) := V_mid_Far (W_mid_between N) N x
theorem F_mid_Far_eq (N : Nat) (x : (List (List Int)) × Int × List Int) : F_mid_Far (W_mid_between N) N x = W_mid_Far N x := (FV_mid_Far_eq (W_mid_between N) N x).trans (by kernel_rfl)
noncomputable def conw_mid_Far (w : (List (List Int)) × Int × List Int → Option (Int)) : Con := ⟨46, as_mid_Far, bs_mid_Far, Int, w, out_mid_Far⟩
noncomputable def con_mid_Far (N : Nat) : Con := conw_mid_Far (W_mid_Far N)
theorem R_mid_Far_eq (x : (List (List Int)) × Int × List Int) (y : Int) : retOf2 P0 Try.f46 (kpL []) (lbOf as_mid_Far bs_mid_Far x) (patS ⟨24, [], [], []⟩ pout_mid_Far y) = some (out_mid_Far y) := by kernel_rfl
theorem con_mid_Far_ok (N : Nat) : Con.ok P0 (con_mid_Far N) := ⟨⟨Try.f46, Try.func46, by kernel_rfl, by kernel_rfl⟩, fun (x : (List (List Int)) × Int × List Int) (r : Int) (hr : W_mid_Far N x = some r) =>
  spec2_evT (Γ := G_mid_Far (W_mid_between N) N) (Λ := L0) (pout := pout_mid_Far) (kp := kpL []) mixed (orcOf_ok _ (by simp only [List.mem_cons, List.not_mem_nil, or_false, forall_eq_or_imp, forall_eq]; exact con_mid_between_ok N)) Try.func46 (c := bodyOf Try.f46) (by kernel_rfl) (by kernel_rfl) (of_decide_eq_true (by kernel_rfl)) ((F_mid_Far_eq N x).trans hr) (R_mid_Far_eq x r)⟩
def as_clus_apart : List AS := [.val (.list (.list (.int .i64))), .val (.int .i64), .val (.int .i64)]
def bs_clus_apart : List BS := []
def pout_clus_apart : Pat := ⟨[(6, .val (.int .i64))], []⟩
noncomputable def G_clus_apart (w_mid_Far : (List (List Int)) × Int × List Int → Option (Int)) (N : Nat) : OrcT := orcOf [conw_mid_Far w_mid_Far]
noncomputable def F_clus_apart (w_mid_Far : (List (List Int)) × Int × List Int → Option (Int)) (N : Nat) (x : (List (List Int)) × Int × Int) : Option (Int) :=
  (evT (G_clus_apart w_mid_Far N) L0 P0 []
    [] N 400 (bodyOf Try.f32) ⟨12, slots 0 (argsOf as_clus_apart bs_clus_apart x), tabU (lbOf as_clus_apart bs_clus_apart x) [], []⟩).elim (kRet 12 pout_clus_apart (kpL []) (lbOf as_clus_apart bs_clus_apart x))
def out_clus_apart (y : Int) : V × List OK × List OK := (valW (.int .i64) y, [], [])
noncomputable def V_clus_apart (w_mid_Far : (List (List Int)) × Int × List Int → Option (Int)) (N : Nat) (x : (List (List Int)) × Int × Int) : Option (Int) :=
  obind (w_mid_Far (x.1, x.2.1, [x.2.2])) fun b => some b
theorem FV_clus_apart_eq (w_mid_Far : (List (List Int)) × Int × List Int → Option (Int)) (N : Nat) (x : (List (List Int)) × Int × Int) : F_clus_apart w_mid_Far N x = V_clus_apart w_mid_Far N x := by kernel_rfl
noncomputable def W_clus_apart (N : Nat) (x : (List (List Int)) × Int × Int) : Option (Int) := V_clus_apart (W_mid_Far N) N x
theorem F_clus_apart_eq (N : Nat) (x : (List (List Int)) × Int × Int) : F_clus_apart (W_mid_Far N) N x = W_clus_apart N x := (FV_clus_apart_eq (W_mid_Far N) N x).trans (by kernel_rfl)
noncomputable def conw_clus_apart (w : (List (List Int)) × Int × Int → Option (Int)) : Con := ⟨32, as_clus_apart, bs_clus_apart, Int, w, out_clus_apart⟩
noncomputable def con_clus_apart (N : Nat) : Con := conw_clus_apart (W_clus_apart N)
theorem R_clus_apart_eq (x : (List (List Int)) × Int × Int) (y : Int) : retOf2 P0 Try.f32 (kpL []) (lbOf as_clus_apart bs_clus_apart x) (patS ⟨12, [], [], []⟩ pout_clus_apart y) = some (out_clus_apart y) := by kernel_rfl
theorem con_clus_apart_ok (N : Nat) : Con.ok P0 (con_clus_apart N) := ⟨⟨Try.f32, Try.func32, by kernel_rfl, by kernel_rfl⟩, fun (x : (List (List Int)) × Int × Int) (r : Int) (hr : W_clus_apart N x = some r) =>
  spec2_evT (Γ := G_clus_apart (W_mid_Far N) N) (Λ := L0) (pout := pout_clus_apart) (kp := kpL []) mixed (orcOf_ok _ (by simp only [List.mem_cons, List.not_mem_nil, or_false, forall_eq_or_imp, forall_eq]; exact con_mid_Far_ok N)) Try.func32 (c := bodyOf Try.f32) (by kernel_rfl) (by kernel_rfl) (of_decide_eq_true (by kernel_rfl)) ((F_clus_apart_eq N x).trans hr) (R_clus_apart_eq x r)⟩
def as_clus_farthest : List AS := [.val (.list (.list (.int .i64))), .val (.list (.int .i64))]
def bs_clus_farthest : List BS := []
def pout_clus_farthest : Pat := ⟨[(4, .val (.alt 56 (.agg (.pair (.int .i64) (.int .i64))) (.alt1 71 (.agg .unit))))], []⟩
noncomputable def G_clus_farthest (w_clus_rises : List Int → Option (Bool)) (w_clus_apart : (List (List Int)) × Int × Int → Option (Int)) (N : Nat) : OrcT := orcOf [conw_clus_rises w_clus_rises, conw_clus_apart w_clus_apart]
noncomputable def F_clus_farthest (w_clus_rises : List Int → Option (Bool)) (w_clus_apart : (List (List Int)) × Int × Int → Option (Int)) (N : Nat) (x : (List (List Int)) × List Int) : Option ((Int × Int) ⊕ Unit) :=
  (evT (G_clus_farthest w_clus_rises w_clus_apart N) L0 P0 [(8, .loop [27, 37] ⟨[(5, .ptr 600005 0), (39, .val (.int .i64))], [(600005, .box 56 (.val (.pair (.int .i64) (.int .i64))))]⟩ [(.exit 2, ⟨[(5, .ptr 600005 0)], [(600005, .box 56 (.val (.pair (.int .i64) (.int .i64))))]⟩)]),
    (5, .loop [27] ⟨[(5, .ptr 600005 0), (29, .val (.int .i64))], [(600005, .box 56 (.val (.pair (.int .i64) (.int .i64))))]⟩ [(.exit 0, ⟨[(5, .ptr 600005 0)], [(600005, .box 56 (.val (.pair (.int .i64) (.int .i64))))]⟩)])]
    [] N 400 (bodyOf Try.f30) ⟨61, slots 0 (argsOf as_clus_farthest bs_clus_farthest x), tabU (lbOf as_clus_farthest bs_clus_farthest x) [], []⟩).elim (kRet 61 pout_clus_farthest (kpL []) (lbOf as_clus_farthest bs_clus_farthest x))
def out_clus_farthest (y : (Int × Int) ⊕ Unit) : V × List OK × List OK := (valW (.alt 56 (.agg (.pair (.int .i64) (.int .i64))) (.alt1 71 (.agg .unit))) y, [], [])
noncomputable def V_clus_farthest (w_clus_rises : List Int → Option (Bool)) (w_clus_apart : (List (List Int)) × Int × Int → Option (Int)) (N : Nat) (x : (List (List Int)) × List Int) : Option ((Int × Int) ⊕ Unit) :=
  cnd (decide ((↑(List.length x.2) : Int) < (2:Int))) (some (Sum.inr ())) (obind (w_clus_rises x.2) fun b => cnd (!b) (some (Sum.inr ())) (cnd (decide
    ((0:Int) ≤ (0:Int)) && decide ((0:Int) < (↑(List.length x.2) : Int))) (cnd (decide ((0:Int) ≤ (1:Int)) && decide ((1:Int) < (↑(List.length x.2) :
    Int))) (obind (loopN N (fun (v : Int × Int × Int) => cnd (decide (v.1 < (↑(List.length x.2) : Int))) (cnd (decide ((0:Int) ≤ v.1) && decide (v.1 <
    (↑(List.length x.2) : Int))) (cnd (decide ((0:Int) ≤ wr .i64 (v.1 + (1:Int))) && decide (wr .i64 (v.1 + (1:Int)) ≤ (↑(List.length x.2) : Int)))
    (obind (loopN N (fun (v_1 : Int × Int × Int) => cnd (decide (v_1.1 < (↑(List.length (List.drop (Int.toNat (wr .i64 (v.1 + (1:Int)))) (List.take
    (List.length x.2) x.2))) : Int))) (cnd (decide ((0:Int) ≤ v_1.1) && decide (v_1.1 < (↑(List.length (List.drop (Int.toNat (wr .i64 (v.1 + (1:Int))))
    (List.take (List.length x.2) x.2))) : Int))) (obind (w_clus_apart (x.1, List.getD x.2 (Int.toNat v.1) (0:Int), List.getD (List.drop (Int.toNat (wr
    .i64 (v.1 + (1:Int)))) (List.take (List.length x.2) x.2)) (Int.toNat v_1.1) (0:Int))) fun b => obind (w_clus_apart (x.1, v_1.2)) fun b_1 => cnd
    (decide (b_1 < b)) (some (Sum.inl (wr .i64 (v_1.1 + (1:Int)), List.getD x.2 (Int.toNat v.1) (0:Int), List.getD (List.drop (Int.toNat (wr .i64 (v.1 +
    (1:Int)))) (List.take (List.length x.2) x.2)) (Int.toNat v_1.1) (0:Int)))) (some (Sum.inl (wr .i64 (v_1.1 + (1:Int)), v_1.2)))) none) (some (Sum.inr
    v_1.2))) ((0:Int), v.2)) fun (b : Int × Int) => some (Sum.inl (wr .i64 (v.1 + (1:Int)), b))) none) none) (some (Sum.inr v.2))) ((0:Int), List.getD
    x.2 (0:Nat) (0:Int), List.getD x.2 (1:Nat) (0:Int))) fun (b : Int × Int) => some (Sum.inl b)) none) none))
theorem FV_clus_farthest_eq (w_clus_rises : List Int → Option (Bool)) (w_clus_apart : (List (List Int)) × Int × Int → Option (Int)) (N : Nat) (x : (List (List Int)) × List Int) : F_clus_farthest w_clus_rises w_clus_apart N x = V_clus_farthest w_clus_rises w_clus_apart N x := by kernel_rfl
noncomputable def W_clus_farthest (N : Nat) (x : (List (List Int)) × List Int) : Option ((Int × Int) ⊕ Unit) := V_clus_farthest (W_clus_rises N) (W_clus_apart N) N x
theorem F_clus_farthest_eq (N : Nat) (x : (List (List Int)) × List Int) : F_clus_farthest (W_clus_rises N) (W_clus_apart N) N x = W_clus_farthest N x := (FV_clus_farthest_eq (W_clus_rises N) (W_clus_apart N) N x).trans (by kernel_rfl)
noncomputable def conw_clus_farthest (w : (List (List Int)) × List Int → Option ((Int × Int) ⊕ Unit)) : Con := ⟨30, as_clus_farthest, bs_clus_farthest, (Int × Int) ⊕ Unit, w, out_clus_farthest⟩
noncomputable def con_clus_farthest (N : Nat) : Con := conw_clus_farthest (W_clus_farthest N)
theorem R_clus_farthest_eq (x : (List (List Int)) × List Int) (y : (Int × Int) ⊕ Unit) : retOf2 P0 Try.f30 (kpL []) (lbOf as_clus_farthest bs_clus_farthest x) (patS ⟨61, [], [], []⟩ pout_clus_farthest y) = some (out_clus_farthest y) := by kernel_rfl
theorem con_clus_farthest_ok (N : Nat) : Con.ok P0 (con_clus_farthest N) := ⟨⟨Try.f30, Try.func30, by kernel_rfl, by kernel_rfl⟩, fun (x : (List (List Int)) × List Int) (r : (Int × Int) ⊕ Unit) (hr : W_clus_farthest N x = some r) =>
  spec2_evT (Γ := G_clus_farthest (W_clus_rises N) (W_clus_apart N) N) (Λ := L0) (pout := pout_clus_farthest) (kp := kpL []) mixed (orcOf_ok _ (by simp only [List.mem_cons, List.not_mem_nil, or_false, forall_eq_or_imp, forall_eq]; exact ⟨con_clus_rises_ok N, con_clus_apart_ok N⟩)) Try.func30 (c := bodyOf Try.f30) (by kernel_rfl) (by kernel_rfl) (of_decide_eq_true (by kernel_rfl)) ((F_clus_farthest_eq N x).trans hr) (R_clus_farthest_eq x r)⟩
def as_slices_Clone_int : List AS := [.val (.list (.int .i64))]
def bs_slices_Clone_int : List BS := []
def pout_slices_Clone_int : Pat := ⟨[(2, .acc 700005)], [(700005, .nrow 3 (.int .i64) false true)]⟩
noncomputable def G_slices_Clone_int  (N : Nat) : OrcT := orcOf []
noncomputable def F_slices_Clone_int  (N : Nat) (x : List Int) : Option (List Int) :=
  (evT (G_slices_Clone_int  N) L0 P0 []
    [] N 400 (bodyOf Try.f31) ⟨8, slots 0 [.nl ⟨(.int .i64), x⟩], tabU (lbOf as_slices_Clone_int bs_slices_Clone_int x) [], []⟩).elim (kRet 8 pout_slices_Clone_int (kpL []) (lbOf as_slices_Clone_int bs_slices_Clone_int x))
def out_slices_Clone_int (y : List Int) : V × List OK × List OK := (.acc 2000000 0, [], [.nrow 3 false true ⟨(.int .i64), y⟩])
noncomputable def V_slices_Clone_int  (N : Nat) (x : List Int) : Option (List Int) :=
  cnd (decide (List.length x * (8:Nat) ≤ (140737488355328:Nat))) (some x) none
theorem FV_slices_Clone_int_eq  (N : Nat) (x : List Int) : F_slices_Clone_int  N x = V_slices_Clone_int  N x := by kernel_rfl
noncomputable def W_slices_Clone_int (N : Nat) (x : List Int) : Option (List Int) := V_slices_Clone_int  N x
theorem F_slices_Clone_int_eq (N : Nat) (x : List Int) : F_slices_Clone_int  N x = W_slices_Clone_int N x := (FV_slices_Clone_int_eq  N x).trans (by kernel_rfl)
noncomputable def conw_slices_Clone_int (w : List Int → Option (List Int)) : Con := ⟨31, as_slices_Clone_int, bs_slices_Clone_int, List Int, w, out_slices_Clone_int⟩
noncomputable def con_slices_Clone_int (N : Nat) : Con := conw_slices_Clone_int (W_slices_Clone_int N)
theorem R_slices_Clone_int_eq (x : List Int) (y : List Int) : retOf2 P0 Try.f31 (kpL []) (lbOf as_slices_Clone_int bs_slices_Clone_int x) (patS ⟨8, [], [], []⟩ pout_slices_Clone_int y) = some (out_slices_Clone_int y) := by kernel_rfl
noncomputable def FA_slices_Clone_int : Option (List Int) := (evT (G_slices_Clone_int 1) L0 P0 [] [] 1 400 (bodyOf Try.f31) ⟨8, slots 0 [.snil], tabU [] [], []⟩).elim (kRet 8 pout_slices_Clone_int (kpL []) [])
theorem FA_slices_Clone_int_eq : FA_slices_Clone_int = some [] := by kernel_rfl
theorem WN_slices_Clone_int (N : Nat) (r : List Int) (h : W_slices_Clone_int N [] = some r) : r = [] := by
  have e : W_slices_Clone_int N [] = some [] := by kernel_rfl
  rw [e] at h; injection h with h; exact h.symm
theorem con_slices_Clone_int_ok (N : Nat) : Con.ok P0 (con_slices_Clone_int N) := ⟨⟨Try.f31, Try.func31, by kernel_rfl, by kernel_rfl⟩, fun (x : List Int) (r : List Int) (hr : W_slices_Clone_int N x = some r) =>
  clone_split (e := (.int .i64)) (ty := 3) (l := x) (r := r)
    (spec2_evT (Γ := G_slices_Clone_int 1) (Λ := L0) (lb := []) (pout := pout_slices_Clone_int) (kp := kpL []) mixed (orcOf_ok [] (by simp)) Try.func31 (c := bodyOf Try.f31) (by kernel_rfl) (by kernel_rfl) (of_decide_eq_true (by kernel_rfl)) FA_slices_Clone_int_eq (R_slices_Clone_int_eq x []))
    (spec2_evT (Γ := G_slices_Clone_int N) (Λ := L0) (lb := []) (pout := pout_slices_Clone_int) (kp := kpL []) mixed (orcOf_ok [] (by simp)) Try.func31 (c := bodyOf Try.f31) (by kernel_rfl) (by kernel_rfl) (of_decide_eq_true (by kernel_rfl)) ((F_slices_Clone_int_eq N x).trans hr) (R_slices_Clone_int_eq x r))
    (fun h => by subst h; exact WN_slices_Clone_int N r hr)⟩
def as_slices_DeleteFunc_int__clus_without_1 : List AS := [.acc 0, .fn 54 [1]]
def bs_slices_DeleteFunc_int__clus_without_1 : List BS := [.nrow 3 (.int .i64) true, .box 3 (.int .i64)]
def out_slices_DeleteFunc_int__clus_without_1 (y : Int × List Int) : V × List OK × List OK := (.acc 2000000 0, [.dead, .box 3 (cellsW (.int .i64) y.1)], [.nrow 3 false false ⟨(.int .i64), y.2⟩])
noncomputable def W_slices_DeleteFunc_int__clus_without_1 (N : Nat) (x : (List Int) × Int) : Option (Int × List Int) :=
  cnd (decide ((0:Nat) < List.length x.1) && decide (List.length x.1 ≤ (140737488355328:Nat))) (some (x.2, List.filter (fun (a : Int) => !decide (a = x.2)) x.1)) none
noncomputable def conw_slices_DeleteFunc_int__clus_without_1 (w : (List Int) × Int → Option (Int × List Int)) : Con := ⟨53, as_slices_DeleteFunc_int__clus_without_1, bs_slices_DeleteFunc_int__clus_without_1, Int × List Int, w, out_slices_DeleteFunc_int__clus_without_1⟩
noncomputable def con_slices_DeleteFunc_int__clus_without_1 (N : Nat) : Con := conw_slices_DeleteFunc_int__clus_without_1 (W_slices_DeleteFunc_int__clus_without_1 N)
theorem con_slices_DeleteFunc_int__clus_without_1_ok (N : Nat) : Con.ok P0 (con_slices_DeleteFunc_int__clus_without_1 N) := ⟨⟨Try.f53, Try.func53, by kernel_rfl, by kernel_rfl⟩, fun (x : (List Int) × Int) (r : Int × List Int) (hr : W_slices_DeleteFunc_int__clus_without_1 N x = some r) => by
  obtain ⟨l, k⟩ := x
  exact df_con (ty := 3) (bt := 3) (nl := true) (l := l) (k := k) (r := r) dfF53 hr⟩
def as_clus_without : List AS := [.val (.list (.int .i64)), .val (.int .i64)]
def bs_clus_without : List BS := []
def pout_clus_without : Pat := ⟨[(4, .val (.list (.int .i64)))], []⟩
noncomputable def G_clus_without (w_slices_Clone_int : List Int → Option (List Int)) (w_slices_DeleteFunc_int__clus_without_1 : (List Int) × Int → Option (Int × List Int)) (N : Nat) : OrcT := orcOf [conw_slices_Clone_int w_slices_Clone_int, conw_slices_DeleteFunc_int__clus_without_1 w_slices_DeleteFunc_int__clus_without_1]
noncomputable def F_clus_without (w_slices_Clone_int : List Int → Option (List Int)) (w_slices_DeleteFunc_int__clus_without_1 : (List Int) × Int → Option (Int × List Int)) (N : Nat) (x : (List Int) × Int) : Option (List Int) :=
  (evT (G_clus_without w_slices_Clone_int w_slices_DeleteFunc_int__clus_without_1 N) L0 P0 []
    [] N 400 (bodyOf Try.f42) ⟨9, slots 0 (argsOf as_clus_without bs_clus_without x), tabU (lbOf as_clus_without bs_clus_without x) [], []⟩).elim (kRet 9 pout_clus_without (kpL []) (lbOf as_clus_without bs_clus_without x))
def out_clus_without (y : List Int) : V × List OK × List OK := (valW (.list (.int .i64)) y, [], [])
noncomputable def V_clus_without (w_slices_Clone_int : List Int → Option (List Int)) (w_slices_DeleteFunc_int__clus_without_1 : (List Int) × Int → Option (Int × List Int)) (N : Nat) (x : (List Int) × Int) : Option (List Int) :=
  obind (w_slices_Clone_int x.1) fun b => obind (w_slices_DeleteFunc_int__clus_without_1 (b, x.2)) fun b => some b.2
theorem FV_clus_without_eq (w_slices_Clone_int : List Int → Option (List Int)) (w_slices_DeleteFunc_int__clus_without_1 : (List Int) × Int → Option (Int × List Int)) (N : Nat) (x : (List Int) × Int) : F_clus_without w_slices_Clone_int w_slices_DeleteFunc_int__clus_without_1 N x = V_clus_without w_slices_Clone_int w_slices_DeleteFunc_int__clus_without_1 N x := by kernel_rfl
noncomputable def W_clus_without (N : Nat) (x : (List Int) × Int) : Option (List Int) := V_clus_without (W_slices_Clone_int N) (W_slices_DeleteFunc_int__clus_without_1 N) N x
theorem F_clus_without_eq (N : Nat) (x : (List Int) × Int) : F_clus_without (W_slices_Clone_int N) (W_slices_DeleteFunc_int__clus_without_1 N) N x = W_clus_without N x := (FV_clus_without_eq (W_slices_Clone_int N) (W_slices_DeleteFunc_int__clus_without_1 N) N x).trans (by kernel_rfl)
noncomputable def conw_clus_without (w : (List Int) × Int → Option (List Int)) : Con := ⟨42, as_clus_without, bs_clus_without, List Int, w, out_clus_without⟩
noncomputable def con_clus_without (N : Nat) : Con := conw_clus_without (W_clus_without N)
theorem R_clus_without_eq (x : (List Int) × Int) (y : List Int) : retOf2 P0 Try.f42 (kpL []) (lbOf as_clus_without bs_clus_without x) (patS ⟨9, [], [], []⟩ pout_clus_without y) = some (out_clus_without y) := by kernel_rfl
theorem con_clus_without_ok (N : Nat) : Con.ok P0 (con_clus_without N) := ⟨⟨Try.f42, Try.func42, by kernel_rfl, by kernel_rfl⟩, fun (x : (List Int) × Int) (r : List Int) (hr : W_clus_without N x = some r) =>
  spec2_evT (Γ := G_clus_without (W_slices_Clone_int N) (W_slices_DeleteFunc_int__clus_without_1 N) N) (Λ := L0) (pout := pout_clus_without) (kp := kpL []) mixed (orcOf_ok _ (by simp only [List.mem_cons, List.not_mem_nil, or_false, forall_eq_or_imp, forall_eq]; exact ⟨con_slices_Clone_int_ok N, con_slices_DeleteFunc_int__clus_without_1_ok N⟩)) Try.func42 (c := bodyOf Try.f42) (by kernel_rfl) (by kernel_rfl) (of_decide_eq_true (by kernel_rfl)) ((F_clus_without_eq N x).trans hr) (R_clus_without_eq x r)⟩
def as_mid_better : List AS := [.val (.alt 72 (.agg .unit) (.alt1 80 (.agg (.pair (.int .i64) (.int .i64))))), .val (.int .i64), .val (.int .i64)]
def bs_mid_better : List BS := []
def pout_mid_better : Pat := ⟨[(6, .val (.alt1 80 (.agg (.pair (.int .i64) (.int .i64)))))], []⟩
noncomputable def G_mid_better  (N : Nat) : OrcT := orcOf []
noncomputable def F_mid_better  (N : Nat) (x : (Unit ⊕ (Int × Int)) × Int × Int) : Option (Int × Int) :=
  (evT (G_mid_better  N) L0 P0 []
    [] N 400 (bodyOf Try.f48) ⟨39, slots 0 (argsOf as_mid_better bs_mid_better x), tabU (lbOf as_mid_better bs_mid_better x) [], []⟩).elim (kRet 39 pout_mid_better (kpL []) (lbOf as_mid_better bs_mid_better x))
def out_mid_better (y : Int × Int) : V × List OK × List OK := (valW (.alt1 80 (.agg (.pair (.int .i64) (.int .i64)))) y, [], [])
noncomputable def V_mid_better  (N : Nat) (x : (Unit ⊕ (Int × Int)) × Int × Int) : Option (Int × Int) :=
  selim (fun (b : PUnit) => some x.2) (fun (c : Int × Int) => cnd (decide (c.2 < x.2.2)) (some c) (cnd (decide (c.2 = x.2.2)) (cnd (decide (c.1 < x.2.1)) (some c) (some x.2)) (some x.2))) x.1
theorem FV_mid_better_eq  (N : Nat) (x : (Unit ⊕ (Int × Int)) × Int × Int) : F_mid_better  N x = V_mid_better  N x := by kernel_rfl
noncomputable def W_mid_better (N : Nat) (x : (Unit ⊕ (Int × Int)) × Int × Int) : Option (Int × Int) := V_mid_better  N x
theorem F_mid_better_eq (N : Nat) (x : (Unit ⊕ (Int × Int)) × Int × Int) : F_mid_better  N x = W_mid_better N x := (FV_mid_better_eq  N x).trans (by kernel_rfl)
noncomputable def conw_mid_better (w : (Unit ⊕ (Int × Int)) × Int × Int → Option (Int × Int)) : Con := ⟨48, as_mid_better, bs_mid_better, Int × Int, w, out_mid_better⟩
noncomputable def con_mid_better (N : Nat) : Con := conw_mid_better (W_mid_better N)
theorem R_mid_better_eq (x : (Unit ⊕ (Int × Int)) × Int × Int) (y : Int × Int) : retOf2 P0 Try.f48 (kpL []) (lbOf as_mid_better bs_mid_better x) (patS ⟨39, [], [], []⟩ pout_mid_better y) = some (out_mid_better y) := by kernel_rfl
theorem con_mid_better_ok (N : Nat) : Con.ok P0 (con_mid_better N) := ⟨⟨Try.f48, Try.func48, by kernel_rfl, by kernel_rfl⟩, fun (x : (Unit ⊕ (Int × Int)) × Int × Int) (r : Int × Int) (hr : W_mid_better N x = some r) =>
  spec2_evT (Γ := G_mid_better N) (Λ := L0) (pout := pout_mid_better) (kp := kpL []) mixed (orcOf_ok [] (by simp)) Try.func48 (c := bodyOf Try.f48) (by kernel_rfl) (by kernel_rfl) (of_decide_eq_true (by kernel_rfl)) ((F_mid_better_eq N x).trans hr) (R_mid_better_eq x r)⟩
def as_mid_who : List AS := [.val (.alt 72 (.agg .unit) (.alt1 80 (.agg (.pair (.int .i64) (.int .i64)))))]
def bs_mid_who : List BS := []
def pout_mid_who : Pat := ⟨[(2, .val (.int .i64))], []⟩
noncomputable def G_mid_who  (N : Nat) : OrcT := orcOf []
noncomputable def F_mid_who  (N : Nat) (x : Unit ⊕ (Int × Int)) : Option (Int) :=
  (evT (G_mid_who  N) L0 P0 []
    [] N 400 (bodyOf Try.f49) ⟨14, slots 0 (argsOf as_mid_who bs_mid_who x), tabU (lbOf as_mid_who bs_mid_who x) [], []⟩).elim (kRet 14 pout_mid_who (kpL []) (lbOf as_mid_who bs_mid_who x))
def out_mid_who (y : Int) : V × List OK × List OK := (valW (.int .i64) y, [], [])
noncomputable def V_mid_who  (N : Nat) (x : Unit ⊕ (Int × Int)) : Option (Int) :=
  selim (fun (b : PUnit) => some (0:Int)) (fun (c : Int × Int) => some c.1) x
theorem FV_mid_who_eq  (N : Nat) (x : Unit ⊕ (Int × Int)) : F_mid_who  N x = V_mid_who  N x := by kernel_rfl
noncomputable def W_mid_who (N : Nat) (x : Unit ⊕ (Int × Int)) : Option (Int) := V_mid_who  N x
theorem F_mid_who_eq (N : Nat) (x : Unit ⊕ (Int × Int)) : F_mid_who  N x = W_mid_who N x := (FV_mid_who_eq  N x).trans (by kernel_rfl)
noncomputable def conw_mid_who (w : Unit ⊕ (Int × Int) → Option (Int)) : Con := ⟨49, as_mid_who, bs_mid_who, Int, w, out_mid_who⟩
noncomputable def con_mid_who (N : Nat) : Con := conw_mid_who (W_mid_who N)
theorem R_mid_who_eq (x : Unit ⊕ (Int × Int)) (y : Int) : retOf2 P0 Try.f49 (kpL []) (lbOf as_mid_who bs_mid_who x) (patS ⟨14, [], [], []⟩ pout_mid_who y) = some (out_mid_who y) := by kernel_rfl
theorem con_mid_who_ok (N : Nat) : Con.ok P0 (con_mid_who N) := ⟨⟨Try.f49, Try.func49, by kernel_rfl, by kernel_rfl⟩, fun (x : Unit ⊕ (Int × Int)) (r : Int) (hr : W_mid_who N x = some r) =>
  spec2_evT (Γ := G_mid_who N) (Λ := L0) (pout := pout_mid_who) (kp := kpL []) mixed (orcOf_ok [] (by simp)) Try.func49 (c := bodyOf Try.f49) (by kernel_rfl) (by kernel_rfl) (of_decide_eq_true (by kernel_rfl)) ((F_mid_who_eq N x).trans hr) (R_mid_who_eq x r)⟩
def as_mid_Near : List AS := [.val (.list (.list (.int .i64))), .val (.int .i64), .val (.list (.int .i64))]
def bs_mid_Near : List BS := []
def pout_mid_Near : Pat := ⟨[(6, .val (.int .i64))], []⟩
noncomputable def G_mid_Near (w_mid_between : (List (List Int)) × Int × Int → Option (Int)) (w_mid_better : (Unit ⊕ (Int × Int)) × Int × Int → Option (Int × Int)) (w_mid_who : Unit ⊕ (Int × Int) → Option (Int)) (N : Nat) : OrcT := orcOf [conw_mid_between w_mid_between, conw_mid_better w_mid_better, conw_mid_who w_mid_who]
noncomputable def F_mid_Near (w_mid_between : (List (List Int)) × Int × Int → Option (Int)) (w_mid_better : (Unit ⊕ (Int × Int)) × Int × Int → Option (Int × Int)) (w_mid_who : Unit ⊕ (Int × Int) → Option (Int)) (N : Nat) (x : (List (List Int)) × Int × List Int) : Option (Int) :=
  (evT (G_mid_Near w_mid_between w_mid_better w_mid_who N) L0 P0 [(3, .loop [12] ⟨[(7, .val (.alt 72 (.agg .unit) (.alt1 80 (.agg (.pair (.int .i64) (.int .i64)))))), (14, .val (.int .i64))], []⟩ [(.exit 0, ⟨[(7, .val (.alt 72 (.agg .unit) (.alt1 80 (.agg (.pair (.int .i64) (.int .i64))))))], []⟩)])]
    [] N 400 (bodyOf Try.f47) ⟨31, slots 0 (argsOf as_mid_Near bs_mid_Near x), tabU (lbOf as_mid_Near bs_mid_Near x) [], []⟩).elim (kRet 31 pout_mid_Near (kpL []) (lbOf as_mid_Near bs_mid_Near x))
def out_mid_Near (y : Int) : V × List OK × List OK := (valW (.int .i64) y, [], [])
noncomputable def V_mid_Near (w_mid_between : (List (List Int)) × Int × Int → Option (Int)) (w_mid_better : (Unit ⊕ (Int × Int)) × Int × Int → Option (Int × Int)) (w_mid_who : Unit ⊕ (Int × Int) → Option (Int)) (N : Nat) (x : (List (List Int)) × Int × List Int) : Option (Int) :=
  obind (loopN N (fun (v : (PUnit ⊕ Int × Int) × Int) => cnd (decide (v.2 < (↑(List.length x.2.2) : Int))) (cnd (decide ((0:Int) ≤ v.2) && decide (v.2 <
    (↑(List.length x.2.2) : Int))) (cnd (decide (List.getD x.2.2 (Int.toNat v.2) (0:Int) ≠ x.2.1)) (obind (w_mid_between (x.1, x.2.1, List.getD x.2.2
    (Int.toNat v.2) (0:Int))) fun b => obind (w_mid_better (v.1, List.getD x.2.2 (Int.toNat v.2) (0:Int), b)) fun b => some (Sum.inl (Sum.inr b, wr
    .i64 (v.2 + (1:Int))))) (some (Sum.inl (v.1, wr .i64 (v.2 + (1:Int)))))) none) (some (Sum.inr v.1))) (Sum.inl (), (0:Int))) fun (b : PUnit ⊕ Int ×
    Int) => obind (w_mid_who b) fun b => some b
theorem FV_mid_Near_eq (w_mid_between : (List (List Int)) × Int × Int → Option (Int)) (w_mid_better : (Unit ⊕ (Int × Int)) × Int × Int → Option (Int × Int)) (w_mid_who : Unit ⊕ (Int × Int) → Option (Int)) (N : Nat) (x : (List (List Int)) × Int × List Int) : F_mid_Near w_mid_between w_mid_better w_mid_who N x = V_mid_Near w_mid_between w_mid_better w_mid_who N x := by kernel_rfl
noncomputable def W_mid_Near (N : Nat) (x : (List (List Int)) × Int × List Int) : Option (Int) := V_mid_Near (W_mid_between N) (W_mid_better N) (W_mid_who N) N x
theorem F_mid_Near_eq (N : Nat) (x : (List (List Int)) × Int × List Int) : F_mid_Near (W_mid_between N) (W_mid_better N) (W_mid_who N) N x = W_mid_Near N x := (FV_mid_Near_eq (W_mid_between N) (W_mid_better N) (W_mid_who N) N x).trans (by kernel_rfl)
noncomputable def conw_mid_Near (w : (List (List Int)) × Int × List Int → Option (Int)) : Con := ⟨47, as_mid_Near, bs_mid_Near, Int, w, out_mid_Near⟩
noncomputable def con_mid_Near (N : Nat) : Con := conw_mid_Near (W_mid_Near N)
theorem R_mid_Near_eq (x : (List (List Int)) × Int × List Int) (y : Int) : retOf2 P0 Try.f47 (kpL []) (lbOf as_mid_Near bs_mid_Near x) (patS ⟨31, [], [], []⟩ pout_mid_Near y) = some (out_mid_Near y) := by kernel_rfl
theorem con_mid_Near_ok (N : Nat) : Con.ok P0 (con_mid_Near N) := ⟨⟨Try.f47, Try.func47, by kernel_rfl, by kernel_rfl⟩, fun (x : (List (List Int)) × Int × List Int) (r : Int) (hr : W_mid_Near N x = some r) =>
  spec2_evT (Γ := G_mid_Near (W_mid_between N) (W_mid_better N) (W_mid_who N) N) (Λ := L0) (pout := pout_mid_Near) (kp := kpL []) mixed (orcOf_ok _ (by simp only [List.mem_cons, List.not_mem_nil, or_false, forall_eq_or_imp, forall_eq]; exact ⟨con_mid_between_ok N, con_mid_better_ok N, con_mid_who_ok N⟩)) Try.func47 (c := bodyOf Try.f47) (by kernel_rfl) (by kernel_rfl) (of_decide_eq_true (by kernel_rfl)) ((F_mid_Near_eq N x).trans hr) (R_mid_Near_eq x r)⟩
def as_slices_Sort_int : List AS := [.acc 0]
def bs_slices_Sort_int : List BS := [.nrow 3 (.int .i64) true]
def out_slices_Sort_int (y : List Int) : V × List OK × List OK := (.tup [], [.nrow 3 false true ⟨(.int .i64), y⟩], [])
noncomputable def W_slices_Sort_int (N : Nat) (x : List Int) : Option (List Int) :=
  cnd (decide ((0:Nat) < List.length x) && decide (List.length x ≤ (140737488355328:Nat))) (some (List.mergeSort x fun (a : Int) (b : Int) => decide (a ≤ b))) none
noncomputable def conw_slices_Sort_int (w : List Int → Option (List Int)) : Con := ⟨52, as_slices_Sort_int, bs_slices_Sort_int, List Int, w, out_slices_Sort_int⟩
noncomputable def con_slices_Sort_int (N : Nat) : Con := conw_slices_Sort_int (W_slices_Sort_int N)
theorem con_slices_Sort_int_ok (N : Nat) : Con.ok P0 (con_slices_Sort_int N) := ⟨⟨Try.f52, Try.func52, by kernel_rfl, by kernel_rfl⟩, fun (x : List Int) (r : List Int) (hr : W_slices_Sort_int N x = some r) => so_con (ty := 3) (nl := true) (nl' := true) (l := x) (r := r) soF52 hr⟩
def as_clus_with : List AS := [.val (.list (.int .i64)), .val (.list (.int .i64))]
def bs_clus_with : List BS := []
def pout_clus_with : Pat := ⟨[(4, .val (.list (.int .i64)))], []⟩
noncomputable def G_clus_with (w_slices_Clone_int : List Int → Option (List Int)) (w_slices_Sort_int : List Int → Option (List Int)) (N : Nat) : OrcT := orcOf [conw_slices_Clone_int w_slices_Clone_int, conw_slices_Sort_int w_slices_Sort_int]
noncomputable def F_clus_with (w_slices_Clone_int : List Int → Option (List Int)) (w_slices_Sort_int : List Int → Option (List Int)) (N : Nat) (x : (List Int) × List Int) : Option (List Int) :=
  (evT (G_clus_with w_slices_Clone_int w_slices_Sort_int N) L0 P0 []
    [] N 400 (bodyOf Try.f41) ⟨13, slots 0 (argsOf as_clus_with bs_clus_with x), tabU (lbOf as_clus_with bs_clus_with x) [], []⟩).elim (kRet 13 pout_clus_with (kpL []) (lbOf as_clus_with bs_clus_with x))
def out_clus_with (y : List Int) : V × List OK × List OK := (valW (.list (.int .i64)) y, [], [])
noncomputable def V_clus_with (w_slices_Clone_int : List Int → Option (List Int)) (w_slices_Sort_int : List Int → Option (List Int)) (N : Nat) (x : (List Int) × List Int) : Option (List Int) :=
  obind (w_slices_Clone_int x.1) fun b => cnd (decide ((List.length b + List.length x.2) * (8:Nat) ≤ (140737488355328:Nat))) (obind (w_slices_Sort_int (b ++ x.2)) fun b_1 => cnd (decide (List.length b_1 = List.length (b ++ x.2))) (some b_1) none) none
theorem FV_clus_with_eq (w_slices_Clone_int : List Int → Option (List Int)) (w_slices_Sort_int : List Int → Option (List Int)) (N : Nat) (x : (List Int) × List Int) : F_clus_with w_slices_Clone_int w_slices_Sort_int N x = V_clus_with w_slices_Clone_int w_slices_Sort_int N x := by kernel_rfl
noncomputable def W_clus_with (N : Nat) (x : (List Int) × List Int) : Option (List Int) := V_clus_with (W_slices_Clone_int N) (W_slices_Sort_int N) N x
theorem F_clus_with_eq (N : Nat) (x : (List Int) × List Int) : F_clus_with (W_slices_Clone_int N) (W_slices_Sort_int N) N x = W_clus_with N x := (FV_clus_with_eq (W_slices_Clone_int N) (W_slices_Sort_int N) N x).trans (by kernel_rfl)
noncomputable def conw_clus_with (w : (List Int) × List Int → Option (List Int)) : Con := ⟨41, as_clus_with, bs_clus_with, List Int, w, out_clus_with⟩
noncomputable def con_clus_with (N : Nat) : Con := conw_clus_with (W_clus_with N)
theorem R_clus_with_eq (x : (List Int) × List Int) (y : List Int) : retOf2 P0 Try.f41 (kpL []) (lbOf as_clus_with bs_clus_with x) (patS ⟨13, [], [], []⟩ pout_clus_with y) = some (out_clus_with y) := by kernel_rfl
theorem con_clus_with_ok (N : Nat) : Con.ok P0 (con_clus_with N) := ⟨⟨Try.f41, Try.func41, by kernel_rfl, by kernel_rfl⟩, fun (x : (List Int) × List Int) (r : List Int) (hr : W_clus_with N x = some r) =>
  spec2_evT (Γ := G_clus_with (W_slices_Clone_int N) (W_slices_Sort_int N) N) (Λ := L0) (pout := pout_clus_with) (kp := kpL []) mixed (orcOf_ok _ (by simp only [List.mem_cons, List.not_mem_nil, or_false, forall_eq_or_imp, forall_eq]; exact ⟨con_slices_Clone_int_ok N, con_slices_Sort_int_ok N⟩)) Try.func41 (c := bodyOf Try.f41) (by kernel_rfl) (by kernel_rfl) (of_decide_eq_true (by kernel_rfl)) ((F_clus_with_eq N x).trans hr) (R_clus_with_eq x r)⟩
def as_clus_fill : List AS := [.val (.list (.list (.int .i64))), .val (.agg (.pair (.int .i64) (.int .i64))), .val (.list (.int .i64)), .val (.list (.int .i64)), .val (.int .i64)]
def bs_clus_fill : List BS := []
def pout_clus_fill : Pat := ⟨[(10, .val (.list (.int .i64))), (11, .val (.list (.int .i64)))], []⟩
noncomputable def G_clus_fill (w_clus_without : (List Int) × Int → Option (List Int)) (w_mid_Near : (List (List Int)) × Int × List Int → Option (Int)) (w_clus_with : (List Int) × List Int → Option (List Int)) (N : Nat) : OrcT := orcOf [conw_clus_without w_clus_without, conw_mid_Near w_mid_Near, conw_clus_with w_clus_with]
noncomputable def F_clus_fill (w_clus_without : (List Int) × Int → Option (List Int)) (w_mid_Near : (List (List Int)) × Int × List Int → Option (Int)) (w_clus_with : (List Int) × List Int → Option (List Int)) (N : Nat) (x : (List (List Int)) × (Int × Int) × (List Int) × (List Int) × Int) : Option ((List Int) × List Int) :=
  (evT (G_clus_fill w_clus_without w_mid_Near w_clus_with N) L0 P0 [(1, .loop [] ⟨[(2, .val (.list (.int .i64))), (3, .val (.list (.int .i64))), (6, .ptr 600006 0)], [(600006, .box 56 (.val (.pair (.int .i64) (.int .i64))))]⟩ [(.exit 0, ⟨[(2, .val (.list (.int .i64))), (3, .val (.list (.int .i64)))], []⟩)])]
    [] N 400 (bodyOf Try.f33) ⟨40, slots 0 (argsOf as_clus_fill bs_clus_fill x), tabU (lbOf as_clus_fill bs_clus_fill x) [], []⟩).elim (kRet 40 pout_clus_fill (kpL []) (lbOf as_clus_fill bs_clus_fill x))
def out_clus_fill (y : (List Int) × List Int) : V × List OK × List OK := (.tup [valW (.list (.int .i64)) y.1, valW (.list (.int .i64)) y.2], [], [])
noncomputable def V_clus_fill (w_clus_without : (List Int) × Int → Option (List Int)) (w_mid_Near : (List (List Int)) × Int × List Int → Option (Int)) (w_clus_with : (List Int) × List Int → Option (List Int)) (N : Nat) (x : (List (List Int)) × (Int × Int) × (List Int) × (List Int) × Int) : Option ((List Int) × List Int) :=
  obind (loopN N (fun (v : List Int × List Int × Int × Int) => cnd (decide ((↑(List.length v.1) : Int) < x.2.2.2.2)) (cnd (decide (x.2.2.2.2 <
    (↑(List.length v.2.1) : Int))) (obind (w_clus_without (v.2.1, v.2.2.2)) fun b => obind (w_mid_Near (x.1, v.2.2.1, b)) fun b => obind
    (w_clus_with (v.1, [b])) fun b_1 => obind (w_clus_without (v.2.1, b)) fun b => some (Sum.inl (b_1, b, v.2.2))) (some (Sum.inr (v.1, v.2.1))))
    (some (Sum.inr (v.1, v.2.1)))) (x.2.2.1, x.2.2.2.1, x.2.1)) fun (b : List Int × List Int) => some b
theorem FV_clus_fill_eq (w_clus_without : (List Int) × Int → Option (List Int)) (w_mid_Near : (List (List Int)) × Int × List Int → Option (Int)) (w_clus_with : (List Int) × List Int → Option (List Int)) (N : Nat) (x : (List (List Int)) × (Int × Int) × (List Int) × (List Int) × Int) : F_clus_fill w_clus_without w_mid_Near w_clus_with N x = V_clus_fill w_clus_without w_mid_Near w_clus_with N x := by kernel_rfl
noncomputable def W_clus_fill (N : Nat) (x : (List (List Int)) × (Int × Int) × (List Int) × (List Int) × Int) : Option ((List Int) × List Int) := V_clus_fill (W_clus_without N) (W_mid_Near N) (W_clus_with N) N x
theorem F_clus_fill_eq (N : Nat) (x : (List (List Int)) × (Int × Int) × (List Int) × (List Int) × Int) : F_clus_fill (W_clus_without N) (W_mid_Near N) (W_clus_with N) N x = W_clus_fill N x := (FV_clus_fill_eq (W_clus_without N) (W_mid_Near N) (W_clus_with N) N x).trans (by kernel_rfl)
noncomputable def conw_clus_fill (w : (List (List Int)) × (Int × Int) × (List Int) × (List Int) × Int → Option ((List Int) × List Int)) : Con := ⟨33, as_clus_fill, bs_clus_fill, (List Int) × List Int, w, out_clus_fill⟩
noncomputable def con_clus_fill (N : Nat) : Con := conw_clus_fill (W_clus_fill N)
theorem R_clus_fill_eq (x : (List (List Int)) × (Int × Int) × (List Int) × (List Int) × Int) (y : (List Int) × List Int) : retOf2 P0 Try.f33 (kpL []) (lbOf as_clus_fill bs_clus_fill x) (patS ⟨40, [], [], []⟩ pout_clus_fill y) = some (out_clus_fill y) := by kernel_rfl
theorem con_clus_fill_ok (N : Nat) : Con.ok P0 (con_clus_fill N) := ⟨⟨Try.f33, Try.func33, by kernel_rfl, by kernel_rfl⟩, fun (x : (List (List Int)) × (Int × Int) × (List Int) × (List Int) × Int) (r : (List Int) × List Int) (hr : W_clus_fill N x = some r) =>
  spec2_evT (Γ := G_clus_fill (W_clus_without N) (W_mid_Near N) (W_clus_with N) N) (Λ := L0) (pout := pout_clus_fill) (kp := kpL []) mixed (orcOf_ok _ (by simp only [List.mem_cons, List.not_mem_nil, or_false, forall_eq_or_imp, forall_eq]; exact ⟨con_clus_without_ok N, con_mid_Near_ok N, con_clus_with_ok N⟩)) Try.func33 (c := bodyOf Try.f33) (by kernel_rfl) (by kernel_rfl) (of_decide_eq_true (by kernel_rfl)) ((F_clus_fill_eq N x).trans hr) (R_clus_fill_eq x r)⟩
def as_clus_Split : List AS := [.val (.list (.list (.int .i64))), .val (.list (.int .i64)), .val (.int .i64)]
def bs_clus_Split : List BS := []
def pout_clus_Split : Pat := ⟨[(6, .val (.list (.int .i64))), (7, .val (.list (.int .i64)))], []⟩
noncomputable def G_clus_Split (w_clus_farthest : (List (List Int)) × List Int → Option ((Int × Int) ⊕ Unit)) (w_slices_Clone_int : List Int → Option (List Int)) (w_clus_apart : (List (List Int)) × Int × Int → Option (Int)) (w_clus_fill : (List (List Int)) × (Int × Int) × (List Int) × (List Int) × Int → Option ((List Int) × List Int)) (N : Nat) : OrcT := orcOf [conw_clus_farthest w_clus_farthest, conw_slices_Clone_int w_slices_Clone_int, conw_clus_apart w_clus_apart, conw_clus_fill w_clus_fill]
noncomputable def F_clus_Split (w_clus_farthest : (List (List Int)) × List Int → Option ((Int × Int) ⊕ Unit)) (w_slices_Clone_int : List Int → Option (List Int)) (w_clus_apart : (List (List Int)) × Int × Int → Option (Int)) (w_clus_fill : (List (List Int)) × (Int × Int) × (List Int) × (List Int) × Int → Option ((List Int) × List Int)) (N : Nat) (x : (List (List Int)) × (List Int) × Int) : Option ((List Int) × List Int) :=
  (evT (G_clus_Split w_clus_farthest w_slices_Clone_int w_clus_apart w_clus_fill N) L0 P0 [(5, .loop [23] ⟨[(6, .acc 700082), (7, .acc 700081), (8, .ptr 600008 0), (25, .val (.int .i64))], [(700082, .nrow 3 (.int .i64) true true), (700081, .nrow 3 (.int .i64) true true), (600008, .box 56 (.val (.pair (.int .i64) (.int .i64))))]⟩ [(.exit 0, ⟨[(6, .val (.list (.int .i64))), (7, .val (.list (.int .i64))), (8, .ptr 600008 0)], [(600008, .box 56 (.val (.pair (.int .i64) (.int .i64))))]⟩)])]
    [] N 400 (bodyOf Try.f11) ⟨85, slots 0 (argsOf as_clus_Split bs_clus_Split x), tabU (lbOf as_clus_Split bs_clus_Split x) [], []⟩).elim (kRet 85 pout_clus_Split (kpL []) (lbOf as_clus_Split bs_clus_Split x))
def out_clus_Split (y : (List Int) × List Int) : V × List OK × List OK := (.tup [valW (.list (.int .i64)) y.1, valW (.list (.int .i64)) y.2], [], [])
noncomputable def V_clus_Split (w_clus_farthest : (List (List Int)) × List Int → Option ((Int × Int) ⊕ Unit)) (w_slices_Clone_int : List Int → Option (List Int)) (w_clus_apart : (List (List Int)) × Int × Int → Option (Int)) (w_clus_fill : (List (List Int)) × (Int × Int) × (List Int) × (List Int) × Int → Option ((List Int) × List Int)) (N : Nat) (x : (List (List Int)) × (List Int) × Int) : Option ((List Int) × List Int) :=
  obind (w_clus_farthest (x.1, x.2.1)) fun b => selim (fun (b : Int × Int) => obind (loopN N (fun (v : Int × List Int × List Int × Int × Int) => cnd
    (decide (v.1 < (↑(List.length x.2.1) : Int))) (cnd (decide ((0:Int) ≤ v.1) && decide (v.1 < (↑(List.length x.2.1) : Int))) (cnd (decide (List.getD
    x.2.1 (Int.toNat v.1) (0:Int) = v.2.2.2.1)) (cnd (decide ((List.length v.2.1 + List.length [List.getD x.2.1 (Int.toNat v.1) (0:Int)]) * (8:Nat) ≤
    (140737488355328:Nat))) (some (Sum.inl (wr .i64 (v.1 + (1:Int)), v.2.1 ++ [List.getD x.2.1 (Int.toNat v.1) (0:Int)], v.2.2))) none) (cnd (decide
    (List.getD x.2.1 (Int.toNat v.1) (0:Int) ≠ v.2.2.2.2)) (obind (w_clus_apart (x.1, List.getD x.2.1 (Int.toNat v.1) (0:Int), v.2.2.2.1)) fun b =>
    obind (w_clus_apart (x.1, List.getD x.2.1 (Int.toNat v.1) (0:Int), v.2.2.2.2)) fun b_1 => cnd (decide (b ≤ b_1)) (cnd (decide ((List.length v.2.1
    + List.length [List.getD x.2.1 (Int.toNat v.1) (0:Int)]) * (8:Nat) ≤ (140737488355328:Nat))) (some (Sum.inl (wr .i64 (v.1 + (1:Int)), v.2.1 ++
    [List.getD x.2.1 (Int.toNat v.1) (0:Int)], v.2.2))) none) (cnd (decide ((List.length v.2.2.1 + List.length [List.getD x.2.1 (Int.toNat v.1)
    (0:Int)]) * (8:Nat) ≤ (140737488355328:Nat))) (some (Sum.inl (wr .i64 (v.1 + (1:Int)), v.2.1, v.2.2.1 ++ [List.getD x.2.1 (Int.toNat v.1) (0:Int)],
    v.2.2.2))) none)) (cnd (decide ((List.length v.2.2.1 + List.length [List.getD x.2.1 (Int.toNat v.1) (0:Int)]) * (8:Nat) ≤ (140737488355328:Nat)))
    (some (Sum.inl (wr .i64 (v.1 + (1:Int)), v.2.1, v.2.2.1 ++ [List.getD x.2.1 (Int.toNat v.1) (0:Int)], v.2.2.2))) none))) none) (some (Sum.inr v.2)))
    ((0:Int), [], [], b)) fun (b : List Int × List Int × Int × Int) => obind (w_clus_fill (x.1, b.2.2, b.1, b.2.1, x.2.2)) fun b_1 => obind
    (w_clus_fill (x.1, (b.2.2.2, b.2.2.1), b_1.2, b_1.1, x.2.2)) fun b => some (b.2, b.1)) (fun (c : PUnit) => obind (w_slices_Clone_int x.2.1) fun
    b => some (b, [])) b
theorem FV_clus_Split_eq (w_clus_farthest : (List (List Int)) × List Int → Option ((Int × Int) ⊕ Unit)) (w_slices_Clone_int : List Int → Option (List Int)) (w_clus_apart : (List (List Int)) × Int × Int → Option (Int)) (w_clus_fill : (List (List Int)) × (Int × Int) × (List Int) × (List Int) × Int → Option ((List Int) × List Int)) (N : Nat) (x : (List (List Int)) × (List Int) × Int) : F_clus_Split w_clus_farthest w_slices_Clone_int w_clus_apart w_clus_fill N x = V_clus_Split w_clus_farthest w_slices_Clone_int w_clus_apart w_clus_fill N x := by kernel_rfl
noncomputable def W_clus_Split (N : Nat) (x : (List (List Int)) × (List Int) × Int) : Option ((List Int) × List Int) := V_clus_Split (W_clus_farthest N) (W_slices_Clone_int N) (W_clus_apart N) (W_clus_fill N) N x
theorem F_clus_Split_eq (N : Nat) (x : (List (List Int)) × (List Int) × Int) : F_clus_Split (W_clus_farthest N) (W_slices_Clone_int N) (W_clus_apart N) (W_clus_fill N) N x = W_clus_Split N x := (FV_clus_Split_eq (W_clus_farthest N) (W_slices_Clone_int N) (W_clus_apart N) (W_clus_fill N) N x).trans (by kernel_rfl)
noncomputable def conw_clus_Split (w : (List (List Int)) × (List Int) × Int → Option ((List Int) × List Int)) : Con := ⟨11, as_clus_Split, bs_clus_Split, (List Int) × List Int, w, out_clus_Split⟩
noncomputable def con_clus_Split (N : Nat) : Con := conw_clus_Split (W_clus_Split N)
theorem R_clus_Split_eq (x : (List (List Int)) × (List Int) × Int) (y : (List Int) × List Int) : retOf2 P0 Try.f11 (kpL []) (lbOf as_clus_Split bs_clus_Split x) (patS ⟨85, [], [], []⟩ pout_clus_Split y) = some (out_clus_Split y) := by kernel_rfl
theorem con_clus_Split_ok (N : Nat) : Con.ok P0 (con_clus_Split N) := ⟨⟨Try.f11, Try.func11, by kernel_rfl, by kernel_rfl⟩, fun (x : (List (List Int)) × (List Int) × Int) (r : (List Int) × List Int) (hr : W_clus_Split N x = some r) =>
  spec2_evT (Γ := G_clus_Split (W_clus_farthest N) (W_slices_Clone_int N) (W_clus_apart N) (W_clus_fill N) N) (Λ := L0) (pout := pout_clus_Split) (kp := kpL []) mixed (orcOf_ok _ (by simp only [List.mem_cons, List.not_mem_nil, or_false, forall_eq_or_imp, forall_eq]; exact ⟨con_clus_farthest_ok N, con_slices_Clone_int_ok N, con_clus_apart_ok N, con_clus_fill_ok N⟩)) Try.func11 (c := bodyOf Try.f11) (by kernel_rfl) (by kernel_rfl) (of_decide_eq_true (by kernel_rfl)) ((F_clus_Split_eq N x).trans hr) (R_clus_Split_eq x r)⟩
def as_mid_Mid : List AS := [.val (.list (.list (.int .i64))), .val (.list (.int .i64))]
def bs_mid_Mid : List BS := []
def pout_mid_Mid : Pat := ⟨[(4, .val (.int .i64))], []⟩
noncomputable def G_mid_Mid (w_mid_Far : (List (List Int)) × Int × List Int → Option (Int)) (w_mid_better : (Unit ⊕ (Int × Int)) × Int × Int → Option (Int × Int)) (w_mid_who : Unit ⊕ (Int × Int) → Option (Int)) (N : Nat) : OrcT := orcOf [conw_mid_Far w_mid_Far, conw_mid_better w_mid_better, conw_mid_who w_mid_who]
noncomputable def F_mid_Mid (w_mid_Far : (List (List Int)) × Int × List Int → Option (Int)) (w_mid_better : (Unit ⊕ (Int × Int)) × Int × Int → Option (Int × Int)) (w_mid_who : Unit ⊕ (Int × Int) → Option (Int)) (N : Nat) (x : (List (List Int)) × List Int) : Option (Int) :=
  (evT (G_mid_Mid w_mid_Far w_mid_better w_mid_who N) L0 P0 [(3, .loop [10] ⟨[(5, .val (.alt 72 (.agg .unit) (.alt1 80 (.agg (.pair (.int .i64) (.int .i64)))))), (12, .val (.int .i64))], []⟩ [(.exit 0, ⟨[(5, .val (.alt 72 (.agg .unit) (.alt1 80 (.agg (.pair (.int .i64) (.int .i64))))))], []⟩)])]
    [] N 400 (bodyOf Try.f35) ⟨26, slots 0 (argsOf as_mid_Mid bs_mid_Mid x), tabU (lbOf as_mid_Mid bs_mid_Mid x) [], []⟩).elim (kRet 26 pout_mid_Mid (kpL []) (lbOf as_mid_Mid bs_mid_Mid x))
def out_mid_Mid (y : Int) : V × List OK × List OK := (valW (.int .i64) y, [], [])
noncomputable def V_mid_Mid (w_mid_Far : (List (List Int)) × Int × List Int → Option (Int)) (w_mid_better : (Unit ⊕ (Int × Int)) × Int × Int → Option (Int × Int)) (w_mid_who : Unit ⊕ (Int × Int) → Option (Int)) (N : Nat) (x : (List (List Int)) × List Int) : Option (Int) :=
  obind (loopN N (fun (v : (PUnit ⊕ Int × Int) × Int) => cnd (decide (v.2 < (↑(List.length x.2) : Int))) (cnd (decide ((0:Int) ≤ v.2) && decide (v.2 <
    (↑(List.length x.2) : Int))) (obind (w_mid_Far (x.1, List.getD x.2 (Int.toNat v.2) (0:Int), x.2)) fun b => obind (w_mid_better (v.1, List.getD
    x.2 (Int.toNat v.2) (0:Int), b)) fun b => some (Sum.inl (Sum.inr b, wr .i64 (v.2 + (1:Int))))) none) (some (Sum.inr v.1))) (Sum.inl (), (0:Int)))
    fun (b : PUnit ⊕ Int × Int) => obind (w_mid_who b) fun b => some b
theorem FV_mid_Mid_eq (w_mid_Far : (List (List Int)) × Int × List Int → Option (Int)) (w_mid_better : (Unit ⊕ (Int × Int)) × Int × Int → Option (Int × Int)) (w_mid_who : Unit ⊕ (Int × Int) → Option (Int)) (N : Nat) (x : (List (List Int)) × List Int) : F_mid_Mid w_mid_Far w_mid_better w_mid_who N x = V_mid_Mid w_mid_Far w_mid_better w_mid_who N x := by kernel_rfl
noncomputable def W_mid_Mid (N : Nat) (x : (List (List Int)) × List Int) : Option (Int) := V_mid_Mid (W_mid_Far N) (W_mid_better N) (W_mid_who N) N x
theorem F_mid_Mid_eq (N : Nat) (x : (List (List Int)) × List Int) : F_mid_Mid (W_mid_Far N) (W_mid_better N) (W_mid_who N) N x = W_mid_Mid N x := (FV_mid_Mid_eq (W_mid_Far N) (W_mid_better N) (W_mid_who N) N x).trans (by kernel_rfl)
noncomputable def conw_mid_Mid (w : (List (List Int)) × List Int → Option (Int)) : Con := ⟨35, as_mid_Mid, bs_mid_Mid, Int, w, out_mid_Mid⟩
noncomputable def con_mid_Mid (N : Nat) : Con := conw_mid_Mid (W_mid_Mid N)
theorem R_mid_Mid_eq (x : (List (List Int)) × List Int) (y : Int) : retOf2 P0 Try.f35 (kpL []) (lbOf as_mid_Mid bs_mid_Mid x) (patS ⟨26, [], [], []⟩ pout_mid_Mid y) = some (out_mid_Mid y) := by kernel_rfl
theorem con_mid_Mid_ok (N : Nat) : Con.ok P0 (con_mid_Mid N) := ⟨⟨Try.f35, Try.func35, by kernel_rfl, by kernel_rfl⟩, fun (x : (List (List Int)) × List Int) (r : Int) (hr : W_mid_Mid N x = some r) =>
  spec2_evT (Γ := G_mid_Mid (W_mid_Far N) (W_mid_better N) (W_mid_who N) N) (Λ := L0) (pout := pout_mid_Mid) (kp := kpL []) mixed (orcOf_ok _ (by simp only [List.mem_cons, List.not_mem_nil, or_false, forall_eq_or_imp, forall_eq]; exact ⟨con_mid_Far_ok N, con_mid_better_ok N, con_mid_who_ok N⟩)) Try.func35 (c := bodyOf Try.f35) (by kernel_rfl) (by kernel_rfl) (of_decide_eq_true (by kernel_rfl)) ((F_mid_Mid_eq N x).trans hr) (R_mid_Mid_eq x r)⟩
def as_clus_Of : List AS := [.val (.list (.list (.int .i64))), .val (.list (.int .i64))]
def bs_clus_Of : List BS := []
def pout_clus_Of : Pat := ⟨[(4, .ptr 600004 0)], [(600004, .box 33 (.val (.pair (.list (.int .i64)) (.int .i64))))]⟩
noncomputable def G_clus_Of (w_slices_Clone_int : List Int → Option (List Int)) (w_mid_Mid : (List (List Int)) × List Int → Option (Int)) (N : Nat) : OrcT := orcOf [conw_slices_Clone_int w_slices_Clone_int, conw_mid_Mid w_mid_Mid]
noncomputable def F_clus_Of (w_slices_Clone_int : List Int → Option (List Int)) (w_mid_Mid : (List (List Int)) × List Int → Option (Int)) (N : Nat) (x : (List (List Int)) × List Int) : Option ((List Int) × Int) :=
  (evT (G_clus_Of w_slices_Clone_int w_mid_Mid N) L0 P0 []
    [] N 400 (bodyOf Try.f13) ⟨11, slots 0 (argsOf as_clus_Of bs_clus_Of x), tabU (lbOf as_clus_Of bs_clus_Of x) [], []⟩).elim (kRet 11 pout_clus_Of (kpL []) (lbOf as_clus_Of bs_clus_Of x))
def out_clus_Of (y : (List Int) × Int) : V × List OK × List OK := (valW (.agg (.pair (.list (.int .i64)) (.int .i64))) y, [], [])
noncomputable def V_clus_Of (w_slices_Clone_int : List Int → Option (List Int)) (w_mid_Mid : (List (List Int)) × List Int → Option (Int)) (N : Nat) (x : (List (List Int)) × List Int) : Option ((List Int) × Int) :=
  obind (w_slices_Clone_int x.2) fun b => obind (w_mid_Mid x) fun b_1 => some (b, b_1)
theorem FV_clus_Of_eq (w_slices_Clone_int : List Int → Option (List Int)) (w_mid_Mid : (List (List Int)) × List Int → Option (Int)) (N : Nat) (x : (List (List Int)) × List Int) : F_clus_Of w_slices_Clone_int w_mid_Mid N x = V_clus_Of w_slices_Clone_int w_mid_Mid N x := by kernel_rfl
noncomputable def W_clus_Of (N : Nat) (x : (List (List Int)) × List Int) : Option ((List Int) × Int) := V_clus_Of (W_slices_Clone_int N) (W_mid_Mid N) N x
theorem F_clus_Of_eq (N : Nat) (x : (List (List Int)) × List Int) : F_clus_Of (W_slices_Clone_int N) (W_mid_Mid N) N x = W_clus_Of N x := (FV_clus_Of_eq (W_slices_Clone_int N) (W_mid_Mid N) N x).trans (by kernel_rfl)
noncomputable def conw_clus_Of (w : (List (List Int)) × List Int → Option ((List Int) × Int)) : Con := ⟨13, as_clus_Of, bs_clus_Of, (List Int) × Int, w, out_clus_Of⟩
noncomputable def con_clus_Of (N : Nat) : Con := conw_clus_Of (W_clus_Of N)
theorem R_clus_Of_eq (x : (List (List Int)) × List Int) (y : (List Int) × Int) : retOf2 P0 Try.f13 (kpL []) (lbOf as_clus_Of bs_clus_Of x) (patS ⟨11, [], [], []⟩ pout_clus_Of y) = some (out_clus_Of y) := by kernel_rfl
theorem con_clus_Of_ok (N : Nat) : Con.ok P0 (con_clus_Of N) := ⟨⟨Try.f13, Try.func13, by kernel_rfl, by kernel_rfl⟩, fun (x : (List (List Int)) × List Int) (r : (List Int) × Int) (hr : W_clus_Of N x = some r) =>
  spec2_evT (Γ := G_clus_Of (W_slices_Clone_int N) (W_mid_Mid N) N) (Λ := L0) (pout := pout_clus_Of) (kp := kpL []) mixed (orcOf_ok _ (by simp only [List.mem_cons, List.not_mem_nil, or_false, forall_eq_or_imp, forall_eq]; exact ⟨con_slices_Clone_int_ok N, con_mid_Mid_ok N⟩)) Try.func13 (c := bodyOf Try.f13) (by kernel_rfl) (by kernel_rfl) (of_decide_eq_true (by kernel_rfl)) ((F_clus_Of_eq N x).trans hr) (R_clus_Of_eq x r)⟩
def as_clus_fitted : List AS := [.val (.list (.list (.int .i64))), .val (.list (.int .i64)), .val (.int .i64)]
def bs_clus_fitted : List BS := []
def pout_clus_fitted : Pat := ⟨[(6, .acc 700039)], [(700039, .nrow 33 (.agg (.pair (.list (.int .i64)) (.int .i64))) false true)]⟩
noncomputable def G_clus_fitted (w_clus_Of : (List (List Int)) × List Int → Option ((List Int) × Int)) (w_clus_Split : (List (List Int)) × (List Int) × Int → Option ((List Int) × List Int)) (N : Nat) : OrcT := orcOf [conw_clus_Of w_clus_Of, conw_clus_Split w_clus_Split]
noncomputable def F_clus_fitted (w_clus_Of : (List (List Int)) × List Int → Option ((List Int) × Int)) (w_clus_Split : (List (List Int)) × (List Int) × Int → Option ((List Int) × List Int)) (N : Nat) (x : (List (List Int)) × (List Int) × Int) : Option (List ((List Int) × Int)) :=
  (evT (G_clus_fitted w_clus_Of w_clus_Split N) L0 P0 []
    [] N 400 (bodyOf Try.f36) ⟨40, slots 0 (argsOf as_clus_fitted bs_clus_fitted x), tabU (lbOf as_clus_fitted bs_clus_fitted x) [], []⟩).elim (kRet 40 pout_clus_fitted (kpL []) (lbOf as_clus_fitted bs_clus_fitted x))
def out_clus_fitted (y : List ((List Int) × Int)) : V × List OK × List OK := (.acc 2000000 0, [], [.nrow 33 false true ⟨(.agg (.pair (.list (.int .i64)) (.int .i64))), y⟩])
noncomputable def V_clus_fitted (w_clus_Of : (List (List Int)) × List Int → Option ((List Int) × Int)) (w_clus_Split : (List (List Int)) × (List Int) × Int → Option ((List Int) × List Int)) (N : Nat) (x : (List (List Int)) × (List Int) × Int) : Option (List ((List Int) × Int)) :=
  cnd (decide ((↑(List.length x.2.1) : Int) ≤ wr .i64 (wr .i64 ((3:Int) * x.2.2) - (1:Int)))) (obind (w_clus_Of (x.1, x.2.1)) fun b => some [b])
    (obind (w_clus_Split x) fun b => cnd (decide ((↑(List.length b.2) : Int) = (0:Int))) (obind (w_clus_Of (x.1, b.1)) fun b => some [b]) (obind
    (w_clus_Of (x.1, b.1)) fun b_1 => obind (w_clus_Of (x.1, b.2)) fun b => some [b_1, b]))
theorem FV_clus_fitted_eq (w_clus_Of : (List (List Int)) × List Int → Option ((List Int) × Int)) (w_clus_Split : (List (List Int)) × (List Int) × Int → Option ((List Int) × List Int)) (N : Nat) (x : (List (List Int)) × (List Int) × Int) : F_clus_fitted w_clus_Of w_clus_Split N x = V_clus_fitted w_clus_Of w_clus_Split N x := by kernel_rfl
noncomputable def W_clus_fitted (N : Nat) (x : (List (List Int)) × (List Int) × Int) : Option (List ((List Int) × Int)) := V_clus_fitted (W_clus_Of N) (W_clus_Split N) N x
theorem F_clus_fitted_eq (N : Nat) (x : (List (List Int)) × (List Int) × Int) : F_clus_fitted (W_clus_Of N) (W_clus_Split N) N x = W_clus_fitted N x := (FV_clus_fitted_eq (W_clus_Of N) (W_clus_Split N) N x).trans (by kernel_rfl)
noncomputable def conw_clus_fitted (w : (List (List Int)) × (List Int) × Int → Option (List ((List Int) × Int))) : Con := ⟨36, as_clus_fitted, bs_clus_fitted, List ((List Int) × Int), w, out_clus_fitted⟩
noncomputable def con_clus_fitted (N : Nat) : Con := conw_clus_fitted (W_clus_fitted N)
theorem R_clus_fitted_eq (x : (List (List Int)) × (List Int) × Int) (y : List ((List Int) × Int)) : retOf2 P0 Try.f36 (kpL []) (lbOf as_clus_fitted bs_clus_fitted x) (patS ⟨40, [], [], []⟩ pout_clus_fitted y) = some (out_clus_fitted y) := by kernel_rfl
theorem con_clus_fitted_ok (N : Nat) : Con.ok P0 (con_clus_fitted N) := ⟨⟨Try.f36, Try.func36, by kernel_rfl, by kernel_rfl⟩, fun (x : (List (List Int)) × (List Int) × Int) (r : List ((List Int) × Int)) (hr : W_clus_fitted N x = some r) =>
  spec2_evT (Γ := G_clus_fitted (W_clus_Of N) (W_clus_Split N) N) (Λ := L0) (pout := pout_clus_fitted) (kp := kpL []) mixed (orcOf_ok _ (by simp only [List.mem_cons, List.not_mem_nil, or_false, forall_eq_or_imp, forall_eq]; exact ⟨con_clus_Of_ok N, con_clus_Split_ok N⟩)) Try.func36 (c := bodyOf Try.f36) (by kernel_rfl) (by kernel_rfl) (of_decide_eq_true (by kernel_rfl)) ((F_clus_fitted_eq N x).trans hr) (R_clus_fitted_eq x r)⟩
def as_clus_Group : List AS := [.val (.list (.list (.int .i64))), .val (.list (.int .i64)), .val (.int .i64)]
def bs_clus_Group : List BS := []
def out_clus_Group (y : List ((List Int) × Int)) : V × List OK × List OK := (.acc 2000000 0, [], [.nrow 33 true true ⟨(.agg (.pair (.list (.int .i64)) (.int .i64))), y⟩])
noncomputable def conw_clus_Group (w : (List (List Int)) × (List Int) × Int → Option (List ((List Int) × Int))) : Con := ⟨17, as_clus_Group, bs_clus_Group, List ((List Int) × Int), w, out_clus_Group⟩
def pout_clus_Group : Pat := ⟨[(6, .acc 700025)], [(700025, .nrow 33 (.agg (.pair (.list (.int .i64)) (.int .i64))) true true)]⟩
noncomputable def G_clus_Group (w_clus_fitted : (List (List Int)) × (List Int) × Int → Option (List ((List Int) × Int))) (w_clus_Group : (List (List Int)) × (List Int) × Int → Option (List ((List Int) × Int))) (N : Nat) : OrcT := orcOf [conw_clus_fitted w_clus_fitted, conw_clus_Group w_clus_Group]
noncomputable def F_clus_Group (w_clus_fitted : (List (List Int)) × (List Int) × Int → Option (List ((List Int) × Int))) (w_clus_Group : (List (List Int)) × (List Int) × Int → Option (List ((List Int) × Int))) (N : Nat) (x : (List (List Int)) × (List Int) × Int) : Option (List ((List Int) × Int)) :=
  (evT (G_clus_Group w_clus_fitted w_clus_Group N) L0 P0 []
    [] N 400 (bodyOf Try.f17) ⟨34, slots 0 (argsOf as_clus_Group bs_clus_Group x), tabU (lbOf as_clus_Group bs_clus_Group x) [], []⟩).elim (kRet 34 pout_clus_Group (kpL []) (lbOf as_clus_Group bs_clus_Group x))
noncomputable def V_clus_Group (w_clus_fitted : (List (List Int)) × (List Int) × Int → Option (List ((List Int) × Int))) (w_clus_Group : (List (List Int)) × (List Int) × Int → Option (List ((List Int) × Int))) (N : Nat) (x : (List (List Int)) × (List Int) × Int) : Option (List ((List Int) × Int)) :=
  cnd (decide ((↑(List.length x.2.1) : Int) = (0:Int))) (some []) (obind (w_clus_fitted x) fun b => cnd (decide ((↑(List.length b) : Int) = (1:Int)))
    (some b) (cnd (decide ((0:Int) ≤ (0:Int)) && decide ((0:Int) < (↑(List.length b) : Int))) (obind (w_clus_Group (x.1, Prod.fst (List.getD b (0:Nat)
    ([], (0:Int))), x.2.2)) fun b_1 => cnd (decide ((0:Int) ≤ (1:Int)) && decide ((1:Int) < (↑(List.length b) : Int))) (obind (w_clus_Group (x.1,
    Prod.fst (List.getD b (1:Nat) ([], (0:Int))), x.2.2)) fun b => cnd (decide ((List.length b_1 + List.length b) * (32:Nat) ≤ (140737488355328:Nat)))
    (some (b_1 ++ b)) none) none) none))
theorem FV_clus_Group_eq (w_clus_fitted : (List (List Int)) × (List Int) × Int → Option (List ((List Int) × Int))) (w_clus_Group : (List (List Int)) × (List Int) × Int → Option (List ((List Int) × Int))) (N : Nat) (x : (List (List Int)) × (List Int) × Int) : F_clus_Group w_clus_fitted w_clus_Group N x = V_clus_Group w_clus_fitted w_clus_Group N x := by kernel_rfl
noncomputable def WR_clus_Group (N : Nat) : Nat → ((List (List Int)) × (List Int) × Int) → Option (List ((List Int) × Int)) := fun m => Nat.rec (motive := fun _ => ((List (List Int)) × (List Int) × Int) → Option (List ((List Int) × Int))) (fun _ => none) (fun _ w_clus_Group x =>
  cnd (decide ((↑(List.length x.2.1) : Int) = (0:Int))) (some []) (obind (W_clus_fitted N x) fun b => cnd (decide ((↑(List.length b) : Int) = (1:Int)))
    (some b) (cnd (decide ((0:Int) ≤ (0:Int)) && decide ((0:Int) < (↑(List.length b) : Int))) (obind (w_clus_Group (x.1, Prod.fst (List.getD b (0:Nat)
    ([], (0:Int))), x.2.2)) fun b_1 => cnd (decide ((0:Int) ≤ (1:Int)) && decide ((1:Int) < (↑(List.length b) : Int))) (obind (w_clus_Group (x.1,
    Prod.fst (List.getD b (1:Nat) ([], (0:Int))), x.2.2)) fun b => cnd (decide ((List.length b_1 + List.length b) * (32:Nat) ≤ (140737488355328:Nat)))
    (some (b_1 ++ b)) none) none) none))) m
noncomputable def W_clus_Group (N : Nat) (x : (List (List Int)) × (List Int) × Int) : Option (List ((List Int) × Int)) := WR_clus_Group N N x
theorem F_clus_Group_eq (N m : Nat) (x : (List (List Int)) × (List Int) × Int) : F_clus_Group (W_clus_fitted N) (WR_clus_Group N m) N x = WR_clus_Group N (m + 1) x := (FV_clus_Group_eq (W_clus_fitted N) (WR_clus_Group N m) N x).trans (by kernel_rfl)
noncomputable def con_clus_Group (N : Nat) : Con := conw_clus_Group (W_clus_Group N)
theorem R_clus_Group_eq (x : (List (List Int)) × (List Int) × Int) (y : List ((List Int) × Int)) : retOf2 P0 Try.f17 (kpL []) (lbOf as_clus_Group bs_clus_Group x) (patS ⟨34, [], [], []⟩ pout_clus_Group y) = some (out_clus_Group y) := by kernel_rfl
theorem con_clus_Group_okR (N : Nat) : ∀ m, Con.ok P0 (conw_clus_Group (WR_clus_Group N m))
  | 0 => ⟨⟨Try.f17, Try.func17, by kernel_rfl, by kernel_rfl⟩, fun (x : (List (List Int)) × (List Int) × Int) (r : List ((List Int) × Int)) (hr : (none : Option (List ((List Int) × Int))) = some r) => by cases hr⟩
  | m + 1 => ⟨⟨Try.f17, Try.func17, by kernel_rfl, by kernel_rfl⟩, fun (x : (List (List Int)) × (List Int) × Int) (r : List ((List Int) × Int)) (hr : WR_clus_Group N (m + 1) x = some r) =>
    spec2_evT (Γ := G_clus_Group (W_clus_fitted N) (WR_clus_Group N m) N) (Λ := L0) (pout := pout_clus_Group) (kp := kpL []) mixed (orcOf_ok _ (by simp only [List.mem_cons, List.not_mem_nil, or_false, forall_eq_or_imp, forall_eq]; exact ⟨con_clus_fitted_ok N, con_clus_Group_okR N m⟩)) Try.func17 (c := bodyOf Try.f17) (by kernel_rfl) (by kernel_rfl) (of_decide_eq_true (by kernel_rfl)) ((F_clus_Group_eq N m x).trans hr) (R_clus_Group_eq x r)⟩
theorem con_clus_Group_ok (N : Nat) : Con.ok P0 (con_clus_Group N) := con_clus_Group_okR N N
def as_slices_Index_int : List AS := [.val (.list (.int .i64)), .val (.int .i64)]
def bs_slices_Index_int : List BS := []
def pout_slices_Index_int : Pat := ⟨[(4, .val (.int .i64))], []⟩
noncomputable def G_slices_Index_int  (N : Nat) : OrcT := orcOf []
noncomputable def F_slices_Index_int  (N : Nat) (x : (List Int) × Int) : Option (Int) :=
  (evT (G_slices_Index_int  N) L0 P0 [(2, .loop [] ⟨[(8, .val (.int .i64))], []⟩ [(.exit 0, ⟨[], []⟩), (.ret, ⟨[(4, .val (.int .i64))], []⟩)])]
    [] N 400 (bodyOf Try.f56) ⟨19, slots 0 (argsOf as_slices_Index_int bs_slices_Index_int x), tabU (lbOf as_slices_Index_int bs_slices_Index_int x) [], []⟩).elim (kRet 19 pout_slices_Index_int (kpL []) (lbOf as_slices_Index_int bs_slices_Index_int x))
def out_slices_Index_int (y : Int) : V × List OK × List OK := (valW (.int .i64) y, [], [])
noncomputable def V_slices_Index_int  (N : Nat) (x : (List Int) × Int) : Option (Int) :=
  obind (loopN N (fun (v : Int) => cnd (decide (v < (↑(List.length x.1) : Int))) (cnd (decide ((0:Int) ≤ v) && decide (v < (↑(List.length x.1) : Int)))
    (cnd (decide (x.2 = List.getD x.1 (Int.toNat v) (0:Int))) (some (Sum.inr (Sum.inr v))) (some (Sum.inl (wr .i64 (v + (1:Int)))))) none) (some
    (Sum.inr (Sum.inl ())))) (Int.ofNat (0:Nat))) fun (b : PUnit ⊕ Int) => selim (fun (b : PUnit) => some (-1 : Int)) (fun (c : Int) => some c) b
theorem FV_slices_Index_int_eq  (N : Nat) (x : (List Int) × Int) : F_slices_Index_int  N x = V_slices_Index_int  N x := by kernel_rfl
noncomputable def W_slices_Index_int (N : Nat) (x : (List Int) × Int) : Option (Int) := V_slices_Index_int  N x
theorem F_slices_Index_int_eq (N : Nat) (x : (List Int) × Int) : F_slices_Index_int  N x = W_slices_Index_int N x := (FV_slices_Index_int_eq  N x).trans (by kernel_rfl)
noncomputable def conw_slices_Index_int (w : (List Int) × Int → Option (Int)) : Con := ⟨56, as_slices_Index_int, bs_slices_Index_int, Int, w, out_slices_Index_int⟩
noncomputable def con_slices_Index_int (N : Nat) : Con := conw_slices_Index_int (W_slices_Index_int N)
theorem R_slices_Index_int_eq (x : (List Int) × Int) (y : Int) : retOf2 P0 Try.f56 (kpL []) (lbOf as_slices_Index_int bs_slices_Index_int x) (patS ⟨19, [], [], []⟩ pout_slices_Index_int y) = some (out_slices_Index_int y) := by kernel_rfl
theorem con_slices_Index_int_ok (N : Nat) : Con.ok P0 (con_slices_Index_int N) := ⟨⟨Try.f56, Try.func56, by kernel_rfl, by kernel_rfl⟩, fun (x : (List Int) × Int) (r : Int) (hr : W_slices_Index_int N x = some r) =>
  spec2_evT (Γ := G_slices_Index_int N) (Λ := L0) (pout := pout_slices_Index_int) (kp := kpL []) mixed (orcOf_ok [] (by simp)) Try.func56 (c := bodyOf Try.f56) (by kernel_rfl) (by kernel_rfl) (of_decide_eq_true (by kernel_rfl)) ((F_slices_Index_int_eq N x).trans hr) (R_slices_Index_int_eq x r)⟩
def as_slices_Contains_int : List AS := [.val (.list (.int .i64)), .val (.int .i64)]
def bs_slices_Contains_int : List BS := []
def pout_slices_Contains_int : Pat := ⟨[(4, .val .bool)], []⟩
noncomputable def G_slices_Contains_int (w_slices_Index_int : (List Int) × Int → Option (Int)) (N : Nat) : OrcT := orcOf [conw_slices_Index_int w_slices_Index_int]
noncomputable def F_slices_Contains_int (w_slices_Index_int : (List Int) × Int → Option (Int)) (N : Nat) (x : (List Int) × Int) : Option (Bool) :=
  (evT (G_slices_Contains_int w_slices_Index_int N) L0 P0 []
    [] N 400 (bodyOf Try.f50) ⟨9, slots 0 (argsOf as_slices_Contains_int bs_slices_Contains_int x), tabU (lbOf as_slices_Contains_int bs_slices_Contains_int x) [], []⟩).elim (kRet 9 pout_slices_Contains_int (kpL []) (lbOf as_slices_Contains_int bs_slices_Contains_int x))
def out_slices_Contains_int (y : Bool) : V × List OK × List OK := (valW .bool y, [], [])
noncomputable def V_slices_Contains_int (w_slices_Index_int : (List Int) × Int → Option (Int)) (N : Nat) (x : (List Int) × Int) : Option (Bool) :=
  obind (w_slices_Index_int x) fun b => some (decide ((0:Int) ≤ b))
theorem FV_slices_Contains_int_eq (w_slices_Index_int : (List Int) × Int → Option (Int)) (N : Nat) (x : (List Int) × Int) : F_slices_Contains_int w_slices_Index_int N x = V_slices_Contains_int w_slices_Index_int N x := by kernel_rfl
noncomputable def W_slices_Contains_int (N : Nat) (x : (List Int) × Int) : Option (Bool) := V_slices_Contains_int (W_slices_Index_int N) N x
theorem F_slices_Contains_int_eq (N : Nat) (x : (List Int) × Int) : F_slices_Contains_int (W_slices_Index_int N) N x = W_slices_Contains_int N x := (FV_slices_Contains_int_eq (W_slices_Index_int N) N x).trans (by kernel_rfl)
noncomputable def conw_slices_Contains_int (w : (List Int) × Int → Option (Bool)) : Con := ⟨50, as_slices_Contains_int, bs_slices_Contains_int, Bool, w, out_slices_Contains_int⟩
noncomputable def con_slices_Contains_int (N : Nat) : Con := conw_slices_Contains_int (W_slices_Contains_int N)
theorem R_slices_Contains_int_eq (x : (List Int) × Int) (y : Bool) : retOf2 P0 Try.f50 (kpL []) (lbOf as_slices_Contains_int bs_slices_Contains_int x) (patS ⟨9, [], [], []⟩ pout_slices_Contains_int y) = some (out_slices_Contains_int y) := by kernel_rfl
theorem con_slices_Contains_int_ok (N : Nat) : Con.ok P0 (con_slices_Contains_int N) := ⟨⟨Try.f50, Try.func50, by kernel_rfl, by kernel_rfl⟩, fun (x : (List Int) × Int) (r : Bool) (hr : W_slices_Contains_int N x = some r) =>
  spec2_evT (Γ := G_slices_Contains_int (W_slices_Index_int N) N) (Λ := L0) (pout := pout_slices_Contains_int) (kp := kpL []) mixed (orcOf_ok _ (by simp only [List.mem_cons, List.not_mem_nil, or_false, forall_eq_or_imp, forall_eq]; exact con_slices_Index_int_ok N)) Try.func50 (c := bodyOf Try.f50) (by kernel_rfl) (by kernel_rfl) (of_decide_eq_true (by kernel_rfl)) ((F_slices_Contains_int_eq N x).trans hr) (R_slices_Contains_int_eq x r)⟩
def as_clus_find : List AS := [.val (.list (.agg (.pair (.list (.int .i64)) (.int .i64)))), .val (.int .i64)]
def bs_clus_find : List BS := []
def pout_clus_find : Pat := ⟨[(4, .val (.alt 62 (.agg (.int .i64)) (.alt1 75 (.agg .unit))))], []⟩
noncomputable def G_clus_find (w_slices_Contains_int : (List Int) × Int → Option (Bool)) (N : Nat) : OrcT := orcOf [conw_slices_Contains_int w_slices_Contains_int]
noncomputable def F_clus_find (w_slices_Contains_int : (List Int) × Int → Option (Bool)) (N : Nat) (x : (List ((List Int) × Int)) × Int) : Option (Int ⊕ Unit) :=
  (evT (G_clus_find w_slices_Contains_int N) L0 P0 [(2, .loop [7] ⟨[(9, .val (.int .i64))], []⟩ [(.exit 0, ⟨[], []⟩), (.ret, ⟨[(4, .val (.alt 62 (.agg (.int .i64)) (.alt1 75 (.agg .unit))))], []⟩)])]
    [] N 400 (bodyOf Try.f38) ⟨24, slots 0 (argsOf as_clus_find bs_clus_find x), tabU (lbOf as_clus_find bs_clus_find x) [], []⟩).elim (kRet 24 pout_clus_find (kpL []) (lbOf as_clus_find bs_clus_find x))
def out_clus_find (y : Int ⊕ Unit) : V × List OK × List OK := (valW (.alt 62 (.agg (.int .i64)) (.alt1 75 (.agg .unit))) y, [], [])
noncomputable def V_clus_find (w_slices_Contains_int : (List Int) × Int → Option (Bool)) (N : Nat) (x : (List ((List Int) × Int)) × Int) : Option (Int ⊕ Unit) :=
  obind (loopN N (fun (v : Int) => cnd (decide (v < (↑(List.length x.1) : Int))) (cnd (decide ((0:Int) ≤ v) && decide (v < (↑(List.length x.1) : Int)))
    (obind (w_slices_Contains_int (Prod.fst (List.getD x.1 (Int.toNat v) ([], (0:Int))), x.2)) fun b => cnd b (some (Sum.inr (Sum.inr (Sum.inl v))))
    (some (Sum.inl (wr .i64 (v + (1:Int)))))) none) (some (Sum.inr (Sum.inl ())))) (Int.ofNat (0:Nat))) fun (b : PUnit ⊕ Int ⊕ PUnit) => selim (fun (b :
    PUnit) => some (Sum.inr ())) (fun (c : Int ⊕ PUnit) => some c) b
theorem FV_clus_find_eq (w_slices_Contains_int : (List Int) × Int → Option (Bool)) (N : Nat) (x : (List ((List Int) × Int)) × Int) : F_clus_find w_slices_Contains_int N x = V_clus_find w_slices_Contains_int N x := by kernel_rfl
noncomputable def W_clus_find (N : Nat) (x : (List ((List Int) × Int)) × Int) : Option (Int ⊕ Unit) := V_clus_find (W_slices_Contains_int N) N x
theorem F_clus_find_eq (N : Nat) (x : (List ((List Int) × Int)) × Int) : F_clus_find (W_slices_Contains_int N) N x = W_clus_find N x := (FV_clus_find_eq (W_slices_Contains_int N) N x).trans (by kernel_rfl)
noncomputable def conw_clus_find (w : (List ((List Int) × Int)) × Int → Option (Int ⊕ Unit)) : Con := ⟨38, as_clus_find, bs_clus_find, Int ⊕ Unit, w, out_clus_find⟩
noncomputable def con_clus_find (N : Nat) : Con := conw_clus_find (W_clus_find N)
theorem R_clus_find_eq (x : (List ((List Int) × Int)) × Int) (y : Int ⊕ Unit) : retOf2 P0 Try.f38 (kpL []) (lbOf as_clus_find bs_clus_find x) (patS ⟨24, [], [], []⟩ pout_clus_find y) = some (out_clus_find y) := by kernel_rfl
theorem con_clus_find_ok (N : Nat) : Con.ok P0 (con_clus_find N) := ⟨⟨Try.f38, Try.func38, by kernel_rfl, by kernel_rfl⟩, fun (x : (List ((List Int) × Int)) × Int) (r : Int ⊕ Unit) (hr : W_clus_find N x = some r) =>
  spec2_evT (Γ := G_clus_find (W_slices_Contains_int N) N) (Λ := L0) (pout := pout_clus_find) (kp := kpL []) mixed (orcOf_ok _ (by simp only [List.mem_cons, List.not_mem_nil, or_false, forall_eq_or_imp, forall_eq]; exact con_slices_Contains_int_ok N)) Try.func38 (c := bodyOf Try.f38) (by kernel_rfl) (by kernel_rfl) (of_decide_eq_true (by kernel_rfl)) ((F_clus_find_eq N x).trans hr) (R_clus_find_eq x r)⟩
def as_slices_Clone_api_Cluster : List AS := [.val (.list (.agg (.pair (.list (.int .i64)) (.int .i64))))]
def bs_slices_Clone_api_Cluster : List BS := []
def pout_slices_Clone_api_Cluster : Pat := ⟨[(2, .acc 700005)], [(700005, .nrow 33 (.agg (.pair (.list (.int .i64)) (.int .i64))) false true)]⟩
noncomputable def G_slices_Clone_api_Cluster  (N : Nat) : OrcT := orcOf []
noncomputable def F_slices_Clone_api_Cluster  (N : Nat) (x : List ((List Int) × Int)) : Option (List ((List Int) × Int)) :=
  (evT (G_slices_Clone_api_Cluster  N) L0 P0 []
    [] N 400 (bodyOf Try.f51) ⟨8, slots 0 [.nl ⟨(.agg (.pair (.list (.int .i64)) (.int .i64))), x⟩], tabU (lbOf as_slices_Clone_api_Cluster bs_slices_Clone_api_Cluster x) [], []⟩).elim (kRet 8 pout_slices_Clone_api_Cluster (kpL []) (lbOf as_slices_Clone_api_Cluster bs_slices_Clone_api_Cluster x))
def out_slices_Clone_api_Cluster (y : List ((List Int) × Int)) : V × List OK × List OK := (.acc 2000000 0, [], [.nrow 33 false true ⟨(.agg (.pair (.list (.int .i64)) (.int .i64))), y⟩])
noncomputable def V_slices_Clone_api_Cluster  (N : Nat) (x : List ((List Int) × Int)) : Option (List ((List Int) × Int)) :=
  cnd (decide (List.length x * (32:Nat) ≤ (140737488355328:Nat))) (some x) none
theorem FV_slices_Clone_api_Cluster_eq  (N : Nat) (x : List ((List Int) × Int)) : F_slices_Clone_api_Cluster  N x = V_slices_Clone_api_Cluster  N x := by kernel_rfl
noncomputable def W_slices_Clone_api_Cluster (N : Nat) (x : List ((List Int) × Int)) : Option (List ((List Int) × Int)) := V_slices_Clone_api_Cluster  N x
theorem F_slices_Clone_api_Cluster_eq (N : Nat) (x : List ((List Int) × Int)) : F_slices_Clone_api_Cluster  N x = W_slices_Clone_api_Cluster N x := (FV_slices_Clone_api_Cluster_eq  N x).trans (by kernel_rfl)
noncomputable def conw_slices_Clone_api_Cluster (w : List ((List Int) × Int) → Option (List ((List Int) × Int))) : Con := ⟨51, as_slices_Clone_api_Cluster, bs_slices_Clone_api_Cluster, List ((List Int) × Int), w, out_slices_Clone_api_Cluster⟩
noncomputable def con_slices_Clone_api_Cluster (N : Nat) : Con := conw_slices_Clone_api_Cluster (W_slices_Clone_api_Cluster N)
theorem R_slices_Clone_api_Cluster_eq (x : List ((List Int) × Int)) (y : List ((List Int) × Int)) : retOf2 P0 Try.f51 (kpL []) (lbOf as_slices_Clone_api_Cluster bs_slices_Clone_api_Cluster x) (patS ⟨8, [], [], []⟩ pout_slices_Clone_api_Cluster y) = some (out_slices_Clone_api_Cluster y) := by kernel_rfl
noncomputable def FA_slices_Clone_api_Cluster : Option (List ((List Int) × Int)) := (evT (G_slices_Clone_api_Cluster 1) L0 P0 [] [] 1 400 (bodyOf Try.f51) ⟨8, slots 0 [.snil], tabU [] [], []⟩).elim (kRet 8 pout_slices_Clone_api_Cluster (kpL []) [])
theorem FA_slices_Clone_api_Cluster_eq : FA_slices_Clone_api_Cluster = some [] := by kernel_rfl
theorem WN_slices_Clone_api_Cluster (N : Nat) (r : List ((List Int) × Int)) (h : W_slices_Clone_api_Cluster N [] = some r) : r = [] := by
  have e : W_slices_Clone_api_Cluster N [] = some [] := by kernel_rfl
  rw [e] at h; injection h with h; exact h.symm
theorem con_slices_Clone_api_Cluster_ok (N : Nat) : Con.ok P0 (con_slices_Clone_api_Cluster N) := ⟨⟨Try.f51, Try.func51, by kernel_rfl, by kernel_rfl⟩, fun (x : List ((List Int) × Int)) (r : List ((List Int) × Int)) (hr : W_slices_Clone_api_Cluster N x = some r) =>
  clone_split (e := (.agg (.pair (.list (.int .i64)) (.int .i64)))) (ty := 33) (l := x) (r := r)
    (spec2_evT (Γ := G_slices_Clone_api_Cluster 1) (Λ := L0) (lb := []) (pout := pout_slices_Clone_api_Cluster) (kp := kpL []) mixed (orcOf_ok [] (by simp)) Try.func51 (c := bodyOf Try.f51) (by kernel_rfl) (by kernel_rfl) (of_decide_eq_true (by kernel_rfl)) FA_slices_Clone_api_Cluster_eq (R_slices_Clone_api_Cluster_eq x []))
    (spec2_evT (Γ := G_slices_Clone_api_Cluster N) (Λ := L0) (lb := []) (pout := pout_slices_Clone_api_Cluster) (kp := kpL []) mixed (orcOf_ok [] (by simp)) Try.func51 (c := bodyOf Try.f51) (by kernel_rfl) (by kernel_rfl) (of_decide_eq_true (by kernel_rfl)) ((F_slices_Clone_api_Cluster_eq N x).trans hr) (R_slices_Clone_api_Cluster_eq x r))
    (fun h => by subst h; exact WN_slices_Clone_api_Cluster N r hr)⟩
def as_twin_Clusters : List AS := [.val (.list (.agg (.pair (.list (.int .i64)) (.int .i64))))]
def bs_twin_Clusters : List BS := []
def pout_twin_Clusters : Pat := ⟨[(2, .val (.list (.agg (.pair (.list (.int .i64)) (.int .i64)))))], []⟩
noncomputable def G_twin_Clusters (w_slices_Clone_api_Cluster : List ((List Int) × Int) → Option (List ((List Int) × Int))) (w_slices_Clone_int : List Int → Option (List Int)) (N : Nat) : OrcT := orcOf [conw_slices_Clone_api_Cluster w_slices_Clone_api_Cluster, conw_slices_Clone_int w_slices_Clone_int]
noncomputable def F_twin_Clusters (w_slices_Clone_api_Cluster : List ((List Int) × Int) → Option (List ((List Int) × Int))) (w_slices_Clone_int : List Int → Option (List Int)) (N : Nat) (x : List ((List Int) × Int)) : Option (List ((List Int) × Int)) :=
  (evT (G_twin_Clusters w_slices_Clone_api_Cluster w_slices_Clone_int N) L0 P0 [(3, .loop [] ⟨[(3, .acc 700006), (9, .val (.int .i64))], [(700006, .nrow 33 (.agg (.pair (.list (.int .i64)) (.int .i64))) false true)]⟩ [(.exit 0, ⟨[(3, .val (.list (.agg (.pair (.list (.int .i64)) (.int .i64)))))], []⟩)])]
    [] N 400 (bodyOf Try.f39) ⟨24, slots 0 (argsOf as_twin_Clusters bs_twin_Clusters x), tabU (lbOf as_twin_Clusters bs_twin_Clusters x) [], []⟩).elim (kRet 24 pout_twin_Clusters (kpL []) (lbOf as_twin_Clusters bs_twin_Clusters x))
def out_twin_Clusters (y : List ((List Int) × Int)) : V × List OK × List OK := (valW (.list (.agg (.pair (.list (.int .i64)) (.int .i64)))) y, [], [])
noncomputable def V_twin_Clusters (w_slices_Clone_api_Cluster : List ((List Int) × Int) → Option (List ((List Int) × Int))) (w_slices_Clone_int : List Int → Option (List Int)) (N : Nat) (x : List ((List Int) × Int)) : Option (List ((List Int) × Int)) :=
  obind (w_slices_Clone_api_Cluster x) fun b => obind (loopN N (fun (v : Int × List (List Int × Int)) => cnd (decide (v.1 < (↑(List.length b) : Int)))
    (cnd (decide ((0:Int) ≤ v.1) && decide (v.1 < (↑(List.length v.2) : Int))) (obind (w_slices_Clone_int (Prod.fst (List.getD v.2 (Int.toNat v.1)
    ([], (0:Int))))) fun b => cnd (decide ((0:Int) ≤ v.1) && decide (v.1 < (↑(List.length v.2) : Int))) (some (Sum.inl (wr .i64 (v.1 + (1:Int)), putL
    v.2 [(b, Prod.snd (List.getD v.2 (Int.toNat v.1) ([], (0:Int))))] (Int.toNat v.1)))) none) none) (some (Sum.inr v.2))) ((0:Int), b)) fun (b : List
    (List Int × Int)) => some b
theorem FV_twin_Clusters_eq (w_slices_Clone_api_Cluster : List ((List Int) × Int) → Option (List ((List Int) × Int))) (w_slices_Clone_int : List Int → Option (List Int)) (N : Nat) (x : List ((List Int) × Int)) : F_twin_Clusters w_slices_Clone_api_Cluster w_slices_Clone_int N x = V_twin_Clusters w_slices_Clone_api_Cluster w_slices_Clone_int N x := by kernel_rfl
noncomputable def W_twin_Clusters (N : Nat) (x : List ((List Int) × Int)) : Option (List ((List Int) × Int)) := V_twin_Clusters (W_slices_Clone_api_Cluster N) (W_slices_Clone_int N) N x
theorem F_twin_Clusters_eq (N : Nat) (x : List ((List Int) × Int)) : F_twin_Clusters (W_slices_Clone_api_Cluster N) (W_slices_Clone_int N) N x = W_twin_Clusters N x := (FV_twin_Clusters_eq (W_slices_Clone_api_Cluster N) (W_slices_Clone_int N) N x).trans (by kernel_rfl)
noncomputable def conw_twin_Clusters (w : List ((List Int) × Int) → Option (List ((List Int) × Int))) : Con := ⟨39, as_twin_Clusters, bs_twin_Clusters, List ((List Int) × Int), w, out_twin_Clusters⟩
noncomputable def con_twin_Clusters (N : Nat) : Con := conw_twin_Clusters (W_twin_Clusters N)
theorem R_twin_Clusters_eq (x : List ((List Int) × Int)) (y : List ((List Int) × Int)) : retOf2 P0 Try.f39 (kpL []) (lbOf as_twin_Clusters bs_twin_Clusters x) (patS ⟨24, [], [], []⟩ pout_twin_Clusters y) = some (out_twin_Clusters y) := by kernel_rfl
theorem con_twin_Clusters_ok (N : Nat) : Con.ok P0 (con_twin_Clusters N) := ⟨⟨Try.f39, Try.func39, by kernel_rfl, by kernel_rfl⟩, fun (x : List ((List Int) × Int)) (r : List ((List Int) × Int)) (hr : W_twin_Clusters N x = some r) =>
  spec2_evT (Γ := G_twin_Clusters (W_slices_Clone_api_Cluster N) (W_slices_Clone_int N) N) (Λ := L0) (pout := pout_twin_Clusters) (kp := kpL []) mixed (orcOf_ok _ (by simp only [List.mem_cons, List.not_mem_nil, or_false, forall_eq_or_imp, forall_eq]; exact ⟨con_slices_Clone_api_Cluster_ok N, con_slices_Clone_int_ok N⟩)) Try.func39 (c := bodyOf Try.f39) (by kernel_rfl) (by kernel_rfl) (of_decide_eq_true (by kernel_rfl)) ((F_twin_Clusters_eq N x).trans hr) (R_twin_Clusters_eq x r)⟩
def as_clus_replace : List AS := [.val (.list (.list (.int .i64))), .val (.list (.agg (.pair (.list (.int .i64)) (.int .i64)))), .val (.int .i64), .val (.int .i64), .val (.list (.agg (.pair (.list (.int .i64)) (.int .i64))))]
def bs_clus_replace : List BS := []
def pout_clus_replace : Pat := ⟨[(10, .val (.list (.agg (.pair (.list (.int .i64)) (.int .i64)))))], []⟩
noncomputable def G_clus_replace (w_clus_Of : (List (List Int)) × List Int → Option ((List Int) × Int)) (N : Nat) : OrcT := orcOf [conw_clus_Of w_clus_Of]
noncomputable def F_clus_replace (w_clus_Of : (List (List Int)) × List Int → Option ((List Int) × Int)) (N : Nat) (x : (List (List Int)) × (List ((List Int) × Int)) × Int × Int × List ((List Int) × Int)) : Option (List ((List Int) × Int)) :=
  (evT (G_clus_replace w_clus_Of N) L0 P0 [(3, .loop [14] ⟨[(11, .acc 700011), (16, .val (.int .i64))], [(700011, .nrow 33 (.agg (.pair (.list (.int .i64)) (.int .i64))) true true)]⟩ [(.exit 0, ⟨[(11, .val (.list (.agg (.pair (.list (.int .i64)) (.int .i64)))))], []⟩)])]
    [] N 400 (bodyOf Try.f40) ⟨40, slots 0 (argsOf as_clus_replace bs_clus_replace x), tabU (lbOf as_clus_replace bs_clus_replace x) [], []⟩).elim (kRet 40 pout_clus_replace (kpL []) (lbOf as_clus_replace bs_clus_replace x))
def out_clus_replace (y : List ((List Int) × Int)) : V × List OK × List OK := (valW (.list (.agg (.pair (.list (.int .i64)) (.int .i64)))) y, [], [])
noncomputable def V_clus_replace (w_clus_Of : (List (List Int)) × List Int → Option ((List Int) × Int)) (N : Nat) (x : (List (List Int)) × (List ((List Int) × Int)) × Int × Int × List ((List Int) × Int)) : Option (List ((List Int) × Int)) :=
  obind (loopN N (fun (v : Int × List (List Int × Int)) => cnd (decide (v.1 < (↑(List.length x.2.1) : Int))) (cnd (decide ((0:Int) ≤ v.1) && decide (v.1
    < (↑(List.length x.2.1) : Int))) (cnd (decide (v.1 = x.2.2.1)) (cnd (decide ((List.length v.2 + List.length x.2.2.2.2) * (32:Nat) ≤
    (140737488355328:Nat))) (some (Sum.inl (wr .i64 (v.1 + (1:Int)), v.2 ++ x.2.2.2.2))) none) (cnd (decide (v.1 = x.2.2.2.1)) (some (Sum.inl (wr .i64
    (v.1 + (1:Int)), v.2))) (obind (w_clus_Of (x.1, Prod.fst (List.getD x.2.1 (Int.toNat v.1) ([], (0:Int))))) fun b => cnd (decide ((List.length v.2
    + List.length [b]) * (32:Nat) ≤ (140737488355328:Nat))) (some (Sum.inl (wr .i64 (v.1 + (1:Int)), v.2 ++ [b]))) none))) none) (some (Sum.inr v.2)))
    ((0:Int), [])) fun (b : List (List Int × Int)) => some b
theorem FV_clus_replace_eq (w_clus_Of : (List (List Int)) × List Int → Option ((List Int) × Int)) (N : Nat) (x : (List (List Int)) × (List ((List Int) × Int)) × Int × Int × List ((List Int) × Int)) : F_clus_replace w_clus_Of N x = V_clus_replace w_clus_Of N x := by kernel_rfl
noncomputable def W_clus_replace (N : Nat) (x : (List (List Int)) × (List ((List Int) × Int)) × Int × Int × List ((List Int) × Int)) : Option (List ((List Int) × Int)) := V_clus_replace (W_clus_Of N) N x
theorem F_clus_replace_eq (N : Nat) (x : (List (List Int)) × (List ((List Int) × Int)) × Int × Int × List ((List Int) × Int)) : F_clus_replace (W_clus_Of N) N x = W_clus_replace N x := (FV_clus_replace_eq (W_clus_Of N) N x).trans (by kernel_rfl)
noncomputable def conw_clus_replace (w : (List (List Int)) × (List ((List Int) × Int)) × Int × Int × List ((List Int) × Int) → Option (List ((List Int) × Int))) : Con := ⟨40, as_clus_replace, bs_clus_replace, List ((List Int) × Int), w, out_clus_replace⟩
noncomputable def con_clus_replace (N : Nat) : Con := conw_clus_replace (W_clus_replace N)
theorem R_clus_replace_eq (x : (List (List Int)) × (List ((List Int) × Int)) × Int × Int × List ((List Int) × Int)) (y : List ((List Int) × Int)) : retOf2 P0 Try.f40 (kpL []) (lbOf as_clus_replace bs_clus_replace x) (patS ⟨40, [], [], []⟩ pout_clus_replace y) = some (out_clus_replace y) := by kernel_rfl
theorem con_clus_replace_ok (N : Nat) : Con.ok P0 (con_clus_replace N) := ⟨⟨Try.f40, Try.func40, by kernel_rfl, by kernel_rfl⟩, fun (x : (List (List Int)) × (List ((List Int) × Int)) × Int × Int × List ((List Int) × Int)) (r : List ((List Int) × Int)) (hr : W_clus_replace N x = some r) =>
  spec2_evT (Γ := G_clus_replace (W_clus_Of N) N) (Λ := L0) (pout := pout_clus_replace) (kp := kpL []) mixed (orcOf_ok _ (by simp only [List.mem_cons, List.not_mem_nil, or_false, forall_eq_or_imp, forall_eq]; exact con_clus_Of_ok N)) Try.func40 (c := bodyOf Try.f40) (by kernel_rfl) (by kernel_rfl) (of_decide_eq_true (by kernel_rfl)) ((F_clus_replace_eq N x).trans hr) (R_clus_replace_eq x r)⟩
def as_clus_Join : List AS := [.val (.list (.list (.int .i64))), .val (.list (.agg (.pair (.list (.int .i64)) (.int .i64)))), .val (.int .i64), .val (.int .i64), .val (.int .i64)]
def bs_clus_Join : List BS := []
def pout_clus_Join : Pat := ⟨[(10, .val (.list (.agg (.pair (.list (.int .i64)) (.int .i64)))))], []⟩
noncomputable def G_clus_Join (w_clus_Of : (List (List Int)) × List Int → Option ((List Int) × Int)) (w_clus_find : (List ((List Int) × Int)) × Int → Option (Int ⊕ Unit)) (w_twin_Clusters : List ((List Int) × Int) → Option (List ((List Int) × Int))) (w_clus_with : (List Int) × List Int → Option (List Int)) (w_clus_fitted : (List (List Int)) × (List Int) × Int → Option (List ((List Int) × Int))) (w_clus_replace : (List (List Int)) × (List ((List Int) × Int)) × Int × Int × List ((List Int) × Int) → Option (List ((List Int) × Int))) (N : Nat) : OrcT := orcOf [conw_clus_Of w_clus_Of, conw_clus_find w_clus_find, conw_twin_Clusters w_twin_Clusters, conw_clus_with w_clus_with, conw_clus_fitted w_clus_fitted, conw_clus_replace w_clus_replace]
noncomputable def F_clus_Join (w_clus_Of : (List (List Int)) × List Int → Option ((List Int) × Int)) (w_clus_find : (List ((List Int) × Int)) × Int → Option (Int ⊕ Unit)) (w_twin_Clusters : List ((List Int) × Int) → Option (List ((List Int) × Int))) (w_clus_with : (List Int) × List Int → Option (List Int)) (w_clus_fitted : (List (List Int)) × (List Int) × Int → Option (List ((List Int) × Int))) (w_clus_replace : (List (List Int)) × (List ((List Int) × Int)) × Int × Int × List ((List Int) × Int) → Option (List ((List Int) × Int))) (N : Nat) (x : (List (List Int)) × (List ((List Int) × Int)) × Int × Int × Int) : Option (List ((List Int) × Int)) :=
  (evT (G_clus_Join w_clus_Of w_clus_find w_twin_Clusters w_clus_with w_clus_fitted w_clus_replace N) L0 P0 []
    [(1000004, .reg [(5, [], ⟨[(32, .val .bool)], []⟩)])] N 400 (bodyOf Try.f19) ⟨57, slots 0 (argsOf as_clus_Join bs_clus_Join x), tabU (lbOf as_clus_Join bs_clus_Join x) [], []⟩).elim (kRet 57 pout_clus_Join (kpL []) (lbOf as_clus_Join bs_clus_Join x))
def out_clus_Join (y : List ((List Int) × Int)) : V × List OK × List OK := (valW (.list (.agg (.pair (.list (.int .i64)) (.int .i64)))) y, [], [])
noncomputable def V_clus_Join (w_clus_Of : (List (List Int)) × List Int → Option ((List Int) × Int)) (w_clus_find : (List ((List Int) × Int)) × Int → Option (Int ⊕ Unit)) (w_twin_Clusters : List ((List Int) × Int) → Option (List ((List Int) × Int))) (w_clus_with : (List Int) × List Int → Option (List Int)) (w_clus_fitted : (List (List Int)) × (List Int) × Int → Option (List ((List Int) × Int))) (w_clus_replace : (List (List Int)) × (List ((List Int) × Int)) × Int × Int × List ((List Int) × Int) → Option (List ((List Int) × Int))) (N : Nat) (x : (List (List Int)) × (List ((List Int) × Int)) × Int × Int × Int) : Option (List ((List Int) × Int)) :=
  cnd (decide ((↑(List.length x.2.1) : Int) = (0:Int))) (obind (w_clus_Of (x.1, [x.2.2.2.1])) fun b => some [b]) (obind (w_clus_find (x.2.1,
    x.2.2.2.1)) fun b => selim (fun (b : Int) => obind (w_twin_Clusters x.2.1) fun b => some b) (fun (c : PUnit) => cnd (decide (x.2.2.1 < (0:Int)))
    (obind (w_twin_Clusters x.2.1) fun b => some b) (cnd (decide ((↑(List.length x.2.1) : Int) ≤ x.2.2.1)) (obind (w_twin_Clusters x.2.1) fun b =>
    some b) (cnd (decide ((0:Int) ≤ x.2.2.1) && decide (x.2.2.1 < (↑(List.length x.2.1) : Int))) (obind (w_clus_with (Prod.fst (List.getD x.2.1
    (Int.toNat x.2.2.1) ([], (0:Int))), [x.2.2.2.1])) fun b => obind (w_clus_fitted (x.1, b, x.2.2.2.2)) fun b => obind (w_clus_replace (x.1, x.2.1,
    x.2.2.1, x.2.2.1, b)) fun b => some b) none))) b)
theorem FV_clus_Join_eq (w_clus_Of : (List (List Int)) × List Int → Option ((List Int) × Int)) (w_clus_find : (List ((List Int) × Int)) × Int → Option (Int ⊕ Unit)) (w_twin_Clusters : List ((List Int) × Int) → Option (List ((List Int) × Int))) (w_clus_with : (List Int) × List Int → Option (List Int)) (w_clus_fitted : (List (List Int)) × (List Int) × Int → Option (List ((List Int) × Int))) (w_clus_replace : (List (List Int)) × (List ((List Int) × Int)) × Int × Int × List ((List Int) × Int) → Option (List ((List Int) × Int))) (N : Nat) (x : (List (List Int)) × (List ((List Int) × Int)) × Int × Int × Int) : F_clus_Join w_clus_Of w_clus_find w_twin_Clusters w_clus_with w_clus_fitted w_clus_replace N x = V_clus_Join w_clus_Of w_clus_find w_twin_Clusters w_clus_with w_clus_fitted w_clus_replace N x := by kernel_rfl
noncomputable def W_clus_Join (N : Nat) (x : (List (List Int)) × (List ((List Int) × Int)) × Int × Int × Int) : Option (List ((List Int) × Int)) := V_clus_Join (W_clus_Of N) (W_clus_find N) (W_twin_Clusters N) (W_clus_with N) (W_clus_fitted N) (W_clus_replace N) N x
theorem F_clus_Join_eq (N : Nat) (x : (List (List Int)) × (List ((List Int) × Int)) × Int × Int × Int) : F_clus_Join (W_clus_Of N) (W_clus_find N) (W_twin_Clusters N) (W_clus_with N) (W_clus_fitted N) (W_clus_replace N) N x = W_clus_Join N x := (FV_clus_Join_eq (W_clus_Of N) (W_clus_find N) (W_twin_Clusters N) (W_clus_with N) (W_clus_fitted N) (W_clus_replace N) N x).trans (by kernel_rfl)
noncomputable def conw_clus_Join (w : (List (List Int)) × (List ((List Int) × Int)) × Int × Int × Int → Option (List ((List Int) × Int))) : Con := ⟨19, as_clus_Join, bs_clus_Join, List ((List Int) × Int), w, out_clus_Join⟩
noncomputable def con_clus_Join (N : Nat) : Con := conw_clus_Join (W_clus_Join N)
theorem R_clus_Join_eq (x : (List (List Int)) × (List ((List Int) × Int)) × Int × Int × Int) (y : List ((List Int) × Int)) : retOf2 P0 Try.f19 (kpL []) (lbOf as_clus_Join bs_clus_Join x) (patS ⟨57, [], [], []⟩ pout_clus_Join y) = some (out_clus_Join y) := by kernel_rfl
theorem con_clus_Join_ok (N : Nat) : Con.ok P0 (con_clus_Join N) := ⟨⟨Try.f19, Try.func19, by kernel_rfl, by kernel_rfl⟩, fun (x : (List (List Int)) × (List ((List Int) × Int)) × Int × Int × Int) (r : List ((List Int) × Int)) (hr : W_clus_Join N x = some r) =>
  spec2_evT (Γ := G_clus_Join (W_clus_Of N) (W_clus_find N) (W_twin_Clusters N) (W_clus_with N) (W_clus_fitted N) (W_clus_replace N) N) (Λ := L0) (pout := pout_clus_Join) (kp := kpL []) mixed (orcOf_ok _ (by simp only [List.mem_cons, List.not_mem_nil, or_false, forall_eq_or_imp, forall_eq]; exact ⟨con_clus_Of_ok N, con_clus_find_ok N, con_twin_Clusters_ok N, con_clus_with_ok N, con_clus_fitted_ok N, con_clus_replace_ok N⟩)) Try.func19 (c := bodyOf Try.f19) (by kernel_rfl) (by kernel_rfl) (of_decide_eq_true (by kernel_rfl)) ((F_clus_Join_eq N x).trans hr) (R_clus_Join_eq x r)⟩
def as_clus_nearest : List AS := [.val (.list (.list (.int .i64))), .val (.list (.agg (.pair (.list (.int .i64)) (.int .i64)))), .val (.int .i64), .val (.int .i64)]
def bs_clus_nearest : List BS := []
def pout_clus_nearest : Pat := ⟨[(8, .val (.alt 62 (.agg (.int .i64)) (.alt1 75 (.agg .unit))))], []⟩
noncomputable def G_clus_nearest (w_mid_Near : (List (List Int)) × Int × List Int → Option (Int)) (N : Nat) : OrcT := orcOf [conw_mid_Near w_mid_Near]
noncomputable def F_clus_nearest (w_mid_Near : (List (List Int)) × Int × List Int → Option (Int)) (N : Nat) (x : (List (List Int)) × (List ((List Int) × Int)) × Int × Int) : Option (Int ⊕ Unit) :=
  (evT (G_clus_nearest w_mid_Near N) L0 P0 [(3, .loop [15] ⟨[(9, .acc 700009), (17, .val (.int .i64))], [(700009, .nrow 3 (.int .i64) true true)]⟩ [(.exit 0, ⟨[(9, .val (.list (.int .i64)))], []⟩)]),
    (10, .loop [35] ⟨[(37, .val (.int .i64))], []⟩ [(.exit 2, ⟨[], []⟩), (.ret, ⟨[(8, .val (.alt 62 (.agg (.int .i64)) (.alt1 75 (.agg .unit))))], []⟩)])]
    [] N 400 (bodyOf Try.f43) ⟨57, slots 0 (argsOf as_clus_nearest bs_clus_nearest x), tabU (lbOf as_clus_nearest bs_clus_nearest x) [], []⟩).elim (kRet 57 pout_clus_nearest (kpL []) (lbOf as_clus_nearest bs_clus_nearest x))
def out_clus_nearest (y : Int ⊕ Unit) : V × List OK × List OK := (valW (.alt 62 (.agg (.int .i64)) (.alt1 75 (.agg .unit))) y, [], [])
noncomputable def V_clus_nearest (w_mid_Near : (List (List Int)) × Int × List Int → Option (Int)) (N : Nat) (x : (List (List Int)) × (List ((List Int) × Int)) × Int × Int) : Option (Int ⊕ Unit) :=
  obind (loopN N (fun (v : Int × List Int) => cnd (decide (v.1 < (↑(List.length x.2.1) : Int))) (cnd (decide ((0:Int) ≤ v.1) && decide (v.1 <
    (↑(List.length x.2.1) : Int))) (cnd (decide (v.1 ≠ x.2.2.1)) (cnd (decide ((List.length v.2 + (1:Nat)) * (8:Nat) ≤ (140737488355328:Nat))) (some
    (Sum.inl (wr .i64 (v.1 + (1:Int)), v.2 ++ [Prod.snd (List.getD x.2.1 (Int.toNat v.1) ([], (0:Int)))]))) none) (some (Sum.inl (wr .i64 (v.1 +
    (1:Int)), v.2)))) none) (some (Sum.inr v.2))) ((0:Int), [])) fun (b : List Int) => obind (w_mid_Near (x.1, x.2.2.2, b)) fun b => obind (loopN N
    (fun (v : Int) => cnd (decide (v < (↑(List.length x.2.1) : Int))) (cnd (decide ((0:Int) ≤ v) && decide (v < (↑(List.length x.2.1) : Int))) (cnd
    (decide (v ≠ x.2.2.1)) (cnd (decide (Prod.snd (List.getD x.2.1 (Int.toNat v) ([], (0:Int))) = b)) (some (Sum.inr (Sum.inr (Sum.inl v)))) (some
    (Sum.inl (wr .i64 (v + (1:Int)))))) (some (Sum.inl (wr .i64 (v + (1:Int)))))) none) (some (Sum.inr (Sum.inl ())))) (Int.ofNat (0:Nat))) fun (b :
    PUnit ⊕ Int ⊕ PUnit) => selim (fun (b : PUnit) => some (Sum.inr ())) (fun (c : Int ⊕ PUnit) => some c) b
theorem FV_clus_nearest_eq (w_mid_Near : (List (List Int)) × Int × List Int → Option (Int)) (N : Nat) (x : (List (List Int)) × (List ((List Int) × Int)) × Int × Int) : F_clus_nearest w_mid_Near N x = V_clus_nearest w_mid_Near N x := by kernel_rfl
noncomputable def W_clus_nearest (N : Nat) (x : (List (List Int)) × (List ((List Int) × Int)) × Int × Int) : Option (Int ⊕ Unit) := V_clus_nearest (W_mid_Near N) N x
theorem F_clus_nearest_eq (N : Nat) (x : (List (List Int)) × (List ((List Int) × Int)) × Int × Int) : F_clus_nearest (W_mid_Near N) N x = W_clus_nearest N x := (FV_clus_nearest_eq (W_mid_Near N) N x).trans (by kernel_rfl)
noncomputable def conw_clus_nearest (w : (List (List Int)) × (List ((List Int) × Int)) × Int × Int → Option (Int ⊕ Unit)) : Con := ⟨43, as_clus_nearest, bs_clus_nearest, Int ⊕ Unit, w, out_clus_nearest⟩
noncomputable def con_clus_nearest (N : Nat) : Con := conw_clus_nearest (W_clus_nearest N)
theorem R_clus_nearest_eq (x : (List (List Int)) × (List ((List Int) × Int)) × Int × Int) (y : Int ⊕ Unit) : retOf2 P0 Try.f43 (kpL []) (lbOf as_clus_nearest bs_clus_nearest x) (patS ⟨57, [], [], []⟩ pout_clus_nearest y) = some (out_clus_nearest y) := by kernel_rfl
theorem con_clus_nearest_ok (N : Nat) : Con.ok P0 (con_clus_nearest N) := ⟨⟨Try.f43, Try.func43, by kernel_rfl, by kernel_rfl⟩, fun (x : (List (List Int)) × (List ((List Int) × Int)) × Int × Int) (r : Int ⊕ Unit) (hr : W_clus_nearest N x = some r) =>
  spec2_evT (Γ := G_clus_nearest (W_mid_Near N) N) (Λ := L0) (pout := pout_clus_nearest) (kp := kpL []) mixed (orcOf_ok _ (by simp only [List.mem_cons, List.not_mem_nil, or_false, forall_eq_or_imp, forall_eq]; exact con_mid_Near_ok N)) Try.func43 (c := bodyOf Try.f43) (by kernel_rfl) (by kernel_rfl) (of_decide_eq_true (by kernel_rfl)) ((F_clus_nearest_eq N x).trans hr) (R_clus_nearest_eq x r)⟩
def as_clus_Leave : List AS := [.val (.list (.list (.int .i64))), .val (.list (.agg (.pair (.list (.int .i64)) (.int .i64)))), .val (.int .i64), .val (.int .i64)]
def bs_clus_Leave : List BS := []
def pout_clus_Leave : Pat := ⟨[(8, .val (.list (.agg (.pair (.list (.int .i64)) (.int .i64)))))], []⟩
noncomputable def G_clus_Leave (w_clus_find : (List ((List Int) × Int)) × Int → Option (Int ⊕ Unit)) (w_twin_Clusters : List ((List Int) × Int) → Option (List ((List Int) × Int))) (w_clus_without : (List Int) × Int → Option (List Int)) (w_clus_replace : (List (List Int)) × (List ((List Int) × Int)) × Int × Int × List ((List Int) × Int) → Option (List ((List Int) × Int))) (w_mid_Mid : (List (List Int)) × List Int → Option (Int)) (w_clus_nearest : (List (List Int)) × (List ((List Int) × Int)) × Int × Int → Option (Int ⊕ Unit)) (w_clus_Of : (List (List Int)) × List Int → Option ((List Int) × Int)) (w_clus_with : (List Int) × List Int → Option (List Int)) (w_clus_fitted : (List (List Int)) × (List Int) × Int → Option (List ((List Int) × Int))) (N : Nat) : OrcT := orcOf [conw_clus_find w_clus_find, conw_twin_Clusters w_twin_Clusters, conw_clus_without w_clus_without, conw_clus_replace w_clus_replace, conw_mid_Mid w_mid_Mid, conw_clus_nearest w_clus_nearest, conw_clus_Of w_clus_Of, conw_clus_with w_clus_with, conw_clus_fitted w_clus_fitted]
noncomputable def F_clus_Leave (w_clus_find : (List ((List Int) × Int)) × Int → Option (Int ⊕ Unit)) (w_twin_Clusters : List ((List Int) × Int) → Option (List ((List Int) × Int))) (w_clus_without : (List Int) × Int → Option (List Int)) (w_clus_replace : (List (List Int)) × (List ((List Int) × Int)) × Int × Int × List ((List Int) × Int) → Option (List ((List Int) × Int))) (w_mid_Mid : (List (List Int)) × List Int → Option (Int)) (w_clus_nearest : (List (List Int)) × (List ((List Int) × Int)) × Int × Int → Option (Int ⊕ Unit)) (w_clus_Of : (List (List Int)) × List Int → Option ((List Int) × Int)) (w_clus_with : (List Int) × List Int → Option (List Int)) (w_clus_fitted : (List (List Int)) × (List Int) × Int → Option (List ((List Int) × Int))) (N : Nat) (x : (List (List Int)) × (List ((List Int) × Int)) × Int × Int) : Option (List ((List Int) × Int)) :=
  (evT (G_clus_Leave w_clus_find w_twin_Clusters w_clus_without w_clus_replace w_mid_Mid w_clus_nearest w_clus_Of w_clus_with w_clus_fitted N) L0 P0 []
    [] N 400 (bodyOf Try.f21) ⟨91, slots 0 (argsOf as_clus_Leave bs_clus_Leave x), tabU (lbOf as_clus_Leave bs_clus_Leave x) [], []⟩).elim (kRet 91 pout_clus_Leave (kpL []) (lbOf as_clus_Leave bs_clus_Leave x))
def out_clus_Leave (y : List ((List Int) × Int)) : V × List OK × List OK := (valW (.list (.agg (.pair (.list (.int .i64)) (.int .i64)))) y, [], [])
noncomputable def V_clus_Leave (w_clus_find : (List ((List Int) × Int)) × Int → Option (Int ⊕ Unit)) (w_twin_Clusters : List ((List Int) × Int) → Option (List ((List Int) × Int))) (w_clus_without : (List Int) × Int → Option (List Int)) (w_clus_replace : (List (List Int)) × (List ((List Int) × Int)) × Int × Int × List ((List Int) × Int) → Option (List ((List Int) × Int))) (w_mid_Mid : (List (List Int)) × List Int → Option (Int)) (w_clus_nearest : (List (List Int)) × (List ((List Int) × Int)) × Int × Int → Option (Int ⊕ Unit)) (w_clus_Of : (List (List Int)) × List Int → Option ((List Int) × Int)) (w_clus_with : (List Int) × List Int → Option (List Int)) (w_clus_fitted : (List (List Int)) × (List Int) × Int → Option (List ((List Int) × Int))) (N : Nat) (x : (List (List Int)) × (List ((List Int) × Int)) × Int × Int) : Option (List ((List Int) × Int)) :=
  obind (w_clus_find (x.2.1, x.2.2.1)) fun b => selim (fun (b : Int) => cnd (decide ((0:Int) ≤ b) && decide (b < (↑(List.length x.2.1) : Int))) (obind
    (w_clus_without (Prod.fst (List.getD x.2.1 (Int.toNat b) ([], (0:Int))), x.2.2.1)) fun b_1 => cnd (decide ((↑(List.length b_1) : Int) = (0:Int)))
    (obind (w_clus_replace (x.1, x.2.1, b, b, [])) fun b => some b) (obind (w_mid_Mid (x.1, b_1)) fun b_2 => obind (w_clus_nearest (x.1, x.2.1, b,
    b_2)) fun b_3 => selim (fun (b_4 : Int) => cnd (decide (x.2.2.2 ≤ (↑(List.length b_1) : Int))) (obind (w_clus_Of (x.1, b_1)) fun b_5 => obind
    (w_clus_replace (x.1, x.2.1, b, b, [b_5])) fun b => some b) (cnd (decide ((0:Int) ≤ b_4) && decide (b_4 < (↑(List.length x.2.1) : Int))) (obind
    (w_clus_with (b_1, Prod.fst (List.getD x.2.1 (Int.toNat b_4) ([], (0:Int))))) fun b_5 => obind (w_clus_fitted (x.1, b_5, x.2.2.2)) fun b_6 =>
    obind (w_clus_replace (x.1, x.2.1, b, b_4, b_6)) fun b => some b) none)) (fun (c : PUnit) => cnd (decide (x.2.2.2 ≤ (↑(List.length b_1) : Int)))
    (obind (w_clus_Of (x.1, b_1)) fun b_4 => obind (w_clus_replace (x.1, x.2.1, b, b, [b_4])) fun b => some b) (obind (w_clus_Of (x.1, b_1)) fun
    b_4 => obind (w_clus_replace (x.1, x.2.1, b, b, [b_4])) fun b => some b)) b_3)) none) (fun (c : PUnit) => obind (w_twin_Clusters x.2.1) fun b =>
    some b) b
theorem FV_clus_Leave_eq (w_clus_find : (List ((List Int) × Int)) × Int → Option (Int ⊕ Unit)) (w_twin_Clusters : List ((List Int) × Int) → Option (List ((List Int) × Int))) (w_clus_without : (List Int) × Int → Option (List Int)) (w_clus_replace : (List (List Int)) × (List ((List Int) × Int)) × Int × Int × List ((List Int) × Int) → Option (List ((List Int) × Int))) (w_mid_Mid : (List (List Int)) × List Int → Option (Int)) (w_clus_nearest : (List (List Int)) × (List ((List Int) × Int)) × Int × Int → Option (Int ⊕ Unit)) (w_clus_Of : (List (List Int)) × List Int → Option ((List Int) × Int)) (w_clus_with : (List Int) × List Int → Option (List Int)) (w_clus_fitted : (List (List Int)) × (List Int) × Int → Option (List ((List Int) × Int))) (N : Nat) (x : (List (List Int)) × (List ((List Int) × Int)) × Int × Int) : F_clus_Leave w_clus_find w_twin_Clusters w_clus_without w_clus_replace w_mid_Mid w_clus_nearest w_clus_Of w_clus_with w_clus_fitted N x = V_clus_Leave w_clus_find w_twin_Clusters w_clus_without w_clus_replace w_mid_Mid w_clus_nearest w_clus_Of w_clus_with w_clus_fitted N x := by kernel_rfl
noncomputable def W_clus_Leave (N : Nat) (x : (List (List Int)) × (List ((List Int) × Int)) × Int × Int) : Option (List ((List Int) × Int)) := V_clus_Leave (W_clus_find N) (W_twin_Clusters N) (W_clus_without N) (W_clus_replace N) (W_mid_Mid N) (W_clus_nearest N) (W_clus_Of N) (W_clus_with N) (W_clus_fitted N) N x
theorem F_clus_Leave_eq (N : Nat) (x : (List (List Int)) × (List ((List Int) × Int)) × Int × Int) : F_clus_Leave (W_clus_find N) (W_twin_Clusters N) (W_clus_without N) (W_clus_replace N) (W_mid_Mid N) (W_clus_nearest N) (W_clus_Of N) (W_clus_with N) (W_clus_fitted N) N x = W_clus_Leave N x := (FV_clus_Leave_eq (W_clus_find N) (W_twin_Clusters N) (W_clus_without N) (W_clus_replace N) (W_mid_Mid N) (W_clus_nearest N) (W_clus_Of N) (W_clus_with N) (W_clus_fitted N) N x).trans (by kernel_rfl)
noncomputable def conw_clus_Leave (w : (List (List Int)) × (List ((List Int) × Int)) × Int × Int → Option (List ((List Int) × Int))) : Con := ⟨21, as_clus_Leave, bs_clus_Leave, List ((List Int) × Int), w, out_clus_Leave⟩
noncomputable def con_clus_Leave (N : Nat) : Con := conw_clus_Leave (W_clus_Leave N)
theorem R_clus_Leave_eq (x : (List (List Int)) × (List ((List Int) × Int)) × Int × Int) (y : List ((List Int) × Int)) : retOf2 P0 Try.f21 (kpL []) (lbOf as_clus_Leave bs_clus_Leave x) (patS ⟨91, [], [], []⟩ pout_clus_Leave y) = some (out_clus_Leave y) := by kernel_rfl
theorem con_clus_Leave_ok (N : Nat) : Con.ok P0 (con_clus_Leave N) := ⟨⟨Try.f21, Try.func21, by kernel_rfl, by kernel_rfl⟩, fun (x : (List (List Int)) × (List ((List Int) × Int)) × Int × Int) (r : List ((List Int) × Int)) (hr : W_clus_Leave N x = some r) =>
  spec2_evT (Γ := G_clus_Leave (W_clus_find N) (W_twin_Clusters N) (W_clus_without N) (W_clus_replace N) (W_mid_Mid N) (W_clus_nearest N) (W_clus_Of N) (W_clus_with N) (W_clus_fitted N) N) (Λ := L0) (pout := pout_clus_Leave) (kp := kpL []) mixed (orcOf_ok _ (by simp only [List.mem_cons, List.not_mem_nil, or_false, forall_eq_or_imp, forall_eq]; exact ⟨con_clus_find_ok N, con_twin_Clusters_ok N, con_clus_without_ok N, con_clus_replace_ok N, con_mid_Mid_ok N, con_clus_nearest_ok N, con_clus_Of_ok N, con_clus_with_ok N, con_clus_fitted_ok N⟩)) Try.func21 (c := bodyOf Try.f21) (by kernel_rfl) (by kernel_rfl) (of_decide_eq_true (by kernel_rfl)) ((F_clus_Leave_eq N x).trans hr) (R_clus_Leave_eq x r)⟩
def as_law8_begun : List AS := []
def bs_law8_begun : List BS := []
def pout_law8_begun : Pat := ⟨[(0, .val .bool)], []⟩
noncomputable def G_law8_begun (w_Made : List Int → Option ((List Int) × Int)) (w_Picks_Dist : (List Int) × Int → Option ((List (List Int)) × (List Int) × Int)) (w_clus_Split : (List (List Int)) × (List Int) × Int → Option ((List Int) × List Int)) (w_clus_Group : (List (List Int)) × (List Int) × Int → Option (List ((List Int) × Int))) (w_clus_Join : (List (List Int)) × (List ((List Int) × Int)) × Int × Int × Int → Option (List ((List Int) × Int))) (w_clus_Leave : (List (List Int)) × (List ((List Int) × Int)) × Int × Int → Option (List ((List Int) × Int))) (w_clus_Of : (List (List Int)) × List Int → Option ((List Int) × Int)) (N : Nat) : OrcT := orcOf [conw_Made w_Made, conw_Picks_Dist w_Picks_Dist, conw_clus_Split w_clus_Split, conw_clus_Group w_clus_Group, conw_clus_Join w_clus_Join, conw_clus_Leave w_clus_Leave, conw_clus_Of w_clus_Of]
noncomputable def F_law8_begun (w_Made : List Int → Option ((List Int) × Int)) (w_Picks_Dist : (List Int) × Int → Option ((List (List Int)) × (List Int) × Int)) (w_clus_Split : (List (List Int)) × (List Int) × Int → Option ((List Int) × List Int)) (w_clus_Group : (List (List Int)) × (List Int) × Int → Option (List ((List Int) × Int))) (w_clus_Join : (List (List Int)) × (List ((List Int) × Int)) × Int × Int × Int → Option (List ((List Int) × Int))) (w_clus_Leave : (List (List Int)) × (List ((List Int) × Int)) × Int × Int → Option (List ((List Int) × Int))) (w_clus_Of : (List (List Int)) × List Int → Option ((List Int) × Int)) (N : Nat) (x : Unit) : Option (Bool) :=
  (evT (G_law8_begun w_Made w_Picks_Dist w_clus_Split w_clus_Group w_clus_Join w_clus_Leave w_clus_Of N) L0 P0 []
    [(1000006, .reg [(8, [1, 4, 5, 6], ⟨[(30, .val .bool)], []⟩), (5, [1, 5, 6], ⟨[(35, .val .bool)], []⟩), (5, [1, 5, 6], ⟨[(40, .val .bool)], []⟩), (7, [1, 6], ⟨[(47, .val .bool)], []⟩), (5, [1], ⟨[(52, .val .bool)], []⟩)])] N 400 (bodyOf Try.f7) ⟨60, slots 0 (argsOf as_law8_begun bs_law8_begun x), tabU (lbOf as_law8_begun bs_law8_begun x) [], []⟩).elim (kRet 60 pout_law8_begun (kpL []) (lbOf as_law8_begun bs_law8_begun x))
def out_law8_begun (y : Bool) : V × List OK × List OK := (valW .bool y, [], [])
noncomputable def V_law8_begun (w_Made : List Int → Option ((List Int) × Int)) (w_Picks_Dist : (List Int) × Int → Option ((List (List Int)) × (List Int) × Int)) (w_clus_Split : (List (List Int)) × (List Int) × Int → Option ((List Int) × List Int)) (w_clus_Group : (List (List Int)) × (List Int) × Int → Option (List ((List Int) × Int))) (w_clus_Join : (List (List Int)) × (List ((List Int) × Int)) × Int × Int × Int → Option (List ((List Int) × Int))) (w_clus_Leave : (List (List Int)) × (List ((List Int) × Int)) × Int × Int → Option (List ((List Int) × Int))) (w_clus_Of : (List (List Int)) × List Int → Option ((List Int) × Int)) (N : Nat) (x : Unit) : Option (Bool) :=
  obind (w_Made []) fun b => obind (w_Picks_Dist b) fun b => obind (w_clus_Split (b.1, [(1:Int), (2:Int), (3:Int)], (1:Int))) fun b_1 => obind
    (w_clus_Group (b.1, [(1:Int), (2:Int), (3:Int)], (1:Int))) fun b_2 => obind (w_clus_Join (b.1, [], (0:Int), (5:Int), (2:Int))) fun b_3 => obind
    (w_clus_Leave (b.1, b_3, (5:Int), (2:Int))) fun b_4 => obind (cnd (decide ((↑(List.length b_1.1) : Int) = (2:Int))) (some (decide ((↑(List.length
    b_1.2) : Int) = (1:Int)))) (some false)) fun (b_5 : Bool) => obind (cnd b_5 (some (decide ((↑(List.length b_2) : Int) = (2:Int)))) (some false)) fun
    (b_6 : Bool) => obind (cnd b_6 (some (decide ((↑(List.length b_3) : Int) = (1:Int)))) (some false)) fun (b_7 : Bool) => obind (cnd b_7 (cnd (decide
    ((0:Int) ≤ (0:Int)) && decide ((0:Int) < (↑(List.length b_3) : Int))) (some (decide (Prod.snd (List.getD b_3 (0:Nat) ([], (0:Int))) = (5:Int))))
    none) (some false)) fun (b_8 : Bool) => obind (cnd b_8 (some (decide ((↑(List.length b_4) : Int) = (0:Int)))) (some false)) fun (b_9 : Bool) => cnd
    b_9 (obind (w_clus_Of (b.1, [(4:Int)])) fun b => some (decide (b.2 = (4:Int)))) (some false)
theorem FV_law8_begun_eq (w_Made : List Int → Option ((List Int) × Int)) (w_Picks_Dist : (List Int) × Int → Option ((List (List Int)) × (List Int) × Int)) (w_clus_Split : (List (List Int)) × (List Int) × Int → Option ((List Int) × List Int)) (w_clus_Group : (List (List Int)) × (List Int) × Int → Option (List ((List Int) × Int))) (w_clus_Join : (List (List Int)) × (List ((List Int) × Int)) × Int × Int × Int → Option (List ((List Int) × Int))) (w_clus_Leave : (List (List Int)) × (List ((List Int) × Int)) × Int × Int → Option (List ((List Int) × Int))) (w_clus_Of : (List (List Int)) × List Int → Option ((List Int) × Int)) (N : Nat) (x : Unit) : F_law8_begun w_Made w_Picks_Dist w_clus_Split w_clus_Group w_clus_Join w_clus_Leave w_clus_Of N x = V_law8_begun w_Made w_Picks_Dist w_clus_Split w_clus_Group w_clus_Join w_clus_Leave w_clus_Of N x := by kernel_rfl
noncomputable def W_law8_begun (N : Nat) (x : Unit) : Option (Bool) := V_law8_begun (W_Made N) (W_Picks_Dist N) (W_clus_Split N) (W_clus_Group N) (W_clus_Join N) (W_clus_Leave N) (W_clus_Of N) N x
theorem F_law8_begun_eq (N : Nat) (x : Unit) : F_law8_begun (W_Made N) (W_Picks_Dist N) (W_clus_Split N) (W_clus_Group N) (W_clus_Join N) (W_clus_Leave N) (W_clus_Of N) N x = W_law8_begun N x := (FV_law8_begun_eq (W_Made N) (W_Picks_Dist N) (W_clus_Split N) (W_clus_Group N) (W_clus_Join N) (W_clus_Leave N) (W_clus_Of N) N x).trans (by kernel_rfl)
noncomputable def conw_law8_begun (w : Unit → Option (Bool)) : Con := ⟨7, as_law8_begun, bs_law8_begun, Bool, w, out_law8_begun⟩
noncomputable def con_law8_begun (N : Nat) : Con := conw_law8_begun (W_law8_begun N)
theorem R_law8_begun_eq (x : Unit) (y : Bool) : retOf2 P0 Try.f7 (kpL []) (lbOf as_law8_begun bs_law8_begun x) (patS ⟨60, [], [], []⟩ pout_law8_begun y) = some (out_law8_begun y) := by kernel_rfl
theorem con_law8_begun_ok (N : Nat) : Con.ok P0 (con_law8_begun N) := ⟨⟨Try.f7, Try.func7, by kernel_rfl, by kernel_rfl⟩, fun (x : Unit) (r : Bool) (hr : W_law8_begun N x = some r) =>
  spec2_evT (Γ := G_law8_begun (W_Made N) (W_Picks_Dist N) (W_clus_Split N) (W_clus_Group N) (W_clus_Join N) (W_clus_Leave N) (W_clus_Of N) N) (Λ := L0) (pout := pout_law8_begun) (kp := kpL []) mixed (orcOf_ok _ (by simp only [List.mem_cons, List.not_mem_nil, or_false, forall_eq_or_imp, forall_eq]; exact ⟨con_Made_ok N, con_Picks_Dist_ok N, con_clus_Split_ok N, con_clus_Group_ok N, con_clus_Join_ok N, con_clus_Leave_ok N, con_clus_Of_ok N⟩)) Try.func7 (c := bodyOf Try.f7) (by kernel_rfl) (by kernel_rfl) (of_decide_eq_true (by kernel_rfl)) ((F_law8_begun_eq N x).trans hr) (R_law8_begun_eq x r)⟩
def as_ref1_Has : List AS := [.val (.list (.int .i64)), .val (.int .i64)]
def bs_ref1_Has : List BS := []
def pout_ref1_Has : Pat := ⟨[(4, .val .bool)], []⟩
noncomputable def G_ref1_Has  (N : Nat) : OrcT := orcOf []
noncomputable def F_ref1_Has  (N : Nat) (x : (List Int) × Int) : Option (Bool) :=
  (evT (G_ref1_Has  N) L0 P0 [(2, .loop [] ⟨[(5, .val (.int .i64))], []⟩ [(.exit 0, ⟨[], []⟩), (.ret, ⟨[(4, .val .bool)], []⟩)])]
    [] N 400 (bodyOf Try.f26) ⟨18, slots 0 (argsOf as_ref1_Has bs_ref1_Has x), tabU (lbOf as_ref1_Has bs_ref1_Has x) [], []⟩).elim (kRet 18 pout_ref1_Has (kpL []) (lbOf as_ref1_Has bs_ref1_Has x))
def out_ref1_Has (y : Bool) : V × List OK × List OK := (valW .bool y, [], [])
noncomputable def V_ref1_Has  (N : Nat) (x : (List Int) × Int) : Option (Bool) :=
  obind (loopN N (fun (v : Int) => cnd (decide (v < (↑(List.length x.1) : Int))) (cnd (decide ((0:Int) ≤ v) && decide (v < (↑(List.length x.1) : Int)))
    (cnd (decide (List.getD x.1 (Int.toNat v) (0:Int) = x.2)) (some (Sum.inr (Sum.inr true))) (some (Sum.inl (wr .i64 (v + (1:Int)))))) none) (some
    (Sum.inr (Sum.inl ())))) (Int.ofNat (0:Nat))) fun (b : PUnit ⊕ Bool) => selim (fun (b : PUnit) => some false) (fun (c : Bool) => some c) b
theorem FV_ref1_Has_eq  (N : Nat) (x : (List Int) × Int) : F_ref1_Has  N x = V_ref1_Has  N x := by kernel_rfl
noncomputable def W_ref1_Has (N : Nat) (x : (List Int) × Int) : Option (Bool) := V_ref1_Has  N x
theorem F_ref1_Has_eq (N : Nat) (x : (List Int) × Int) : F_ref1_Has  N x = W_ref1_Has N x := (FV_ref1_Has_eq  N x).trans (by kernel_rfl)
noncomputable def conw_ref1_Has (w : (List Int) × Int → Option (Bool)) : Con := ⟨26, as_ref1_Has, bs_ref1_Has, Bool, w, out_ref1_Has⟩
noncomputable def con_ref1_Has (N : Nat) : Con := conw_ref1_Has (W_ref1_Has N)
theorem R_ref1_Has_eq (x : (List Int) × Int) (y : Bool) : retOf2 P0 Try.f26 (kpL []) (lbOf as_ref1_Has bs_ref1_Has x) (patS ⟨18, [], [], []⟩ pout_ref1_Has y) = some (out_ref1_Has y) := by kernel_rfl
theorem con_ref1_Has_ok (N : Nat) : Con.ok P0 (con_ref1_Has N) := ⟨⟨Try.f26, Try.func26, by kernel_rfl, by kernel_rfl⟩, fun (x : (List Int) × Int) (r : Bool) (hr : W_ref1_Has N x = some r) =>
  spec2_evT (Γ := G_ref1_Has N) (Λ := L0) (pout := pout_ref1_Has) (kp := kpL []) mixed (orcOf_ok [] (by simp)) Try.func26 (c := bodyOf Try.f26) (by kernel_rfl) (by kernel_rfl) (of_decide_eq_true (by kernel_rfl)) ((F_ref1_Has_eq N x).trans hr) (R_ref1_Has_eq x r)⟩
def as_ref7_Far : List AS := [.val (.list (.list (.int .i64))), .val (.int .i64), .val (.list (.int .i64))]
def bs_ref7_Far : List BS := []
def pout_ref7_Far : Pat := ⟨[(6, .val (.int .i64))], []⟩
noncomputable def G_ref7_Far  (N : Nat) : OrcT := orcOf []
noncomputable def F_ref7_Far  (N : Nat) (x : (List (List Int)) × Int × List Int) : Option (Int) :=
  (evT (G_ref7_Far  N) L0 P0 [(3, .loop [] ⟨[(7, .val (.int .i64)), (8, .val (.int .i64))], []⟩ [(.exit 0, ⟨[(7, .val (.int .i64))], []⟩)])]
    [] N 400 (bodyOf Try.f44) ⟨30, slots 0 (argsOf as_ref7_Far bs_ref7_Far x), tabU (lbOf as_ref7_Far bs_ref7_Far x) [], []⟩).elim (kRet 30 pout_ref7_Far (kpL []) (lbOf as_ref7_Far bs_ref7_Far x))
def out_ref7_Far (y : Int) : V × List OK × List OK := (valW (.int .i64) y, [], [])
noncomputable def V_ref7_Far  (N : Nat) (x : (List (List Int)) × Int × List Int) : Option (Int) :=
  obind (loopN N (fun (v : Int × Int) => cnd (decide (v.2 < (↑(List.length x.2.2) : Int))) (cnd (decide ((0:Int) ≤ wr .i64 (x.2.1 - (1:Int))) && decide
    (wr .i64 (x.2.1 - (1:Int)) < (↑(List.length x.1) : Int))) (cnd (decide ((0:Int) ≤ v.2) && decide (v.2 < (↑(List.length x.2.2) : Int))) (cnd (decide
    ((0:Int) ≤ wr .i64 (List.getD x.2.2 (Int.toNat v.2) (0:Int) - (1:Int))) && decide (wr .i64 (List.getD x.2.2 (Int.toNat v.2) (0:Int) - (1:Int)) <
    (↑(List.length (List.getD x.1 (Int.toNat (wr .i64 (x.2.1 - (1:Int)))) [])) : Int))) (some (Sum.inl (max v.1 (List.getD (List.getD x.1 (Int.toNat (wr
    .i64 (x.2.1 - (1:Int)))) []) (Int.toNat (wr .i64 (List.getD x.2.2 (Int.toNat v.2) (0:Int) - (1:Int)))) (0:Int)), wr .i64 (v.2 + (1:Int))))) none)
    none) none) (some (Sum.inr v.1))) ((0:Int), (0:Int))) fun (b : Int) => some b
theorem FV_ref7_Far_eq  (N : Nat) (x : (List (List Int)) × Int × List Int) : F_ref7_Far  N x = V_ref7_Far  N x := by kernel_rfl
noncomputable def W_ref7_Far (N : Nat) (x : (List (List Int)) × Int × List Int) : Option (Int) := V_ref7_Far  N x
theorem F_ref7_Far_eq (N : Nat) (x : (List (List Int)) × Int × List Int) : F_ref7_Far  N x = W_ref7_Far N x := (FV_ref7_Far_eq  N x).trans (by kernel_rfl)
noncomputable def conw_ref7_Far (w : (List (List Int)) × Int × List Int → Option (Int)) : Con := ⟨44, as_ref7_Far, bs_ref7_Far, Int, w, out_ref7_Far⟩
noncomputable def con_ref7_Far (N : Nat) : Con := conw_ref7_Far (W_ref7_Far N)
theorem R_ref7_Far_eq (x : (List (List Int)) × Int × List Int) (y : Int) : retOf2 P0 Try.f44 (kpL []) (lbOf as_ref7_Far bs_ref7_Far x) (patS ⟨30, [], [], []⟩ pout_ref7_Far y) = some (out_ref7_Far y) := by kernel_rfl
theorem con_ref7_Far_ok (N : Nat) : Con.ok P0 (con_ref7_Far N) := ⟨⟨Try.f44, Try.func44, by kernel_rfl, by kernel_rfl⟩, fun (x : (List (List Int)) × Int × List Int) (r : Int) (hr : W_ref7_Far N x = some r) =>
  spec2_evT (Γ := G_ref7_Far N) (Λ := L0) (pout := pout_ref7_Far) (kp := kpL []) mixed (orcOf_ok [] (by simp)) Try.func44 (c := bodyOf Try.f44) (by kernel_rfl) (by kernel_rfl) (of_decide_eq_true (by kernel_rfl)) ((F_ref7_Far_eq N x).trans hr) (R_ref7_Far_eq x r)⟩
def as_ref7_Mid : List AS := [.val (.list (.list (.int .i64))), .val (.list (.int .i64))]
def bs_ref7_Mid : List BS := []
def pout_ref7_Mid : Pat := ⟨[(4, .val (.int .i64))], []⟩
noncomputable def G_ref7_Mid (w_ref1_Has : (List Int) × Int → Option (Bool)) (w_ref7_Far : (List (List Int)) × Int × List Int → Option (Int)) (N : Nat) : OrcT := orcOf [conw_ref1_Has w_ref1_Has, conw_ref7_Far w_ref7_Far]
noncomputable def F_ref7_Mid (w_ref1_Has : (List Int) × Int → Option (Bool)) (w_ref7_Far : (List (List Int)) × Int × List Int → Option (Int)) (N : Nat) (x : (List (List Int)) × List Int) : Option (Int) :=
  (evT (G_ref7_Mid w_ref1_Has w_ref7_Far N) L0 P0 [(3, .loop [] ⟨[(5, .val (.int .i64)), (6, .val (.int .i64))], []⟩ [(.exit 0, ⟨[(5, .val (.int .i64))], []⟩)])]
    [] N 400 (bodyOf Try.f27) ⟨31, slots 0 (argsOf as_ref7_Mid bs_ref7_Mid x), tabU (lbOf as_ref7_Mid bs_ref7_Mid x) [], []⟩).elim (kRet 31 pout_ref7_Mid (kpL []) (lbOf as_ref7_Mid bs_ref7_Mid x))
def out_ref7_Mid (y : Int) : V × List OK × List OK := (valW (.int .i64) y, [], [])
noncomputable def V_ref7_Mid (w_ref1_Has : (List Int) × Int → Option (Bool)) (w_ref7_Far : (List (List Int)) × Int × List Int → Option (Int)) (N : Nat) (x : (List (List Int)) × List Int) : Option (Int) :=
  obind (loopN N (fun (v : Int × Int) => cnd (decide (v.2 ≤ (8:Int))) (obind (w_ref1_Has (x.2, v.2)) fun b => cnd b (cnd (decide (v.1 = (0:Int)))
    (some (Sum.inl (v.2, wr .i64 (v.2 + (1:Int))))) (obind (w_ref7_Far (x.1, v.2, x.2)) fun b => obind (w_ref7_Far (x.1, v.1, x.2)) fun b_1 => cnd
    (decide (b < b_1)) (some (Sum.inl (v.2, wr .i64 (v.2 + (1:Int))))) (some (Sum.inl (v.1, wr .i64 (v.2 + (1:Int))))))) (some (Sum.inl (v.1, wr .i64
    (v.2 + (1:Int)))))) (some (Sum.inr v.1))) ((0:Int), (1:Int))) fun (b : Int) => some b
theorem FV_ref7_Mid_eq (w_ref1_Has : (List Int) × Int → Option (Bool)) (w_ref7_Far : (List (List Int)) × Int × List Int → Option (Int)) (N : Nat) (x : (List (List Int)) × List Int) : F_ref7_Mid w_ref1_Has w_ref7_Far N x = V_ref7_Mid w_ref1_Has w_ref7_Far N x := by kernel_rfl
noncomputable def W_ref7_Mid (N : Nat) (x : (List (List Int)) × List Int) : Option (Int) := V_ref7_Mid (W_ref1_Has N) (W_ref7_Far N) N x
theorem F_ref7_Mid_eq (N : Nat) (x : (List (List Int)) × List Int) : F_ref7_Mid (W_ref1_Has N) (W_ref7_Far N) N x = W_ref7_Mid N x := (FV_ref7_Mid_eq (W_ref1_Has N) (W_ref7_Far N) N x).trans (by kernel_rfl)
noncomputable def conw_ref7_Mid (w : (List (List Int)) × List Int → Option (Int)) : Con := ⟨27, as_ref7_Mid, bs_ref7_Mid, Int, w, out_ref7_Mid⟩
noncomputable def con_ref7_Mid (N : Nat) : Con := conw_ref7_Mid (W_ref7_Mid N)
theorem R_ref7_Mid_eq (x : (List (List Int)) × List Int) (y : Int) : retOf2 P0 Try.f27 (kpL []) (lbOf as_ref7_Mid bs_ref7_Mid x) (patS ⟨31, [], [], []⟩ pout_ref7_Mid y) = some (out_ref7_Mid y) := by kernel_rfl
theorem con_ref7_Mid_ok (N : Nat) : Con.ok P0 (con_ref7_Mid N) := ⟨⟨Try.f27, Try.func27, by kernel_rfl, by kernel_rfl⟩, fun (x : (List (List Int)) × List Int) (r : Int) (hr : W_ref7_Mid N x = some r) =>
  spec2_evT (Γ := G_ref7_Mid (W_ref1_Has N) (W_ref7_Far N) N) (Λ := L0) (pout := pout_ref7_Mid) (kp := kpL []) mixed (orcOf_ok _ (by simp only [List.mem_cons, List.not_mem_nil, or_false, forall_eq_or_imp, forall_eq]; exact ⟨con_ref1_Has_ok N, con_ref7_Far_ok N⟩)) Try.func27 (c := bodyOf Try.f27) (by kernel_rfl) (by kernel_rfl) (of_decide_eq_true (by kernel_rfl)) ((F_ref7_Mid_eq N x).trans hr) (R_ref7_Mid_eq x r)⟩
def as_ref7_Of : List AS := [.val (.list (.list (.int .i64))), .val (.list (.int .i64))]
def bs_ref7_Of : List BS := []
def pout_ref7_Of : Pat := ⟨[(4, .ptr 600004 0)], [(600004, .box 33 (.val (.pair (.list (.int .i64)) (.int .i64))))]⟩
noncomputable def G_ref7_Of (w_ref7_Mid : (List (List Int)) × List Int → Option (Int)) (N : Nat) : OrcT := orcOf [conw_ref7_Mid w_ref7_Mid]
noncomputable def F_ref7_Of (w_ref7_Mid : (List (List Int)) × List Int → Option (Int)) (N : Nat) (x : (List (List Int)) × List Int) : Option ((List Int) × Int) :=
  (evT (G_ref7_Of w_ref7_Mid N) L0 P0 []
    [] N 400 (bodyOf Try.f14) ⟨12, slots 0 (argsOf as_ref7_Of bs_ref7_Of x), tabU (lbOf as_ref7_Of bs_ref7_Of x) [], []⟩).elim (kRet 12 pout_ref7_Of (kpL []) (lbOf as_ref7_Of bs_ref7_Of x))
def out_ref7_Of (y : (List Int) × Int) : V × List OK × List OK := (valW (.agg (.pair (.list (.int .i64)) (.int .i64))) y, [], [])
noncomputable def V_ref7_Of (w_ref7_Mid : (List (List Int)) × List Int → Option (Int)) (N : Nat) (x : (List (List Int)) × List Int) : Option ((List Int) × Int) :=
  cnd (decide (List.length x.2 * (8:Nat) ≤ (140737488355328:Nat))) (obind (w_ref7_Mid x) fun b => some (x.2, b)) none
theorem FV_ref7_Of_eq (w_ref7_Mid : (List (List Int)) × List Int → Option (Int)) (N : Nat) (x : (List (List Int)) × List Int) : F_ref7_Of w_ref7_Mid N x = V_ref7_Of w_ref7_Mid N x := by kernel_rfl
noncomputable def W_ref7_Of (N : Nat) (x : (List (List Int)) × List Int) : Option ((List Int) × Int) := V_ref7_Of (W_ref7_Mid N) N x
theorem F_ref7_Of_eq (N : Nat) (x : (List (List Int)) × List Int) : F_ref7_Of (W_ref7_Mid N) N x = W_ref7_Of N x := (FV_ref7_Of_eq (W_ref7_Mid N) N x).trans (by kernel_rfl)
noncomputable def conw_ref7_Of (w : (List (List Int)) × List Int → Option ((List Int) × Int)) : Con := ⟨14, as_ref7_Of, bs_ref7_Of, (List Int) × Int, w, out_ref7_Of⟩
noncomputable def con_ref7_Of (N : Nat) : Con := conw_ref7_Of (W_ref7_Of N)
theorem R_ref7_Of_eq (x : (List (List Int)) × List Int) (y : (List Int) × Int) : retOf2 P0 Try.f14 (kpL []) (lbOf as_ref7_Of bs_ref7_Of x) (patS ⟨12, [], [], []⟩ pout_ref7_Of y) = some (out_ref7_Of y) := by kernel_rfl
theorem con_ref7_Of_ok (N : Nat) : Con.ok P0 (con_ref7_Of N) := ⟨⟨Try.f14, Try.func14, by kernel_rfl, by kernel_rfl⟩, fun (x : (List (List Int)) × List Int) (r : (List Int) × Int) (hr : W_ref7_Of N x = some r) =>
  spec2_evT (Γ := G_ref7_Of (W_ref7_Mid N) N) (Λ := L0) (pout := pout_ref7_Of) (kp := kpL []) mixed (orcOf_ok _ (by simp only [List.mem_cons, List.not_mem_nil, or_false, forall_eq_or_imp, forall_eq]; exact con_ref7_Mid_ok N)) Try.func14 (c := bodyOf Try.f14) (by kernel_rfl) (by kernel_rfl) (of_decide_eq_true (by kernel_rfl)) ((F_ref7_Of_eq N x).trans hr) (R_ref7_Of_eq x r)⟩
def as_ref7_Home : List AS := [.val (.list (.agg (.pair (.list (.int .i64)) (.int .i64)))), .val (.int .i64)]
def bs_ref7_Home : List BS := []
def pout_ref7_Home : Pat := ⟨[(4, .val (.int .i64))], []⟩
noncomputable def G_ref7_Home (w_ref1_Has : (List Int) × Int → Option (Bool)) (N : Nat) : OrcT := orcOf [conw_ref1_Has w_ref1_Has]
noncomputable def F_ref7_Home (w_ref1_Has : (List Int) × Int → Option (Bool)) (N : Nat) (x : (List ((List Int) × Int)) × Int) : Option (Int) :=
  (evT (G_ref7_Home w_ref1_Has N) L0 P0 [(2, .loop [] ⟨[(5, .val (.int .i64))], []⟩ [(.exit 0, ⟨[], []⟩), (.ret, ⟨[(4, .val (.int .i64))], []⟩)])]
    [] N 400 (bodyOf Try.f23) ⟨20, slots 0 (argsOf as_ref7_Home bs_ref7_Home x), tabU (lbOf as_ref7_Home bs_ref7_Home x) [], []⟩).elim (kRet 20 pout_ref7_Home (kpL []) (lbOf as_ref7_Home bs_ref7_Home x))
def out_ref7_Home (y : Int) : V × List OK × List OK := (valW (.int .i64) y, [], [])
noncomputable def V_ref7_Home (w_ref1_Has : (List Int) × Int → Option (Bool)) (N : Nat) (x : (List ((List Int) × Int)) × Int) : Option (Int) :=
  obind (loopN N (fun (v : Int) => cnd (decide (v < (↑(List.length x.1) : Int))) (cnd (decide ((0:Int) ≤ v) && decide (v < (↑(List.length x.1) : Int)))
    (obind (w_ref1_Has (Prod.fst (List.getD x.1 (Int.toNat v) ([], (0:Int))), x.2)) fun b => cnd b (some (Sum.inr (Sum.inr v))) (some (Sum.inl (wr
    .i64 (v + (1:Int)))))) none) (some (Sum.inr (Sum.inl ())))) (Int.ofNat (0:Nat))) fun (b : PUnit ⊕ Int) => selim (fun (b : PUnit) => some (-1 : Int))
    (fun (c : Int) => some c) b
theorem FV_ref7_Home_eq (w_ref1_Has : (List Int) × Int → Option (Bool)) (N : Nat) (x : (List ((List Int) × Int)) × Int) : F_ref7_Home w_ref1_Has N x = V_ref7_Home w_ref1_Has N x := by kernel_rfl
noncomputable def W_ref7_Home (N : Nat) (x : (List ((List Int) × Int)) × Int) : Option (Int) := V_ref7_Home (W_ref1_Has N) N x
theorem F_ref7_Home_eq (N : Nat) (x : (List ((List Int) × Int)) × Int) : F_ref7_Home (W_ref1_Has N) N x = W_ref7_Home N x := (FV_ref7_Home_eq (W_ref1_Has N) N x).trans (by kernel_rfl)
noncomputable def conw_ref7_Home (w : (List ((List Int) × Int)) × Int → Option (Int)) : Con := ⟨23, as_ref7_Home, bs_ref7_Home, Int, w, out_ref7_Home⟩
noncomputable def con_ref7_Home (N : Nat) : Con := conw_ref7_Home (W_ref7_Home N)
theorem R_ref7_Home_eq (x : (List ((List Int) × Int)) × Int) (y : Int) : retOf2 P0 Try.f23 (kpL []) (lbOf as_ref7_Home bs_ref7_Home x) (patS ⟨20, [], [], []⟩ pout_ref7_Home y) = some (out_ref7_Home y) := by kernel_rfl
theorem con_ref7_Home_ok (N : Nat) : Con.ok P0 (con_ref7_Home N) := ⟨⟨Try.f23, Try.func23, by kernel_rfl, by kernel_rfl⟩, fun (x : (List ((List Int) × Int)) × Int) (r : Int) (hr : W_ref7_Home N x = some r) =>
  spec2_evT (Γ := G_ref7_Home (W_ref1_Has N) N) (Λ := L0) (pout := pout_ref7_Home) (kp := kpL []) mixed (orcOf_ok _ (by simp only [List.mem_cons, List.not_mem_nil, or_false, forall_eq_or_imp, forall_eq]; exact con_ref1_Has_ok N)) Try.func23 (c := bodyOf Try.f23) (by kernel_rfl) (by kernel_rfl) (of_decide_eq_true (by kernel_rfl)) ((F_ref7_Home_eq N x).trans hr) (R_ref7_Home_eq x r)⟩
def as_ref7_Rising : List AS := [.val (.list (.int .i64))]
def bs_ref7_Rising : List BS := []
def pout_ref7_Rising : Pat := ⟨[(2, .acc 700003)], [(700003, .nrow 3 (.int .i64) true true)]⟩
noncomputable def G_ref7_Rising (w_ref1_Has : (List Int) × Int → Option (Bool)) (N : Nat) : OrcT := orcOf [conw_ref1_Has w_ref1_Has]
noncomputable def F_ref7_Rising (w_ref1_Has : (List Int) × Int → Option (Bool)) (N : Nat) (x : List Int) : Option (List Int) :=
  (evT (G_ref7_Rising w_ref1_Has N) L0 P0 [(3, .loop [] ⟨[(3, .acc 700003), (4, .val (.int .i64))], [(700003, .nrow 3 (.int .i64) true true)]⟩ [(.exit 0, ⟨[(3, .acc 700003)], [(700003, .nrow 3 (.int .i64) true true)]⟩)])]
    [] N 400 (bodyOf Try.f28) ⟨17, slots 0 (argsOf as_ref7_Rising bs_ref7_Rising x), tabU (lbOf as_ref7_Rising bs_ref7_Rising x) [], []⟩).elim (kRet 17 pout_ref7_Rising (kpL []) (lbOf as_ref7_Rising bs_ref7_Rising x))
def out_ref7_Rising (y : List Int) : V × List OK × List OK := (.acc 2000000 0, [], [.nrow 3 true true ⟨(.int .i64), y⟩])
noncomputable def V_ref7_Rising (w_ref1_Has : (List Int) × Int → Option (Bool)) (N : Nat) (x : List Int) : Option (List Int) :=
  obind (loopN N (fun (v : Int × List Int) => cnd (decide (v.1 ≤ (8:Int))) (obind (w_ref1_Has (x, v.1)) fun b => cnd b (cnd (decide ((List.length v.2
    + List.length [v.1]) * (8:Nat) ≤ (140737488355328:Nat))) (some (Sum.inl (wr .i64 (v.1 + (1:Int)), v.2 ++ [v.1]))) none) (some (Sum.inl (wr .i64 (v.1
    + (1:Int)), v.2)))) (some (Sum.inr v.2))) ((1:Int), [])) fun (b : List Int) => some b
theorem FV_ref7_Rising_eq (w_ref1_Has : (List Int) × Int → Option (Bool)) (N : Nat) (x : List Int) : F_ref7_Rising w_ref1_Has N x = V_ref7_Rising w_ref1_Has N x := by kernel_rfl
noncomputable def W_ref7_Rising (N : Nat) (x : List Int) : Option (List Int) := V_ref7_Rising (W_ref1_Has N) N x
theorem F_ref7_Rising_eq (N : Nat) (x : List Int) : F_ref7_Rising (W_ref1_Has N) N x = W_ref7_Rising N x := (FV_ref7_Rising_eq (W_ref1_Has N) N x).trans (by kernel_rfl)
noncomputable def conw_ref7_Rising (w : List Int → Option (List Int)) : Con := ⟨28, as_ref7_Rising, bs_ref7_Rising, List Int, w, out_ref7_Rising⟩
noncomputable def con_ref7_Rising (N : Nat) : Con := conw_ref7_Rising (W_ref7_Rising N)
theorem R_ref7_Rising_eq (x : List Int) (y : List Int) : retOf2 P0 Try.f28 (kpL []) (lbOf as_ref7_Rising bs_ref7_Rising x) (patS ⟨17, [], [], []⟩ pout_ref7_Rising y) = some (out_ref7_Rising y) := by kernel_rfl
theorem con_ref7_Rising_ok (N : Nat) : Con.ok P0 (con_ref7_Rising N) := ⟨⟨Try.f28, Try.func28, by kernel_rfl, by kernel_rfl⟩, fun (x : List Int) (r : List Int) (hr : W_ref7_Rising N x = some r) =>
  spec2_evT (Γ := G_ref7_Rising (W_ref1_Has N) N) (Λ := L0) (pout := pout_ref7_Rising) (kp := kpL []) mixed (orcOf_ok _ (by simp only [List.mem_cons, List.not_mem_nil, or_false, forall_eq_or_imp, forall_eq]; exact con_ref1_Has_ok N)) Try.func28 (c := bodyOf Try.f28) (by kernel_rfl) (by kernel_rfl) (of_decide_eq_true (by kernel_rfl)) ((F_ref7_Rising_eq N x).trans hr) (R_ref7_Rising_eq x r)⟩
def as_ref7_without : List AS := [.val (.list (.int .i64)), .val (.int .i64)]
def bs_ref7_without : List BS := []
def pout_ref7_without : Pat := ⟨[(4, .acc 700005)], [(700005, .nrow 3 (.int .i64) true true)]⟩
noncomputable def G_ref7_without  (N : Nat) : OrcT := orcOf []
noncomputable def F_ref7_without  (N : Nat) (x : (List Int) × Int) : Option (List Int) :=
  (evT (G_ref7_without  N) L0 P0 [(3, .loop [] ⟨[(5, .acc 700005), (6, .val (.int .i64))], [(700005, .nrow 3 (.int .i64) true true)]⟩ [(.exit 0, ⟨[(5, .acc 700005)], [(700005, .nrow 3 (.int .i64) true true)]⟩)])]
    [] N 400 (bodyOf Try.f34) ⟨27, slots 0 (argsOf as_ref7_without bs_ref7_without x), tabU (lbOf as_ref7_without bs_ref7_without x) [], []⟩).elim (kRet 27 pout_ref7_without (kpL []) (lbOf as_ref7_without bs_ref7_without x))
def out_ref7_without (y : List Int) : V × List OK × List OK := (.acc 2000000 0, [], [.nrow 3 true true ⟨(.int .i64), y⟩])
noncomputable def V_ref7_without  (N : Nat) (x : (List Int) × Int) : Option (List Int) :=
  obind (loopN N (fun (v : Int × List Int) => cnd (decide (v.1 < (↑(List.length x.1) : Int))) (cnd (decide ((0:Int) ≤ v.1) && decide (v.1 <
    (↑(List.length x.1) : Int))) (cnd (decide (List.getD x.1 (Int.toNat v.1) (0:Int) ≠ x.2)) (cnd (decide ((0:Int) ≤ v.1) && decide (v.1 <
    (↑(List.length x.1) : Int))) (cnd (decide ((List.length v.2 + List.length [List.getD x.1 (Int.toNat v.1) (0:Int)]) * (8:Nat) ≤
    (140737488355328:Nat))) (some (Sum.inl (wr .i64 (v.1 + (1:Int)), v.2 ++ [List.getD x.1 (Int.toNat v.1) (0:Int)]))) none) none) (some (Sum.inl (wr
    .i64 (v.1 + (1:Int)), v.2)))) none) (some (Sum.inr v.2))) ((0:Int), [])) fun (b : List Int) => some b
theorem FV_ref7_without_eq  (N : Nat) (x : (List Int) × Int) : F_ref7_without  N x = V_ref7_without  N x := by kernel_rfl
noncomputable def W_ref7_without (N : Nat) (x : (List Int) × Int) : Option (List Int) := V_ref7_without  N x
theorem F_ref7_without_eq (N : Nat) (x : (List Int) × Int) : F_ref7_without  N x = W_ref7_without N x := (FV_ref7_without_eq  N x).trans (by kernel_rfl)
noncomputable def conw_ref7_without (w : (List Int) × Int → Option (List Int)) : Con := ⟨34, as_ref7_without, bs_ref7_without, List Int, w, out_ref7_without⟩
noncomputable def con_ref7_without (N : Nat) : Con := conw_ref7_without (W_ref7_without N)
theorem R_ref7_without_eq (x : (List Int) × Int) (y : List Int) : retOf2 P0 Try.f34 (kpL []) (lbOf as_ref7_without bs_ref7_without x) (patS ⟨27, [], [], []⟩ pout_ref7_without y) = some (out_ref7_without y) := by kernel_rfl
theorem con_ref7_without_ok (N : Nat) : Con.ok P0 (con_ref7_without N) := ⟨⟨Try.f34, Try.func34, by kernel_rfl, by kernel_rfl⟩, fun (x : (List Int) × Int) (r : List Int) (hr : W_ref7_without N x = some r) =>
  spec2_evT (Γ := G_ref7_without N) (Λ := L0) (pout := pout_ref7_without) (kp := kpL []) mixed (orcOf_ok [] (by simp)) Try.func34 (c := bodyOf Try.f34) (by kernel_rfl) (by kernel_rfl) (of_decide_eq_true (by kernel_rfl)) ((F_ref7_without_eq N x).trans hr) (R_ref7_without_eq x r)⟩
def as_ref7_Near : List AS := [.val (.list (.list (.int .i64))), .val (.int .i64), .val (.list (.int .i64))]
def bs_ref7_Near : List BS := []
def pout_ref7_Near : Pat := ⟨[(6, .val (.int .i64))], []⟩
noncomputable def G_ref7_Near (w_ref1_Has : (List Int) × Int → Option (Bool)) (N : Nat) : OrcT := orcOf [conw_ref1_Has w_ref1_Has]
noncomputable def F_ref7_Near (w_ref1_Has : (List Int) × Int → Option (Bool)) (N : Nat) (x : (List (List Int)) × Int × List Int) : Option (Int) :=
  (evT (G_ref7_Near w_ref1_Has N) L0 P0 [(3, .loop [] ⟨[(7, .val (.int .i64)), (8, .val (.int .i64))], []⟩ [(.exit 0, ⟨[(7, .val (.int .i64))], []⟩)])]
    [] N 400 (bodyOf Try.f25) ⟨48, slots 0 (argsOf as_ref7_Near bs_ref7_Near x), tabU (lbOf as_ref7_Near bs_ref7_Near x) [], []⟩).elim (kRet 48 pout_ref7_Near (kpL []) (lbOf as_ref7_Near bs_ref7_Near x))
def out_ref7_Near (y : Int) : V × List OK × List OK := (valW (.int .i64) y, [], [])
noncomputable def V_ref7_Near (w_ref1_Has : (List Int) × Int → Option (Bool)) (N : Nat) (x : (List (List Int)) × Int × List Int) : Option (Int) :=
  obind (loopN N (fun (v : Int × Int) => cnd (decide (v.2 ≤ (8:Int))) (cnd (decide (v.2 ≠ x.2.1)) (obind (w_ref1_Has (x.2.2, v.2)) fun b => cnd b (cnd
    (decide (v.1 = (0:Int))) (some (Sum.inl (v.2, wr .i64 (v.2 + (1:Int))))) (cnd (decide ((0:Int) ≤ wr .i64 (x.2.1 - (1:Int))) && decide (wr .i64
    (x.2.1 - (1:Int)) < (↑(List.length x.1) : Int))) (cnd (decide ((0:Int) ≤ wr .i64 (v.2 - (1:Int))) && decide (wr .i64 (v.2 - (1:Int)) <
    (↑(List.length (List.getD x.1 (Int.toNat (wr .i64 (x.2.1 - (1:Int)))) [])) : Int))) (cnd (decide ((0:Int) ≤ wr .i64 (x.2.1 - (1:Int))) && decide (wr
    .i64 (x.2.1 - (1:Int)) < (↑(List.length x.1) : Int))) (cnd (decide ((0:Int) ≤ wr .i64 (v.1 - (1:Int))) && decide (wr .i64 (v.1 - (1:Int)) <
    (↑(List.length (List.getD x.1 (Int.toNat (wr .i64 (x.2.1 - (1:Int)))) [])) : Int))) (cnd (decide (List.getD (List.getD x.1 (Int.toNat (wr .i64
    (x.2.1 - (1:Int)))) []) (Int.toNat (wr .i64 (v.2 - (1:Int)))) (0:Int) < List.getD (List.getD x.1 (Int.toNat (wr .i64 (x.2.1 - (1:Int)))) [])
    (Int.toNat (wr .i64 (v.1 - (1:Int)))) (0:Int))) (some (Sum.inl (v.2, wr .i64 (v.2 + (1:Int))))) (some (Sum.inl (v.1, wr .i64 (v.2 + (1:Int))))))
    none) none) none) none)) (some (Sum.inl (v.1, wr .i64 (v.2 + (1:Int)))))) (some (Sum.inl (v.1, wr .i64 (v.2 + (1:Int)))))) (some (Sum.inr v.1)))
    ((0:Int), (1:Int))) fun (b : Int) => some b
theorem FV_ref7_Near_eq (w_ref1_Has : (List Int) × Int → Option (Bool)) (N : Nat) (x : (List (List Int)) × Int × List Int) : F_ref7_Near w_ref1_Has N x = V_ref7_Near w_ref1_Has N x := by kernel_rfl
noncomputable def W_ref7_Near (N : Nat) (x : (List (List Int)) × Int × List Int) : Option (Int) := V_ref7_Near (W_ref1_Has N) N x
theorem F_ref7_Near_eq (N : Nat) (x : (List (List Int)) × Int × List Int) : F_ref7_Near (W_ref1_Has N) N x = W_ref7_Near N x := (FV_ref7_Near_eq (W_ref1_Has N) N x).trans (by kernel_rfl)
noncomputable def conw_ref7_Near (w : (List (List Int)) × Int × List Int → Option (Int)) : Con := ⟨25, as_ref7_Near, bs_ref7_Near, Int, w, out_ref7_Near⟩
noncomputable def con_ref7_Near (N : Nat) : Con := conw_ref7_Near (W_ref7_Near N)
theorem R_ref7_Near_eq (x : (List (List Int)) × Int × List Int) (y : Int) : retOf2 P0 Try.f25 (kpL []) (lbOf as_ref7_Near bs_ref7_Near x) (patS ⟨48, [], [], []⟩ pout_ref7_Near y) = some (out_ref7_Near y) := by kernel_rfl
theorem con_ref7_Near_ok (N : Nat) : Con.ok P0 (con_ref7_Near N) := ⟨⟨Try.f25, Try.func25, by kernel_rfl, by kernel_rfl⟩, fun (x : (List (List Int)) × Int × List Int) (r : Int) (hr : W_ref7_Near N x = some r) =>
  spec2_evT (Γ := G_ref7_Near (W_ref1_Has N) N) (Λ := L0) (pout := pout_ref7_Near) (kp := kpL []) mixed (orcOf_ok _ (by simp only [List.mem_cons, List.not_mem_nil, or_false, forall_eq_or_imp, forall_eq]; exact con_ref1_Has_ok N)) Try.func25 (c := bodyOf Try.f25) (by kernel_rfl) (by kernel_rfl) (of_decide_eq_true (by kernel_rfl)) ((F_ref7_Near_eq N x).trans hr) (R_ref7_Near_eq x r)⟩
def as_ref7_Split : List AS := [.val (.list (.list (.int .i64))), .val (.list (.int .i64)), .val (.int .i64)]
def bs_ref7_Split : List BS := []
def pout_ref7_Split : Pat := ⟨[(6, .val (.list (.int .i64))), (7, .val (.list (.int .i64)))], []⟩
noncomputable def G_ref7_Split (w_ref7_without : (List Int) × Int → Option (List Int)) (w_ref7_Near : (List (List Int)) × Int × List Int → Option (Int)) (w_ref7_Rising : List Int → Option (List Int)) (N : Nat) : OrcT := orcOf [conw_ref7_without w_ref7_without, conw_ref7_Near w_ref7_Near, conw_ref7_Rising w_ref7_Rising]
noncomputable def F_ref7_Split (w_ref7_without : (List Int) × Int → Option (List Int)) (w_ref7_Near : (List (List Int)) × Int × List Int → Option (Int)) (w_ref7_Rising : List Int → Option (List Int)) (N : Nat) (x : (List (List Int)) × (List Int) × Int) : Option ((List Int) × List Int) :=
  (evT (G_ref7_Split w_ref7_without w_ref7_Near w_ref7_Rising N) L0 P0 [(8, .loop [] ⟨[(8, .val (.int .i64)), (9, .val (.int .i64)), (11, .val (.int .i64))], []⟩ [(.exit 2, ⟨[(8, .val (.int .i64)), (9, .val (.int .i64))], []⟩)]),
    (5, .loop [] ⟨[(8, .val (.int .i64)), (9, .val (.int .i64)), (10, .val (.int .i64))], []⟩ [(.exit 0, ⟨[(8, .val (.int .i64)), (9, .val (.int .i64))], []⟩)]),
    (14, .loop [] ⟨[(12, .acc 700169), (13, .acc 700166), (14, .val (.int .i64))], [(700169, .nrow 3 (.int .i64) true true), (700166, .nrow 3 (.int .i64) true true)]⟩ [(.exit 4, ⟨[(12, .acc 700169), (13, .acc 700166)], [(700169, .nrow 3 (.int .i64) true true), (700166, .nrow 3 (.int .i64) true true)]⟩)]),
    (20, .loop [] ⟨[(12, .acc 700169), (13, .acc 700166)], [(700169, .nrow 3 (.int .i64) true true), (700166, .nrow 3 (.int .i64) true true)]⟩ [(.exit 6, ⟨[(12, .val (.list (.int .i64))), (13, .acc 700166)], [(700166, .nrow 3 (.int .i64) true true)]⟩)]),
    (23, .loop [] ⟨[(12, .val (.list (.int .i64))), (13, .acc 700166)], [(700166, .nrow 3 (.int .i64) true true)]⟩ [(.exit 8, ⟨[(12, .val (.list (.int .i64))), (13, .val (.list (.int .i64)))], []⟩)])]
    [] N 400 (bodyOf Try.f12) ⟨172, slots 0 (argsOf as_ref7_Split bs_ref7_Split x), tabU (lbOf as_ref7_Split bs_ref7_Split x) [], []⟩).elim (kRet 172 pout_ref7_Split (kpL []) (lbOf as_ref7_Split bs_ref7_Split x))
def out_ref7_Split (y : (List Int) × List Int) : V × List OK × List OK := (.tup [valW (.list (.int .i64)) y.1, valW (.list (.int .i64)) y.2], [], [])
noncomputable def V_ref7_Split (w_ref7_without : (List Int) × Int → Option (List Int)) (w_ref7_Near : (List (List Int)) × Int × List Int → Option (Int)) (w_ref7_Rising : List Int → Option (List Int)) (N : Nat) (x : (List (List Int)) × (List Int) × Int) : Option ((List Int) × List Int) :=
  cnd (decide ((↑(List.length x.2.1) : Int) < (2:Int))) (cnd (decide (List.length x.2.1 * (8:Nat) ≤ (140737488355328:Nat))) (some (x.2.1, [])) none)
    (obind (loopN N (fun (v : Int × Int × Int) => cnd (decide (v.2.2 < (↑(List.length x.2.1) : Int))) (obind (loopN N (fun (v_1 : Int × Int × Int) =>
    cnd (decide (v_1.2.2 < (↑(List.length x.2.1) : Int))) (cnd (decide (v_1.1 = (0:Int))) (cnd (decide ((0:Int) ≤ v.2.2) && decide (v.2.2 <
    (↑(List.length x.2.1) : Int))) (cnd (decide ((0:Int) ≤ v_1.2.2) && decide (v_1.2.2 < (↑(List.length x.2.1) : Int))) (some (Sum.inl (List.getD x.2.1
    (Int.toNat v.2.2) (0:Int), List.getD x.2.1 (Int.toNat v_1.2.2) (0:Int), wr .i64 (v_1.2.2 + (1:Int))))) none) none) (cnd (decide ((0:Int) ≤ v.2.2) &&
    decide (v.2.2 < (↑(List.length x.2.1) : Int))) (cnd (decide ((0:Int) ≤ wr .i64 (List.getD x.2.1 (Int.toNat v.2.2) (0:Int) - (1:Int))) && decide (wr
    .i64 (List.getD x.2.1 (Int.toNat v.2.2) (0:Int) - (1:Int)) < (↑(List.length x.1) : Int))) (cnd (decide ((0:Int) ≤ v_1.2.2) && decide (v_1.2.2 <
    (↑(List.length x.2.1) : Int))) (cnd (decide ((0:Int) ≤ wr .i64 (List.getD x.2.1 (Int.toNat v_1.2.2) (0:Int) - (1:Int))) && decide (wr .i64
    (List.getD x.2.1 (Int.toNat v_1.2.2) (0:Int) - (1:Int)) < (↑(List.length (List.getD x.1 (Int.toNat (wr .i64 (List.getD x.2.1 (Int.toNat v.2.2)
    (0:Int) - (1:Int)))) [])) : Int))) (cnd (decide ((0:Int) ≤ wr .i64 (v_1.1 - (1:Int))) && decide (wr .i64 (v_1.1 - (1:Int)) < (↑(List.length x.1) :
    Int))) (cnd (decide ((0:Int) ≤ wr .i64 (v_1.2.1 - (1:Int))) && decide (wr .i64 (v_1.2.1 - (1:Int)) < (↑(List.length (List.getD x.1 (Int.toNat (wr
    .i64 (v_1.1 - (1:Int)))) [])) : Int))) (cnd (decide (List.getD (List.getD x.1 (Int.toNat (wr .i64 (v_1.1 - (1:Int)))) []) (Int.toNat (wr .i64
    (v_1.2.1 - (1:Int)))) (0:Int) < List.getD (List.getD x.1 (Int.toNat (wr .i64 (List.getD x.2.1 (Int.toNat v.2.2) (0:Int) - (1:Int)))) []) (Int.toNat
    (wr .i64 (List.getD x.2.1 (Int.toNat v_1.2.2) (0:Int) - (1:Int)))) (0:Int))) (cnd (decide ((0:Int) ≤ v.2.2) && decide (v.2.2 < (↑(List.length x.2.1)
    : Int))) (cnd (decide ((0:Int) ≤ v_1.2.2) && decide (v_1.2.2 < (↑(List.length x.2.1) : Int))) (some (Sum.inl (List.getD x.2.1 (Int.toNat v.2.2)
    (0:Int), List.getD x.2.1 (Int.toNat v_1.2.2) (0:Int), wr .i64 (v_1.2.2 + (1:Int))))) none) none) (some (Sum.inl (v_1.1, v_1.2.1, wr .i64 (v_1.2.2 +
    (1:Int)))))) none) none) none) none) none) none)) (some (Sum.inr (v_1.1, v_1.2.1)))) (v.1, v.2.1, wr .i64 (v.2.2 + (1:Int)))) fun (b : Int × Int) =>
    some (Sum.inl (b.1, b.2, wr .i64 (v.2.2 + (1:Int))))) (some (Sum.inr (v.1, v.2.1)))) ((0:Int), (0:Int), (0:Int))) fun (b : Int × Int) => obind
    (loopN N (fun (v : Int × List Int × List Int) => cnd (decide (v.1 < (↑(List.length x.2.1) : Int))) (cnd (decide ((0:Int) ≤ v.1) && decide (v.1 <
    (↑(List.length x.2.1) : Int))) (cnd (decide (List.getD x.2.1 (Int.toNat v.1) (0:Int) ≠ b.2)) (cnd (decide (List.getD x.2.1 (Int.toNat v.1) (0:Int) =
    b.1)) (cnd (decide ((List.length v.2.1 + List.length [List.getD x.2.1 (Int.toNat v.1) (0:Int)]) * (8:Nat) ≤ (140737488355328:Nat))) (some (Sum.inl
    (wr .i64 (v.1 + (1:Int)), v.2.1 ++ [List.getD x.2.1 (Int.toNat v.1) (0:Int)], v.2.2))) none) (cnd (decide ((0:Int) ≤ wr .i64 (List.getD x.2.1
    (Int.toNat v.1) (0:Int) - (1:Int))) && decide (wr .i64 (List.getD x.2.1 (Int.toNat v.1) (0:Int) - (1:Int)) < (↑(List.length x.1) : Int))) (cnd
    (decide ((0:Int) ≤ wr .i64 (b.1 - (1:Int))) && decide (wr .i64 (b.1 - (1:Int)) < (↑(List.length (List.getD x.1 (Int.toNat (wr .i64 (List.getD x.2.1
    (Int.toNat v.1) (0:Int) - (1:Int)))) [])) : Int))) (cnd (decide ((0:Int) ≤ wr .i64 (List.getD x.2.1 (Int.toNat v.1) (0:Int) - (1:Int))) && decide
    (wr .i64 (List.getD x.2.1 (Int.toNat v.1) (0:Int) - (1:Int)) < (↑(List.length x.1) : Int))) (cnd (decide ((0:Int) ≤ wr .i64 (b.2 - (1:Int))) &&
    decide (wr .i64 (b.2 - (1:Int)) < (↑(List.length (List.getD x.1 (Int.toNat (wr .i64 (List.getD x.2.1 (Int.toNat v.1) (0:Int) - (1:Int)))) [])) :
    Int))) (cnd (decide (List.getD (List.getD x.1 (Int.toNat (wr .i64 (List.getD x.2.1 (Int.toNat v.1) (0:Int) - (1:Int)))) []) (Int.toNat (wr .i64 (b.1
    - (1:Int)))) (0:Int) ≤ List.getD (List.getD x.1 (Int.toNat (wr .i64 (List.getD x.2.1 (Int.toNat v.1) (0:Int) - (1:Int)))) []) (Int.toNat (wr .i64
    (b.2 - (1:Int)))) (0:Int))) (cnd (decide ((List.length v.2.1 + List.length [List.getD x.2.1 (Int.toNat v.1) (0:Int)]) * (8:Nat) ≤
    (140737488355328:Nat))) (some (Sum.inl (wr .i64 (v.1 + (1:Int)), v.2.1 ++ [List.getD x.2.1 (Int.toNat v.1) (0:Int)], v.2.2))) none) (cnd (decide
    ((List.length v.2.2 + List.length [List.getD x.2.1 (Int.toNat v.1) (0:Int)]) * (8:Nat) ≤ (140737488355328:Nat))) (some (Sum.inl (wr .i64 (v.1 +
    (1:Int)), v.2.1, v.2.2 ++ [List.getD x.2.1 (Int.toNat v.1) (0:Int)]))) none)) none) none) none) none)) (cnd (decide ((List.length v.2.2 +
    List.length [List.getD x.2.1 (Int.toNat v.1) (0:Int)]) * (8:Nat) ≤ (140737488355328:Nat))) (some (Sum.inl (wr .i64 (v.1 + (1:Int)), v.2.1, v.2.2 ++
    [List.getD x.2.1 (Int.toNat v.1) (0:Int)]))) none)) none) (some (Sum.inr v.2))) ((0:Int), [], [])) fun (b_1 : List Int × List Int) => obind (loopN N
    (fun (v : List Int × List Int) => cnd (decide ((↑(List.length v.1) : Int) < x.2.2)) (cnd (decide (x.2.2 < (↑(List.length v.2) : Int))) (obind
    (w_ref7_without (v.2, b.2)) fun b_2 => obind (w_ref7_Near (x.1, b.1, b_2)) fun b => cnd (decide ((List.length v.1 + List.length [b]) * (8:Nat) ≤
    (140737488355328:Nat))) (obind (w_ref7_Rising (v.1 ++ [b])) fun b_3 => obind (w_ref7_without (v.2, b)) fun b => some (Sum.inl (b_3, b))) none)
    (some (Sum.inr v))) (some (Sum.inr v))) b_1) fun (b_2 : List Int × List Int) => obind (loopN N (fun (v : List Int × List Int) => cnd (decide
    ((↑(List.length v.2) : Int) < x.2.2)) (cnd (decide (x.2.2 < (↑(List.length v.1) : Int))) (obind (w_ref7_without (v.1, b.1)) fun b_3 => obind
    (w_ref7_Near (x.1, b.2, b_3)) fun b => cnd (decide ((List.length v.2 + List.length [b]) * (8:Nat) ≤ (140737488355328:Nat))) (obind (w_ref7_Rising (v.2 ++ [b])) fun b_4 => obind (w_ref7_without (v.1, b)) fun b => some (Sum.inl (b, b_4))) none) (some (Sum.inr v))) (some (Sum.inr v))) b_2)
    fun (b : List Int × List Int) => some b)
theorem FV_ref7_Split_eq (w_ref7_without : (List Int) × Int → Option (List Int)) (w_ref7_Near : (List (List Int)) × Int × List Int → Option (Int)) (w_ref7_Rising : List Int → Option (List Int)) (N : Nat) (x : (List (List Int)) × (List Int) × Int) : F_ref7_Split w_ref7_without w_ref7_Near w_ref7_Rising N x = V_ref7_Split w_ref7_without w_ref7_Near w_ref7_Rising N x := by kernel_rfl
noncomputable def W_ref7_Split (N : Nat) (x : (List (List Int)) × (List Int) × Int) : Option ((List Int) × List Int) := V_ref7_Split (W_ref7_without N) (W_ref7_Near N) (W_ref7_Rising N) N x
theorem F_ref7_Split_eq (N : Nat) (x : (List (List Int)) × (List Int) × Int) : F_ref7_Split (W_ref7_without N) (W_ref7_Near N) (W_ref7_Rising N) N x = W_ref7_Split N x := (FV_ref7_Split_eq (W_ref7_without N) (W_ref7_Near N) (W_ref7_Rising N) N x).trans (by kernel_rfl)
noncomputable def conw_ref7_Split (w : (List (List Int)) × (List Int) × Int → Option ((List Int) × List Int)) : Con := ⟨12, as_ref7_Split, bs_ref7_Split, (List Int) × List Int, w, out_ref7_Split⟩
noncomputable def con_ref7_Split (N : Nat) : Con := conw_ref7_Split (W_ref7_Split N)
theorem R_ref7_Split_eq (x : (List (List Int)) × (List Int) × Int) (y : (List Int) × List Int) : retOf2 P0 Try.f12 (kpL []) (lbOf as_ref7_Split bs_ref7_Split x) (patS ⟨172, [], [], []⟩ pout_ref7_Split y) = some (out_ref7_Split y) := by kernel_rfl
theorem con_ref7_Split_ok (N : Nat) : Con.ok P0 (con_ref7_Split N) := ⟨⟨Try.f12, Try.func12, by kernel_rfl, by kernel_rfl⟩, fun (x : (List (List Int)) × (List Int) × Int) (r : (List Int) × List Int) (hr : W_ref7_Split N x = some r) =>
  spec2_evT (Γ := G_ref7_Split (W_ref7_without N) (W_ref7_Near N) (W_ref7_Rising N) N) (Λ := L0) (pout := pout_ref7_Split) (kp := kpL []) mixed (orcOf_ok _ (by simp only [List.mem_cons, List.not_mem_nil, or_false, forall_eq_or_imp, forall_eq]; exact ⟨con_ref7_without_ok N, con_ref7_Near_ok N, con_ref7_Rising_ok N⟩)) Try.func12 (c := bodyOf Try.f12) (by kernel_rfl) (by kernel_rfl) (of_decide_eq_true (by kernel_rfl)) ((F_ref7_Split_eq N x).trans hr) (R_ref7_Split_eq x r)⟩
def as_ref7_parted : List AS := [.val (.list (.list (.int .i64))), .val (.list (.agg (.pair (.list (.int .i64)) (.int .i64)))), .val (.int .i64), .val (.int .i64)]
def bs_ref7_parted : List BS := []
def pout_ref7_parted : Pat := ⟨[(8, .val (.list (.agg (.pair (.list (.int .i64)) (.int .i64)))))], []⟩
noncomputable def G_ref7_parted (w_ref7_Split : (List (List Int)) × (List Int) × Int → Option ((List Int) × List Int)) (w_ref7_Of : (List (List Int)) × List Int → Option ((List Int) × Int)) (N : Nat) : OrcT := orcOf [conw_ref7_Split w_ref7_Split, conw_ref7_Of w_ref7_Of]
noncomputable def F_ref7_parted (w_ref7_Split : (List (List Int)) × (List Int) × Int → Option ((List Int) × List Int)) (w_ref7_Of : (List (List Int)) × List Int → Option ((List Int) × Int)) (N : Nat) (x : (List (List Int)) × (List ((List Int) × Int)) × Int × Int) : Option (List ((List Int) × Int)) :=
  (evT (G_ref7_parted w_ref7_Split w_ref7_Of N) L0 P0 []
    [] N 400 (bodyOf Try.f37) ⟨42, slots 0 (argsOf as_ref7_parted bs_ref7_parted x), tabU (lbOf as_ref7_parted bs_ref7_parted x) [], []⟩).elim (kRet 42 pout_ref7_parted (kpL []) (lbOf as_ref7_parted bs_ref7_parted x))
def out_ref7_parted (y : List ((List Int) × Int)) : V × List OK × List OK := (valW (.list (.agg (.pair (.list (.int .i64)) (.int .i64)))) y, [], [])
noncomputable def V_ref7_parted (w_ref7_Split : (List (List Int)) × (List Int) × Int → Option ((List Int) × List Int)) (w_ref7_Of : (List (List Int)) × List Int → Option ((List Int) × Int)) (N : Nat) (x : (List (List Int)) × (List ((List Int) × Int)) × Int × Int) : Option (List ((List Int) × Int)) :=
  cnd (decide ((0:Int) ≤ x.2.2.1) && decide (x.2.2.1 < (↑(List.length x.2.1) : Int))) (obind (w_ref7_Split (x.1, Prod.fst (List.getD x.2.1 (Int.toNat
    x.2.2.1) ([], (0:Int))), x.2.2.2)) fun b => cnd (decide ((0:Int) ≤ x.2.2.1) && decide (x.2.2.1 ≤ (↑(List.length x.2.1) : Int))) (cnd (decide
    (List.length (List.drop (0:Nat) (List.take (Int.toNat x.2.2.1) x.2.1)) * (32:Nat) ≤ (140737488355328:Nat))) (obind (w_ref7_Of (x.1, b.1)) fun b_1
    => obind (w_ref7_Of (x.1, b.2)) fun b => cnd (decide ((List.length (List.drop (0:Nat) (List.take (Int.toNat x.2.2.1) x.2.1)) + List.length [b_1,
    b]) * (32:Nat) ≤ (140737488355328:Nat))) (cnd (decide ((0:Int) ≤ wr .i64 (x.2.2.1 + (1:Int))) && decide (wr .i64 (x.2.2.1 + (1:Int)) ≤
    (↑(List.length x.2.1) : Int))) (cnd (decide ((List.length (List.drop (0:Nat) (List.take (Int.toNat x.2.2.1) x.2.1) ++ [b_1, b]) + List.length
    (List.drop (Int.toNat (wr .i64 (x.2.2.1 + (1:Int)))) (List.take (List.length x.2.1) x.2.1))) * (32:Nat) ≤ (140737488355328:Nat))) (some (List.drop
    (0:Nat) (List.take (Int.toNat x.2.2.1) x.2.1) ++ [b_1, b] ++ List.drop (Int.toNat (wr .i64 (x.2.2.1 + (1:Int)))) (List.take (List.length x.2.1)
    x.2.1))) none) none) none) none) none) none
theorem FV_ref7_parted_eq (w_ref7_Split : (List (List Int)) × (List Int) × Int → Option ((List Int) × List Int)) (w_ref7_Of : (List (List Int)) × List Int → Option ((List Int) × Int)) (N : Nat) (x : (List (List Int)) × (List ((List Int) × Int)) × Int × Int) : F_ref7_parted w_ref7_Split w_ref7_Of N x = V_ref7_parted w_ref7_Split w_ref7_Of N x := by kernel_rfl
noncomputable def W_ref7_parted (N : Nat) (x : (List (List Int)) × (List ((List Int) × Int)) × Int × Int) : Option (List ((List Int) × Int)) := V_ref7_parted (W_ref7_Split N) (W_ref7_Of N) N x
theorem F_ref7_parted_eq (N : Nat) (x : (List (List Int)) × (List ((List Int) × Int)) × Int × Int) : F_ref7_parted (W_ref7_Split N) (W_ref7_Of N) N x = W_ref7_parted N x := (FV_ref7_parted_eq (W_ref7_Split N) (W_ref7_Of N) N x).trans (by kernel_rfl)
noncomputable def conw_ref7_parted (w : (List (List Int)) × (List ((List Int) × Int)) × Int × Int → Option (List ((List Int) × Int))) : Con := ⟨37, as_ref7_parted, bs_ref7_parted, List ((List Int) × Int), w, out_ref7_parted⟩
noncomputable def con_ref7_parted (N : Nat) : Con := conw_ref7_parted (W_ref7_parted N)
theorem R_ref7_parted_eq (x : (List (List Int)) × (List ((List Int) × Int)) × Int × Int) (y : List ((List Int) × Int)) : retOf2 P0 Try.f37 (kpL []) (lbOf as_ref7_parted bs_ref7_parted x) (patS ⟨42, [], [], []⟩ pout_ref7_parted y) = some (out_ref7_parted y) := by kernel_rfl
theorem con_ref7_parted_ok (N : Nat) : Con.ok P0 (con_ref7_parted N) := ⟨⟨Try.f37, Try.func37, by kernel_rfl, by kernel_rfl⟩, fun (x : (List (List Int)) × (List ((List Int) × Int)) × Int × Int) (r : List ((List Int) × Int)) (hr : W_ref7_parted N x = some r) =>
  spec2_evT (Γ := G_ref7_parted (W_ref7_Split N) (W_ref7_Of N) N) (Λ := L0) (pout := pout_ref7_parted) (kp := kpL []) mixed (orcOf_ok _ (by simp only [List.mem_cons, List.not_mem_nil, or_false, forall_eq_or_imp, forall_eq]; exact ⟨con_ref7_Split_ok N, con_ref7_Of_ok N⟩)) Try.func37 (c := bodyOf Try.f37) (by kernel_rfl) (by kernel_rfl) (of_decide_eq_true (by kernel_rfl)) ((F_ref7_parted_eq N x).trans hr) (R_ref7_parted_eq x r)⟩
def as_ref7_JoinClus : List AS := [.val (.list (.list (.int .i64))), .val (.list (.agg (.pair (.list (.int .i64)) (.int .i64)))), .val (.int .i64), .val (.int .i64), .val (.int .i64)]
def bs_ref7_JoinClus : List BS := []
def pout_ref7_JoinClus : Pat := ⟨[(10, .val (.list (.agg (.pair (.list (.int .i64)) (.int .i64)))))], []⟩
noncomputable def G_ref7_JoinClus (w_ref7_Of : (List (List Int)) × List Int → Option ((List Int) × Int)) (w_ref7_Home : (List ((List Int) × Int)) × Int → Option (Int)) (w_ref7_Rising : List Int → Option (List Int)) (w_ref7_parted : (List (List Int)) × (List ((List Int) × Int)) × Int × Int → Option (List ((List Int) × Int))) (N : Nat) : OrcT := orcOf [conw_ref7_Of w_ref7_Of, conw_ref7_Home w_ref7_Home, conw_ref7_Rising w_ref7_Rising, conw_ref7_parted w_ref7_parted]
noncomputable def F_ref7_JoinClus (w_ref7_Of : (List (List Int)) × List Int → Option ((List Int) × Int)) (w_ref7_Home : (List ((List Int) × Int)) × Int → Option (Int)) (w_ref7_Rising : List Int → Option (List Int)) (w_ref7_parted : (List (List Int)) × (List ((List Int) × Int)) × Int × Int → Option (List ((List Int) × Int))) (N : Nat) (x : (List (List Int)) × (List ((List Int) × Int)) × Int × Int × Int) : Option (List ((List Int) × Int)) :=
  (evT (G_ref7_JoinClus w_ref7_Of w_ref7_Home w_ref7_Rising w_ref7_parted N) L0 P0 []
    [(1000004, .reg [(8, [], ⟨[(11, .acc 700068), (30, .val .bool)], [(700068, .nrow 33 (.agg (.pair (.list (.int .i64)) (.int .i64))) false true)]⟩)])] N 400 (bodyOf Try.f20) ⟨70, slots 0 (argsOf as_ref7_JoinClus bs_ref7_JoinClus x), tabU (lbOf as_ref7_JoinClus bs_ref7_JoinClus x) [], []⟩).elim (kRet 70 pout_ref7_JoinClus (kpL []) (lbOf as_ref7_JoinClus bs_ref7_JoinClus x))
def out_ref7_JoinClus (y : List ((List Int) × Int)) : V × List OK × List OK := (valW (.list (.agg (.pair (.list (.int .i64)) (.int .i64)))) y, [], [])
noncomputable def V_ref7_JoinClus (w_ref7_Of : (List (List Int)) × List Int → Option ((List Int) × Int)) (w_ref7_Home : (List ((List Int) × Int)) × Int → Option (Int)) (w_ref7_Rising : List Int → Option (List Int)) (w_ref7_parted : (List (List Int)) × (List ((List Int) × Int)) × Int × Int → Option (List ((List Int) × Int))) (N : Nat) (x : (List (List Int)) × (List ((List Int) × Int)) × Int × Int × Int) : Option (List ((List Int) × Int)) :=
  cnd (decide (List.length x.2.1 * (32:Nat) ≤ (140737488355328:Nat))) (cnd (decide ((↑(List.length x.2.1) : Int) = (0:Int))) (obind (w_ref7_Of (x.1,
    [x.2.2.2.1])) fun b => some [b]) (obind (cnd (decide (x.2.2.1 < (0:Int))) (some (true, x.2.1)) (some (decide ((↑(List.length x.2.1) : Int) ≤
    x.2.2.1), x.2.1))) fun (b : Bool × List (List Int × Int)) => cnd b.1 (some b.2) (obind (w_ref7_Home (x.2.1, x.2.2.2.1)) fun b_1 => cnd (decide
    ((0:Int) ≤ b_1)) (some b.2) (cnd (decide ((0:Int) ≤ x.2.2.1) && decide (x.2.2.1 < (↑(List.length x.2.1) : Int))) (cnd (decide (List.length (Prod.fst
    (List.getD x.2.1 (Int.toNat x.2.2.1) ([], (0:Int)))) * (8:Nat) ≤ (140737488355328:Nat))) (cnd (decide ((List.length (Prod.fst (List.getD x.2.1
    (Int.toNat x.2.2.1) ([], (0:Int)))) + List.length [x.2.2.2.1]) * (8:Nat) ≤ (140737488355328:Nat))) (obind (w_ref7_Rising (Prod.fst (List.getD
    x.2.1 (Int.toNat x.2.2.1) ([], (0:Int))) ++ [x.2.2.2.1])) fun b_2 => obind (w_ref7_Of (x.1, b_2)) fun b_3 => cnd (decide ((0:Int) ≤ x.2.2.1) &&
    decide (x.2.2.1 < (↑(List.length b.2) : Int))) (cnd (decide ((0:Int) ≤ x.2.2.1) && decide (x.2.2.1 < (↑(List.length (putL b.2 [b_3] (Int.toNat
    x.2.2.1))) : Int))) (cnd (decide (wr .i64 (wr .i64 ((3:Int) * x.2.2.2.2) - (1:Int)) < (↑(List.length (Prod.fst (List.getD (putL b.2 [b_3] (Int.toNat
    x.2.2.1)) (Int.toNat x.2.2.1) ([], (0:Int))))) : Int))) (obind (w_ref7_parted (x.1, putL b.2 [b_3] (Int.toNat x.2.2.1), x.2.2.1, x.2.2.2.2)) fun b
    => some b) (some (putL b.2 [b_3] (Int.toNat x.2.2.1)))) none) none) none) none) none)))) none
theorem FV_ref7_JoinClus_eq (w_ref7_Of : (List (List Int)) × List Int → Option ((List Int) × Int)) (w_ref7_Home : (List ((List Int) × Int)) × Int → Option (Int)) (w_ref7_Rising : List Int → Option (List Int)) (w_ref7_parted : (List (List Int)) × (List ((List Int) × Int)) × Int × Int → Option (List ((List Int) × Int))) (N : Nat) (x : (List (List Int)) × (List ((List Int) × Int)) × Int × Int × Int) : F_ref7_JoinClus w_ref7_Of w_ref7_Home w_ref7_Rising w_ref7_parted N x = V_ref7_JoinClus w_ref7_Of w_ref7_Home w_ref7_Rising w_ref7_parted N x := by kernel_rfl
noncomputable def W_ref7_JoinClus (N : Nat) (x : (List (List Int)) × (List ((List Int) × Int)) × Int × Int × Int) : Option (List ((List Int) × Int)) := V_ref7_JoinClus (W_ref7_Of N) (W_ref7_Home N) (W_ref7_Rising N) (W_ref7_parted N) N x
theorem F_ref7_JoinClus_eq (N : Nat) (x : (List (List Int)) × (List ((List Int) × Int)) × Int × Int × Int) : F_ref7_JoinClus (W_ref7_Of N) (W_ref7_Home N) (W_ref7_Rising N) (W_ref7_parted N) N x = W_ref7_JoinClus N x := (FV_ref7_JoinClus_eq (W_ref7_Of N) (W_ref7_Home N) (W_ref7_Rising N) (W_ref7_parted N) N x).trans (by kernel_rfl)
noncomputable def conw_ref7_JoinClus (w : (List (List Int)) × (List ((List Int) × Int)) × Int × Int × Int → Option (List ((List Int) × Int))) : Con := ⟨20, as_ref7_JoinClus, bs_ref7_JoinClus, List ((List Int) × Int), w, out_ref7_JoinClus⟩
noncomputable def con_ref7_JoinClus (N : Nat) : Con := conw_ref7_JoinClus (W_ref7_JoinClus N)
theorem R_ref7_JoinClus_eq (x : (List (List Int)) × (List ((List Int) × Int)) × Int × Int × Int) (y : List ((List Int) × Int)) : retOf2 P0 Try.f20 (kpL []) (lbOf as_ref7_JoinClus bs_ref7_JoinClus x) (patS ⟨70, [], [], []⟩ pout_ref7_JoinClus y) = some (out_ref7_JoinClus y) := by kernel_rfl
theorem con_ref7_JoinClus_ok (N : Nat) : Con.ok P0 (con_ref7_JoinClus N) := ⟨⟨Try.f20, Try.func20, by kernel_rfl, by kernel_rfl⟩, fun (x : (List (List Int)) × (List ((List Int) × Int)) × Int × Int × Int) (r : List ((List Int) × Int)) (hr : W_ref7_JoinClus N x = some r) =>
  spec2_evT (Γ := G_ref7_JoinClus (W_ref7_Of N) (W_ref7_Home N) (W_ref7_Rising N) (W_ref7_parted N) N) (Λ := L0) (pout := pout_ref7_JoinClus) (kp := kpL []) mixed (orcOf_ok _ (by simp only [List.mem_cons, List.not_mem_nil, or_false, forall_eq_or_imp, forall_eq]; exact ⟨con_ref7_Of_ok N, con_ref7_Home_ok N, con_ref7_Rising_ok N, con_ref7_parted_ok N⟩)) Try.func20 (c := bodyOf Try.f20) (by kernel_rfl) (by kernel_rfl) (of_decide_eq_true (by kernel_rfl)) ((F_ref7_JoinClus_eq N x).trans hr) (R_ref7_JoinClus_eq x r)⟩
def as_ref7_LeaveClus : List AS := [.val (.list (.list (.int .i64))), .val (.list (.agg (.pair (.list (.int .i64)) (.int .i64)))), .val (.int .i64), .val (.int .i64)]
def bs_ref7_LeaveClus : List BS := []
def pout_ref7_LeaveClus : Pat := ⟨[(8, .val (.list (.agg (.pair (.list (.int .i64)) (.int .i64)))))], []⟩
noncomputable def G_ref7_LeaveClus (w_ref7_Home : (List ((List Int) × Int)) × Int → Option (Int)) (w_ref7_without : (List Int) × Int → Option (List Int)) (w_ref7_Of : (List (List Int)) × List Int → Option ((List Int) × Int)) (w_ref7_Near : (List (List Int)) × Int × List Int → Option (Int)) (w_ref7_Rising : List Int → Option (List Int)) (w_ref7_parted : (List (List Int)) × (List ((List Int) × Int)) × Int × Int → Option (List ((List Int) × Int))) (N : Nat) : OrcT := orcOf [conw_ref7_Home w_ref7_Home, conw_ref7_without w_ref7_without, conw_ref7_Of w_ref7_Of, conw_ref7_Near w_ref7_Near, conw_ref7_Rising w_ref7_Rising, conw_ref7_parted w_ref7_parted]
noncomputable def F_ref7_LeaveClus (w_ref7_Home : (List ((List Int) × Int)) × Int → Option (Int)) (w_ref7_without : (List Int) × Int → Option (List Int)) (w_ref7_Of : (List (List Int)) × List Int → Option ((List Int) × Int)) (w_ref7_Near : (List (List Int)) × Int × List Int → Option (Int)) (w_ref7_Rising : List Int → Option (List Int)) (w_ref7_parted : (List (List Int)) × (List ((List Int) × Int)) × Int × Int → Option (List ((List Int) × Int))) (N : Nat) (x : (List (List Int)) × (List ((List Int) × Int)) × Int × Int) : Option (List ((List Int) × Int)) :=
  (evT (G_ref7_LeaveClus w_ref7_Home w_ref7_without w_ref7_Of w_ref7_Near w_ref7_Rising w_ref7_parted N) L0 P0 [(13, .loop [11] ⟨[(10, .acc 700129), (12, .acc 700012), (13, .val (.int .i64))], [(700129, .nrow 33 (.agg (.pair (.list (.int .i64)) (.int .i64))) false true), (700012, .nrow 3 (.int .i64) true true)]⟩ [(.exit 0, ⟨[(10, .acc 700129), (12, .val (.list (.int .i64)))], [(700129, .nrow 33 (.agg (.pair (.list (.int .i64)) (.int .i64))) false true)]⟩)])]
    [(22, .cut [10] [(.normal, ⟨[(9, .val (.int .i64))], []⟩)]),
    (20, .cut [] [(.normal, ⟨[(10, .val (.list (.agg (.pair (.list (.int .i64)) (.int .i64)))))], []⟩)])] N 400 (bodyOf Try.f22) ⟨131, slots 0 (argsOf as_ref7_LeaveClus bs_ref7_LeaveClus x), tabU (lbOf as_ref7_LeaveClus bs_ref7_LeaveClus x) [], []⟩).elim (kRet 131 pout_ref7_LeaveClus (kpL []) (lbOf as_ref7_LeaveClus bs_ref7_LeaveClus x))
def out_ref7_LeaveClus (y : List ((List Int) × Int)) : V × List OK × List OK := (valW (.list (.agg (.pair (.list (.int .i64)) (.int .i64)))) y, [], [])
noncomputable def V_ref7_LeaveClus (w_ref7_Home : (List ((List Int) × Int)) × Int → Option (Int)) (w_ref7_without : (List Int) × Int → Option (List Int)) (w_ref7_Of : (List (List Int)) × List Int → Option ((List Int) × Int)) (w_ref7_Near : (List (List Int)) × Int × List Int → Option (Int)) (w_ref7_Rising : List Int → Option (List Int)) (w_ref7_parted : (List (List Int)) × (List ((List Int) × Int)) × Int × Int → Option (List ((List Int) × Int))) (N : Nat) (x : (List (List Int)) × (List ((List Int) × Int)) × Int × Int) : Option (List ((List Int) × Int)) :=
  obind (w_ref7_Home (x.2.1, x.2.2.1)) fun b => cnd (decide (List.length x.2.1 * (32:Nat) ≤ (140737488355328:Nat))) (cnd (decide (b < (0:Int))) (some
    x.2.1) (cnd (decide ((0:Int) ≤ b) && decide (b < (↑(List.length x.2.1) : Int))) (obind (w_ref7_without (Prod.fst (List.getD x.2.1 (Int.toNat b)
    ([], (0:Int))), x.2.2.1)) fun b_1 => cnd (decide ((↑(List.length b_1) : Int) = (0:Int))) (cnd (decide (Option.getD none (0:Int) ≤ b)) (cnd (decide
    ((↑(0:Nat) : Int) + b ≤ (↑(List.length x.2.1) : Int))) (cnd (decide ((0:Int) ≤ Option.getD (some (wr .i64 (b + (1:Int)))) (0:Int))) (cnd (decide
    (Option.getD (some (wr .i64 (b + (1:Int)))) (0:Int) ≤ (↑(List.length x.2.1) : Int))) (cnd (decide (Prod.snd (Prod.snd (cutT (0:Nat) (List.length
    x.2.1) (List.length x.2.1) none (some b))) - Prod.fst (Prod.snd (cutT (0:Nat) (List.length x.2.1) (List.length x.2.1) none (some b))) + List.length
    (List.drop ((0:Nat) + Prod.fst (Prod.snd (cutT (0:Nat) (List.length x.2.1) (List.length x.2.1) (some (wr .i64 (b + (1:Int)))) none))) (List.take
    ((0:Nat) + Prod.fst (Prod.snd (cutT (0:Nat) (List.length x.2.1) (List.length x.2.1) (some (wr .i64 (b + (1:Int)))) none)) + (Prod.snd (Prod.snd
    (cutT (0:Nat) (List.length x.2.1) (List.length x.2.1) (some (wr .i64 (b + (1:Int)))) none)) - Prod.fst (Prod.snd (cutT (0:Nat) (List.length x.2.1)
    (List.length x.2.1) (some (wr .i64 (b + (1:Int)))) none)))) x.2.1)) ≤ List.length x.2.1)) (some (List.drop (0:Nat) (List.take ((0:Nat) + (Prod.snd
    (Prod.snd (cutT (0:Nat) (List.length x.2.1) (List.length x.2.1) none (some b))) - Prod.fst (Prod.snd (cutT (0:Nat) (List.length x.2.1) (List.length
    x.2.1) none (some b))) + List.length (List.drop ((0:Nat) + Prod.fst (Prod.snd (cutT (0:Nat) (List.length x.2.1) (List.length x.2.1) (some (wr .i64
    (b + (1:Int)))) none))) (List.take ((0:Nat) + Prod.fst (Prod.snd (cutT (0:Nat) (List.length x.2.1) (List.length x.2.1) (some (wr .i64 (b +
    (1:Int)))) none)) + (Prod.snd (Prod.snd (cutT (0:Nat) (List.length x.2.1) (List.length x.2.1) (some (wr .i64 (b + (1:Int)))) none)) - Prod.fst
    (Prod.snd (cutT (0:Nat) (List.length x.2.1) (List.length x.2.1) (some (wr .i64 (b + (1:Int)))) none)))) x.2.1)))) (List.take (Prod.snd (Prod.snd
    (cutT (0:Nat) (List.length x.2.1) (List.length x.2.1) none (some b))) - Prod.fst (Prod.snd (cutT (0:Nat) (List.length x.2.1) (List.length x.2.1)
    none (some b)))) x.2.1 ++ (List.drop ((0:Nat) + Prod.fst (Prod.snd (cutT (0:Nat) (List.length x.2.1) (List.length x.2.1) (some (wr .i64 (b +
    (1:Int)))) none))) (List.take ((0:Nat) + Prod.fst (Prod.snd (cutT (0:Nat) (List.length x.2.1) (List.length x.2.1) (some (wr .i64 (b + (1:Int))))
    none)) + (Prod.snd (Prod.snd (cutT (0:Nat) (List.length x.2.1) (List.length x.2.1) (some (wr .i64 (b + (1:Int)))) none)) - Prod.fst (Prod.snd (cutT
    (0:Nat) (List.length x.2.1) (List.length x.2.1) (some (wr .i64 (b + (1:Int)))) none)))) x.2.1) ++ List.drop (Prod.snd (Prod.snd (cutT (0:Nat)
    (List.length x.2.1) (List.length x.2.1) none (some b))) - Prod.fst (Prod.snd (cutT (0:Nat) (List.length x.2.1) (List.length x.2.1) none (some b))) +
    List.length (List.drop ((0:Nat) + Prod.fst (Prod.snd (cutT (0:Nat) (List.length x.2.1) (List.length x.2.1) (some (wr .i64 (b + (1:Int)))) none)))
    (List.take ((0:Nat) + Prod.fst (Prod.snd (cutT (0:Nat) (List.length x.2.1) (List.length x.2.1) (some (wr .i64 (b + (1:Int)))) none)) + (Prod.snd
    (Prod.snd (cutT (0:Nat) (List.length x.2.1) (List.length x.2.1) (some (wr .i64 (b + (1:Int)))) none)) - Prod.fst (Prod.snd (cutT (0:Nat)
    (List.length x.2.1) (List.length x.2.1) (some (wr .i64 (b + (1:Int)))) none)))) x.2.1))) x.2.1))))) none) none) none) none) none) (obind (w_ref7_Of (x.1, b_1)) fun b_2 => cnd (decide ((0:Int) ≤ b) && decide (b < (↑(List.length x.2.1) : Int))) (cnd (decide (x.2.2.2 ≤ (↑(List.length b_1) :
    Int))) (some (putL x.2.1 [b_2] (Int.toNat b))) (cnd (decide ((↑(List.length (putL x.2.1 [b_2] (Int.toNat b))) : Int) = (1:Int))) (some (putL x.2.1
    [b_2] (Int.toNat b))) (obind (loopN N (fun (v : Int × List (List Int × Int) × List Int) => cnd (decide (v.1 < (↑(List.length v.2.1) : Int))) (cnd
    (decide (v.1 ≠ b)) (cnd (decide ((0:Int) ≤ v.1) && decide (v.1 < (↑(List.length v.2.1) : Int))) (cnd (decide ((List.length v.2.2 + (1:Nat)) *
    (8:Nat) ≤ (140737488355328:Nat))) (some (Sum.inl (wr .i64 (v.1 + (1:Int)), v.2.1, v.2.2 ++ [Prod.snd (List.getD v.2.1 (Int.toNat v.1) ([],
    (0:Int)))]))) none) none) (some (Sum.inl (wr .i64 (v.1 + (1:Int)), v.2)))) (some (Sum.inr (v.2.2, v.2.1)))) ((0:Int), putL x.2.1 [b_2] (Int.toNat
    b), [])) fun (b_3 : List Int × List (List Int × Int)) => cnd (decide ((0:Int) ≤ b) && decide (b < (↑(List.length b_3.2) : Int))) (obind (w_ref7_Near (x.1, Prod.snd (List.getD b_3.2 (Int.toNat b) ([], (0:Int))), b_3.1)) fun b_4 => obind (w_ref7_Home (b_3.2, b_4)) fun b_5 => cnd (decide
    (List.length b_1 * (8:Nat) ≤ (140737488355328:Nat))) (cnd (decide ((0:Int) ≤ b_5) && decide (b_5 < (↑(List.length b_3.2) : Int))) (cnd (decide
    ((List.length b_1 + List.length (Prod.fst (List.getD b_3.2 (Int.toNat b_5) ([], (0:Int))))) * (8:Nat) ≤ (140737488355328:Nat))) (obind
    (w_ref7_Rising (b_1 ++ Prod.fst (List.getD b_3.2 (Int.toNat b_5) ([], (0:Int))))) fun b_6 => obind (w_ref7_Of (x.1, b_6)) fun b_7 => cnd (decide
    ((0:Int) ≤ b) && decide (b < (↑(List.length b_3.2) : Int))) (obind (cnd (decide (Option.getD none (0:Int) ≤ b_5)) (cnd (decide ((↑(0:Nat) : Int) +
    b_5 ≤ (↑(List.length (putL b_3.2 [b_7] (Int.toNat b))) : Int))) (cnd (decide (List.length (List.drop ((0:Nat) + Prod.fst (Prod.snd (cutT (0:Nat)
    (List.length (putL b_3.2 [b_7] (Int.toNat b))) (List.length (putL b_3.2 [b_7] (Int.toNat b))) none (some b_5)))) (List.take ((0:Nat) + Prod.fst
    (Prod.snd (cutT (0:Nat) (List.length (putL b_3.2 [b_7] (Int.toNat b))) (List.length (putL b_3.2 [b_7] (Int.toNat b))) none (some b_5))) + (Prod.snd
    (Prod.snd (cutT (0:Nat) (List.length (putL b_3.2 [b_7] (Int.toNat b))) (List.length (putL b_3.2 [b_7] (Int.toNat b))) none (some b_5))) - Prod.fst
    (Prod.snd (cutT (0:Nat) (List.length (putL b_3.2 [b_7] (Int.toNat b))) (List.length (putL b_3.2 [b_7] (Int.toNat b))) none (some b_5))))) (putL
    b_3.2 [b_7] (Int.toNat b)))) * (32:Nat) ≤ (140737488355328:Nat))) (cnd (decide ((0:Int) ≤ Option.getD (some (wr .i64 (b_5 + (1:Int)))) (0:Int)))
    (cnd (decide (Option.getD (some (wr .i64 (b_5 + (1:Int)))) (0:Int) ≤ (↑(List.length (putL b_3.2 [b_7] (Int.toNat b))) : Int))) (cnd (decide
    ((List.length (List.drop ((0:Nat) + Prod.fst (Prod.snd (cutT (0:Nat) (List.length (putL b_3.2 [b_7] (Int.toNat b))) (List.length (putL b_3.2 [b_7]
    (Int.toNat b))) none (some b_5)))) (List.take ((0:Nat) + Prod.fst (Prod.snd (cutT (0:Nat) (List.length (putL b_3.2 [b_7] (Int.toNat b)))
    (List.length (putL b_3.2 [b_7] (Int.toNat b))) none (some b_5))) + (Prod.snd (Prod.snd (cutT (0:Nat) (List.length (putL b_3.2 [b_7] (Int.toNat b)))
    (List.length (putL b_3.2 [b_7] (Int.toNat b))) none (some b_5))) - Prod.fst (Prod.snd (cutT (0:Nat) (List.length (putL b_3.2 [b_7] (Int.toNat b)))
    (List.length (putL b_3.2 [b_7] (Int.toNat b))) none (some b_5))))) (putL b_3.2 [b_7] (Int.toNat b)))) + List.length (List.drop ((0:Nat) + Prod.fst
    (Prod.snd (cutT (0:Nat) (List.length (putL b_3.2 [b_7] (Int.toNat b))) (List.length (putL b_3.2 [b_7] (Int.toNat b))) (some (wr .i64 (b_5 +
    (1:Int)))) none))) (List.take ((0:Nat) + Prod.fst (Prod.snd (cutT (0:Nat) (List.length (putL b_3.2 [b_7] (Int.toNat b))) (List.length (putL b_3.2
    [b_7] (Int.toNat b))) (some (wr .i64 (b_5 + (1:Int)))) none)) + (Prod.snd (Prod.snd (cutT (0:Nat) (List.length (putL b_3.2 [b_7] (Int.toNat b)))
    (List.length (putL b_3.2 [b_7] (Int.toNat b))) (some (wr .i64 (b_5 + (1:Int)))) none)) - Prod.fst (Prod.snd (cutT (0:Nat) (List.length (putL b_3.2
    [b_7] (Int.toNat b))) (List.length (putL b_3.2 [b_7] (Int.toNat b))) (some (wr .i64 (b_5 + (1:Int)))) none)))) (putL b_3.2 [b_7] (Int.toNat b))))) *
    (32:Nat) ≤ (140737488355328:Nat))) (some (List.drop ((0:Nat) + Prod.fst (Prod.snd (cutT (0:Nat) (List.length (putL b_3.2 [b_7] (Int.toNat b)))
    (List.length (putL b_3.2 [b_7] (Int.toNat b))) none (some b_5)))) (List.take ((0:Nat) + Prod.fst (Prod.snd (cutT (0:Nat) (List.length (putL b_3.2
    [b_7] (Int.toNat b))) (List.length (putL b_3.2 [b_7] (Int.toNat b))) none (some b_5))) + (Prod.snd (Prod.snd (cutT (0:Nat) (List.length (putL b_3.2
    [b_7] (Int.toNat b))) (List.length (putL b_3.2 [b_7] (Int.toNat b))) none (some b_5))) - Prod.fst (Prod.snd (cutT (0:Nat) (List.length (putL b_3.2
    [b_7] (Int.toNat b))) (List.length (putL b_3.2 [b_7] (Int.toNat b))) none (some b_5))))) (putL b_3.2 [b_7] (Int.toNat b))) ++ List.drop ((0:Nat) +
    Prod.fst (Prod.snd (cutT (0:Nat) (List.length (putL b_3.2 [b_7] (Int.toNat b))) (List.length (putL b_3.2 [b_7] (Int.toNat b))) (some (wr .i64 (b_5 +
    (1:Int)))) none))) (List.take ((0:Nat) + Prod.fst (Prod.snd (cutT (0:Nat) (List.length (putL b_3.2 [b_7] (Int.toNat b))) (List.length (putL b_3.2
    [b_7] (Int.toNat b))) (some (wr .i64 (b_5 + (1:Int)))) none)) + (Prod.snd (Prod.snd (cutT (0:Nat) (List.length (putL b_3.2 [b_7] (Int.toNat b)))
    (List.length (putL b_3.2 [b_7] (Int.toNat b))) (some (wr .i64 (b_5 + (1:Int)))) none)) - Prod.fst (Prod.snd (cutT (0:Nat) (List.length (putL b_3.2
    [b_7] (Int.toNat b))) (List.length (putL b_3.2 [b_7] (Int.toNat b))) (some (wr .i64 (b_5 + (1:Int)))) none)))) (putL b_3.2 [b_7] (Int.toNat b)))))
    none) none) none) none) none) none) fun (b_8 : List (List Int × Int)) => obind (cnd (decide (b_5 < b)) (some (wr .i64 (b - (1:Int)))) (some b)) fun
    (b : Int) => cnd (decide ((0:Int) ≤ b) && decide (b < (↑(List.length b_8) : Int))) (cnd (decide (wr .i64 (wr .i64 ((3:Int) * x.2.2.2) - (1:Int)) <
    (↑(List.length (Prod.fst (List.getD b_8 (Int.toNat b) ([], (0:Int))))) : Int))) (obind (w_ref7_parted (x.1, b_8, b, x.2.2.2)) fun b => some b)
    (some b_8)) none) none) none) none) none) none))) none)) none)) none
theorem FV_ref7_LeaveClus_eq (w_ref7_Home : (List ((List Int) × Int)) × Int → Option (Int)) (w_ref7_without : (List Int) × Int → Option (List Int)) (w_ref7_Of : (List (List Int)) × List Int → Option ((List Int) × Int)) (w_ref7_Near : (List (List Int)) × Int × List Int → Option (Int)) (w_ref7_Rising : List Int → Option (List Int)) (w_ref7_parted : (List (List Int)) × (List ((List Int) × Int)) × Int × Int → Option (List ((List Int) × Int))) (N : Nat) (x : (List (List Int)) × (List ((List Int) × Int)) × Int × Int) : F_ref7_LeaveClus w_ref7_Home w_ref7_without w_ref7_Of w_ref7_Near w_ref7_Rising w_ref7_parted N x = V_ref7_LeaveClus w_ref7_Home w_ref7_without w_ref7_Of w_ref7_Near w_ref7_Rising w_ref7_parted N x := by kernel_rfl
noncomputable def W_ref7_LeaveClus (N : Nat) (x : (List (List Int)) × (List ((List Int) × Int)) × Int × Int) : Option (List ((List Int) × Int)) := V_ref7_LeaveClus (W_ref7_Home N) (W_ref7_without N) (W_ref7_Of N) (W_ref7_Near N) (W_ref7_Rising N) (W_ref7_parted N) N x
theorem F_ref7_LeaveClus_eq (N : Nat) (x : (List (List Int)) × (List ((List Int) × Int)) × Int × Int) : F_ref7_LeaveClus (W_ref7_Home N) (W_ref7_without N) (W_ref7_Of N) (W_ref7_Near N) (W_ref7_Rising N) (W_ref7_parted N) N x = W_ref7_LeaveClus N x := (FV_ref7_LeaveClus_eq (W_ref7_Home N) (W_ref7_without N) (W_ref7_Of N) (W_ref7_Near N) (W_ref7_Rising N) (W_ref7_parted N) N x).trans (by kernel_rfl)
noncomputable def conw_ref7_LeaveClus (w : (List (List Int)) × (List ((List Int) × Int)) × Int × Int → Option (List ((List Int) × Int))) : Con := ⟨22, as_ref7_LeaveClus, bs_ref7_LeaveClus, List ((List Int) × Int), w, out_ref7_LeaveClus⟩
noncomputable def con_ref7_LeaveClus (N : Nat) : Con := conw_ref7_LeaveClus (W_ref7_LeaveClus N)
theorem R_ref7_LeaveClus_eq (x : (List (List Int)) × (List ((List Int) × Int)) × Int × Int) (y : List ((List Int) × Int)) : retOf2 P0 Try.f22 (kpL []) (lbOf as_ref7_LeaveClus bs_ref7_LeaveClus x) (patS ⟨131, [], [], []⟩ pout_ref7_LeaveClus y) = some (out_ref7_LeaveClus y) := by kernel_rfl
theorem con_ref7_LeaveClus_ok (N : Nat) : Con.ok P0 (con_ref7_LeaveClus N) := ⟨⟨Try.f22, Try.func22, by kernel_rfl, by kernel_rfl⟩, fun (x : (List (List Int)) × (List ((List Int) × Int)) × Int × Int) (r : List ((List Int) × Int)) (hr : W_ref7_LeaveClus N x = some r) =>
  spec2_evT (Γ := G_ref7_LeaveClus (W_ref7_Home N) (W_ref7_without N) (W_ref7_Of N) (W_ref7_Near N) (W_ref7_Rising N) (W_ref7_parted N) N) (Λ := L0) (pout := pout_ref7_LeaveClus) (kp := kpL []) mixed (orcOf_ok _ (by simp only [List.mem_cons, List.not_mem_nil, or_false, forall_eq_or_imp, forall_eq]; exact ⟨con_ref7_Home_ok N, con_ref7_without_ok N, con_ref7_Of_ok N, con_ref7_Near_ok N, con_ref7_Rising_ok N, con_ref7_parted_ok N⟩)) Try.func22 (c := bodyOf Try.f22) (by kernel_rfl) (by kernel_rfl) (of_decide_eq_true (by kernel_rfl)) ((F_ref7_LeaveClus_eq N x).trans hr) (R_ref7_LeaveClus_eq x r)⟩
def as_ref1_SameInts : List AS := [.val (.list (.int .i64)), .val (.list (.int .i64))]
def bs_ref1_SameInts : List BS := []
def pout_ref1_SameInts : Pat := ⟨[(4, .val .bool)], []⟩
noncomputable def G_ref1_SameInts  (N : Nat) : OrcT := orcOf []
noncomputable def F_ref1_SameInts  (N : Nat) (x : (List Int) × List Int) : Option (Bool) :=
  (evT (G_ref1_SameInts  N) L0 P0 [(4, .loop [] ⟨[(5, .val (.int .i64))], []⟩ [(.exit 0, ⟨[], []⟩), (.ret, ⟨[(4, .val .bool)], []⟩)])]
    [] N 400 (bodyOf Try.f15) ⟨26, slots 0 (argsOf as_ref1_SameInts bs_ref1_SameInts x), tabU (lbOf as_ref1_SameInts bs_ref1_SameInts x) [], []⟩).elim (kRet 26 pout_ref1_SameInts (kpL []) (lbOf as_ref1_SameInts bs_ref1_SameInts x))
def out_ref1_SameInts (y : Bool) : V × List OK × List OK := (valW .bool y, [], [])
noncomputable def V_ref1_SameInts  (N : Nat) (x : (List Int) × List Int) : Option (Bool) :=
  cnd (decide ((↑(List.length x.1) : Int) ≠ (↑(List.length x.2) : Int))) (some false) (obind (loopN N (fun (v : Int) => cnd (decide (v < (↑(List.length
    x.1) : Int))) (cnd (decide ((0:Int) ≤ v) && decide (v < (↑(List.length x.1) : Int))) (cnd (decide ((0:Int) ≤ v) && decide (v < (↑(List.length x.2) :
    Int))) (cnd (decide (List.getD x.1 (Int.toNat v) (0:Int) ≠ List.getD x.2 (Int.toNat v) (0:Int))) (some (Sum.inr (Sum.inr false))) (some (Sum.inl (wr
    .i64 (v + (1:Int)))))) none) none) (some (Sum.inr (Sum.inl ())))) (Int.ofNat (0:Nat))) fun (b : PUnit ⊕ Bool) => selim (fun (b : PUnit) => some
    true) (fun (c : Bool) => some c) b)
theorem FV_ref1_SameInts_eq  (N : Nat) (x : (List Int) × List Int) : F_ref1_SameInts  N x = V_ref1_SameInts  N x := by kernel_rfl
noncomputable def W_ref1_SameInts (N : Nat) (x : (List Int) × List Int) : Option (Bool) := V_ref1_SameInts  N x
theorem F_ref1_SameInts_eq (N : Nat) (x : (List Int) × List Int) : F_ref1_SameInts  N x = W_ref1_SameInts N x := (FV_ref1_SameInts_eq  N x).trans (by kernel_rfl)
noncomputable def conw_ref1_SameInts (w : (List Int) × List Int → Option (Bool)) : Con := ⟨15, as_ref1_SameInts, bs_ref1_SameInts, Bool, w, out_ref1_SameInts⟩
noncomputable def con_ref1_SameInts (N : Nat) : Con := conw_ref1_SameInts (W_ref1_SameInts N)
theorem R_ref1_SameInts_eq (x : (List Int) × List Int) (y : Bool) : retOf2 P0 Try.f15 (kpL []) (lbOf as_ref1_SameInts bs_ref1_SameInts x) (patS ⟨26, [], [], []⟩ pout_ref1_SameInts y) = some (out_ref1_SameInts y) := by kernel_rfl
theorem con_ref1_SameInts_ok (N : Nat) : Con.ok P0 (con_ref1_SameInts N) := ⟨⟨Try.f15, Try.func15, by kernel_rfl, by kernel_rfl⟩, fun (x : (List Int) × List Int) (r : Bool) (hr : W_ref1_SameInts N x = some r) =>
  spec2_evT (Γ := G_ref1_SameInts N) (Λ := L0) (pout := pout_ref1_SameInts) (kp := kpL []) mixed (orcOf_ok [] (by simp)) Try.func15 (c := bodyOf Try.f15) (by kernel_rfl) (by kernel_rfl) (of_decide_eq_true (by kernel_rfl)) ((F_ref1_SameInts_eq N x).trans hr) (R_ref1_SameInts_eq x r)⟩
def as_ref7_SameClusters : List AS := [.val (.list (.agg (.pair (.list (.int .i64)) (.int .i64)))), .val (.list (.agg (.pair (.list (.int .i64)) (.int .i64))))]
def bs_ref7_SameClusters : List BS := []
def pout_ref7_SameClusters : Pat := ⟨[(4, .val .bool)], []⟩
noncomputable def G_ref7_SameClusters (w_ref1_SameInts : (List Int) × List Int → Option (Bool)) (N : Nat) : OrcT := orcOf [conw_ref1_SameInts w_ref1_SameInts]
noncomputable def F_ref7_SameClusters (w_ref1_SameInts : (List Int) × List Int → Option (Bool)) (N : Nat) (x : (List ((List Int) × Int)) × List ((List Int) × Int)) : Option (Bool) :=
  (evT (G_ref7_SameClusters w_ref1_SameInts N) L0 P0 [(4, .loop [] ⟨[(5, .val (.int .i64))], []⟩ [(.exit 0, ⟨[], []⟩), (.ret, ⟨[(4, .val .bool)], []⟩)])]
    [] N 400 (bodyOf Try.f16) ⟨42, slots 0 (argsOf as_ref7_SameClusters bs_ref7_SameClusters x), tabU (lbOf as_ref7_SameClusters bs_ref7_SameClusters x) [], []⟩).elim (kRet 42 pout_ref7_SameClusters (kpL []) (lbOf as_ref7_SameClusters bs_ref7_SameClusters x))
def out_ref7_SameClusters (y : Bool) : V × List OK × List OK := (valW .bool y, [], [])
noncomputable def V_ref7_SameClusters (w_ref1_SameInts : (List Int) × List Int → Option (Bool)) (N : Nat) (x : (List ((List Int) × Int)) × List ((List Int) × Int)) : Option (Bool) :=
  cnd (decide ((↑(List.length x.1) : Int) ≠ (↑(List.length x.2) : Int))) (some false) (obind (loopN N (fun (v : Int) => cnd (decide (v < (↑(List.length
    x.1) : Int))) (cnd (decide ((0:Int) ≤ v) && decide (v < (↑(List.length x.1) : Int))) (cnd (decide ((0:Int) ≤ v) && decide (v < (↑(List.length x.2) :
    Int))) (cnd (decide (Prod.snd (List.getD x.1 (Int.toNat v) ([], (0:Int))) ≠ Prod.snd (List.getD x.2 (Int.toNat v) ([], (0:Int))))) (some (Sum.inr
    (Sum.inr false))) (cnd (decide ((0:Int) ≤ v) && decide (v < (↑(List.length x.1) : Int))) (cnd (decide ((0:Int) ≤ v) && decide (v < (↑(List.length
    x.2) : Int))) (obind (w_ref1_SameInts (Prod.fst (List.getD x.1 (Int.toNat v) ([], (0:Int))), Prod.fst (List.getD x.2 (Int.toNat v) ([],
    (0:Int))))) fun b => cnd (!b) (some (Sum.inr (Sum.inr false))) (some (Sum.inl (wr .i64 (v + (1:Int)))))) none) none)) none) none) (some (Sum.inr
    (Sum.inl ())))) (Int.ofNat (0:Nat))) fun (b : PUnit ⊕ Bool) => selim (fun (b : PUnit) => some true) (fun (c : Bool) => some c) b)
theorem FV_ref7_SameClusters_eq (w_ref1_SameInts : (List Int) × List Int → Option (Bool)) (N : Nat) (x : (List ((List Int) × Int)) × List ((List Int) × Int)) : F_ref7_SameClusters w_ref1_SameInts N x = V_ref7_SameClusters w_ref1_SameInts N x := by kernel_rfl
noncomputable def W_ref7_SameClusters (N : Nat) (x : (List ((List Int) × Int)) × List ((List Int) × Int)) : Option (Bool) := V_ref7_SameClusters (W_ref1_SameInts N) N x
theorem F_ref7_SameClusters_eq (N : Nat) (x : (List ((List Int) × Int)) × List ((List Int) × Int)) : F_ref7_SameClusters (W_ref1_SameInts N) N x = W_ref7_SameClusters N x := (FV_ref7_SameClusters_eq (W_ref1_SameInts N) N x).trans (by kernel_rfl)
noncomputable def conw_ref7_SameClusters (w : (List ((List Int) × Int)) × List ((List Int) × Int) → Option (Bool)) : Con := ⟨16, as_ref7_SameClusters, bs_ref7_SameClusters, Bool, w, out_ref7_SameClusters⟩
noncomputable def con_ref7_SameClusters (N : Nat) : Con := conw_ref7_SameClusters (W_ref7_SameClusters N)
theorem R_ref7_SameClusters_eq (x : (List ((List Int) × Int)) × List ((List Int) × Int)) (y : Bool) : retOf2 P0 Try.f16 (kpL []) (lbOf as_ref7_SameClusters bs_ref7_SameClusters x) (patS ⟨42, [], [], []⟩ pout_ref7_SameClusters y) = some (out_ref7_SameClusters y) := by kernel_rfl
theorem con_ref7_SameClusters_ok (N : Nat) : Con.ok P0 (con_ref7_SameClusters N) := ⟨⟨Try.f16, Try.func16, by kernel_rfl, by kernel_rfl⟩, fun (x : (List ((List Int) × Int)) × List ((List Int) × Int)) (r : Bool) (hr : W_ref7_SameClusters N x = some r) =>
  spec2_evT (Γ := G_ref7_SameClusters (W_ref1_SameInts N) N) (Λ := L0) (pout := pout_ref7_SameClusters) (kp := kpL []) mixed (orcOf_ok _ (by simp only [List.mem_cons, List.not_mem_nil, or_false, forall_eq_or_imp, forall_eq]; exact con_ref1_SameInts_ok N)) Try.func16 (c := bodyOf Try.f16) (by kernel_rfl) (by kernel_rfl) (of_decide_eq_true (by kernel_rfl)) ((F_ref7_SameClusters_eq N x).trans hr) (R_ref7_SameClusters_eq x r)⟩
def as_law8_ClusMoves : List AS := [.val (.list (.int .u8)), .val (.list (.agg (.pair (.int .u8) (.pair (.int .u8) (.int .u8))))), .val (.int .u8)]
def bs_law8_ClusMoves : List BS := []
def pout_law8_ClusMoves : Pat := ⟨[(6, .val .bool)], []⟩
noncomputable def G_law8_ClusMoves (w_law8_begun : Unit → Option (Bool)) (w_Made : List Int → Option ((List Int) × Int)) (w_Picks_Dist : (List Int) × Int → Option ((List (List Int)) × (List Int) × Int)) (w_clus_Join : (List (List Int)) × (List ((List Int) × Int)) × Int × Int × Int → Option (List ((List Int) × Int))) (w_ref7_JoinClus : (List (List Int)) × (List ((List Int) × Int)) × Int × Int × Int → Option (List ((List Int) × Int))) (w_clus_Leave : (List (List Int)) × (List ((List Int) × Int)) × Int × Int → Option (List ((List Int) × Int))) (w_ref7_LeaveClus : (List (List Int)) × (List ((List Int) × Int)) × Int × Int → Option (List ((List Int) × Int))) (w_ref7_SameClusters : (List ((List Int) × Int)) × List ((List Int) × Int) → Option (Bool)) (N : Nat) : OrcT := orcOf [conw_law8_begun w_law8_begun, conw_Made w_Made, conw_Picks_Dist w_Picks_Dist, conw_clus_Join w_clus_Join, conw_ref7_JoinClus w_ref7_JoinClus, conw_clus_Leave w_clus_Leave, conw_ref7_LeaveClus w_ref7_LeaveClus, conw_ref7_SameClusters w_ref7_SameClusters]
noncomputable def F_law8_ClusMoves (w_law8_begun : Unit → Option (Bool)) (w_Made : List Int → Option ((List Int) × Int)) (w_Picks_Dist : (List Int) × Int → Option ((List (List Int)) × (List Int) × Int)) (w_clus_Join : (List (List Int)) × (List ((List Int) × Int)) × Int × Int × Int → Option (List ((List Int) × Int))) (w_ref7_JoinClus : (List (List Int)) × (List ((List Int) × Int)) × Int × Int × Int → Option (List ((List Int) × Int))) (w_clus_Leave : (List (List Int)) × (List ((List Int) × Int)) × Int × Int → Option (List ((List Int) × Int))) (w_ref7_LeaveClus : (List (List Int)) × (List ((List Int) × Int)) × Int × Int → Option (List ((List Int) × Int))) (w_ref7_SameClusters : (List ((List Int) × Int)) × List ((List Int) × Int) → Option (Bool)) (N : Nat) (x : (List Int) × (List (Int × Int × Int)) × Int) : Option (Bool) :=
  (evT (G_law8_ClusMoves w_law8_begun w_Made w_Picks_Dist w_clus_Join w_ref7_JoinClus w_clus_Leave w_ref7_LeaveClus w_ref7_SameClusters N) L0 P0 [(9, .loop [7] ⟨[(9, .val (.list (.agg (.pair (.list (.int .i64)) (.int .i64))))), (10, .val (.list (.agg (.pair (.list (.int .i64)) (.int .i64))))), (11, .val (.int .i64))], []⟩ [(.exit 0, ⟨[], []⟩), (.ret, ⟨[(6, .val .bool)], []⟩)])]
    [] N 400 (bodyOf Try.f4) ⟨86, slots 0 (argsOf as_law8_ClusMoves bs_law8_ClusMoves x), tabU (lbOf as_law8_ClusMoves bs_law8_ClusMoves x) [], []⟩).elim (kRet 86 pout_law8_ClusMoves (kpL []) (lbOf as_law8_ClusMoves bs_law8_ClusMoves x))
def out_law8_ClusMoves (y : Bool) : V × List OK × List OK := (valW .bool y, [], [])
noncomputable def V_law8_ClusMoves (w_law8_begun : Unit → Option (Bool)) (w_Made : List Int → Option ((List Int) × Int)) (w_Picks_Dist : (List Int) × Int → Option ((List (List Int)) × (List Int) × Int)) (w_clus_Join : (List (List Int)) × (List ((List Int) × Int)) × Int × Int × Int → Option (List ((List Int) × Int))) (w_ref7_JoinClus : (List (List Int)) × (List ((List Int) × Int)) × Int × Int × Int → Option (List ((List Int) × Int))) (w_clus_Leave : (List (List Int)) × (List ((List Int) × Int)) × Int × Int → Option (List ((List Int) × Int))) (w_ref7_LeaveClus : (List (List Int)) × (List ((List Int) × Int)) × Int × Int → Option (List ((List Int) × Int))) (w_ref7_SameClusters : (List ((List Int) × Int)) × List ((List Int) × Int) → Option (Bool)) (N : Nat) (x : (List Int) × (List (Int × Int × Int)) × Int) : Option (Bool) :=
  obind (w_law8_begun ()) fun b => cnd (!b) (some false) (cnd (decide ((30:Int) < (↑(List.length x.1) : Int))) (some true) (cnd (decide ((20:Int) <
    (↑(List.length x.2.1) : Int))) (some true) (obind (w_Made x.1) fun b => obind (w_Picks_Dist b) fun b => obind (loopN N (fun (v : List (List Int
    × Int) × List (List Int × Int) × Int) => cnd (decide (v.2.2 < (↑(List.length x.2.1) : Int))) (cnd (decide ((0:Int) ≤ v.2.2) && decide (v.2.2 <
    (↑(List.length x.2.1) : Int))) (cnd (decide ((0:Int) ≤ v.2.2) && decide (v.2.2 < (↑(List.length x.2.1) : Int))) (cnd (decide ((0:Int) ≤ v.2.2) &&
    decide (v.2.2 < (↑(List.length x.2.1) : Int))) (cnd (decide ((0:Int) < Int.tmod (Prod.snd (Prod.snd (List.getD x.2.1 (Int.toNat v.2.2) ((0:Int),
    (0:Int), (0:Int))))) (3:Int))) (obind (w_clus_Join (b.1, v.1, wr .i64 (wr .i64 (Int.tmod (Prod.fst (Prod.snd (List.getD x.2.1 (Int.toNat v.2.2)
    ((0:Int), (0:Int), (0:Int))))) (5:Int)) - (1:Int)), wr .i64 ((1:Int) + wr .i64 (Int.tmod (Prod.fst (List.getD x.2.1 (Int.toNat v.2.2) ((0:Int),
    (0:Int), (0:Int)))) (8:Int))), wr .i64 ((1:Int) + wr .i64 (Int.tmod x.2.2 (3:Int))))) fun b_1 => obind (w_ref7_JoinClus (b.1, v.2.1, wr .i64 (wr
    .i64 (Int.tmod (Prod.fst (Prod.snd (List.getD x.2.1 (Int.toNat v.2.2) ((0:Int), (0:Int), (0:Int))))) (5:Int)) - (1:Int)), wr .i64 ((1:Int) + wr .i64
    (Int.tmod (Prod.fst (List.getD x.2.1 (Int.toNat v.2.2) ((0:Int), (0:Int), (0:Int)))) (8:Int))), wr .i64 ((1:Int) + wr .i64 (Int.tmod x.2.2
    (3:Int))))) fun b => obind (w_ref7_SameClusters (b_1, b)) fun b_2 => cnd (!b_2) (some (Sum.inr (Sum.inr false))) (some (Sum.inl (b_1, b, wr .i64
    (v.2.2 + (1:Int)))))) (obind (w_clus_Leave (b.1, v.1, wr .i64 ((1:Int) + wr .i64 (Int.tmod (Prod.fst (List.getD x.2.1 (Int.toNat v.2.2) ((0:Int),
    (0:Int), (0:Int)))) (8:Int))), wr .i64 ((1:Int) + wr .i64 (Int.tmod x.2.2 (3:Int))))) fun b_1 => obind (w_ref7_LeaveClus (b.1, v.2.1, wr .i64
    ((1:Int) + wr .i64 (Int.tmod (Prod.fst (List.getD x.2.1 (Int.toNat v.2.2) ((0:Int), (0:Int), (0:Int)))) (8:Int))), wr .i64 ((1:Int) + wr .i64
    (Int.tmod x.2.2 (3:Int))))) fun b => obind (w_ref7_SameClusters (b_1, b)) fun b_2 => cnd (!b_2) (some (Sum.inr (Sum.inr false))) (some (Sum.inl
    (b_1, b, wr .i64 (v.2.2 + (1:Int))))))) none) none) none) (some (Sum.inr (Sum.inl ())))) ([], [], (0:Int))) fun (b : PUnit ⊕ Bool) => selim (fun (b
    : PUnit) => some true) (fun (c : Bool) => some c) b)))
theorem FV_law8_ClusMoves_eq (w_law8_begun : Unit → Option (Bool)) (w_Made : List Int → Option ((List Int) × Int)) (w_Picks_Dist : (List Int) × Int → Option ((List (List Int)) × (List Int) × Int)) (w_clus_Join : (List (List Int)) × (List ((List Int) × Int)) × Int × Int × Int → Option (List ((List Int) × Int))) (w_ref7_JoinClus : (List (List Int)) × (List ((List Int) × Int)) × Int × Int × Int → Option (List ((List Int) × Int))) (w_clus_Leave : (List (List Int)) × (List ((List Int) × Int)) × Int × Int → Option (List ((List Int) × Int))) (w_ref7_LeaveClus : (List (List Int)) × (List ((List Int) × Int)) × Int × Int → Option (List ((List Int) × Int))) (w_ref7_SameClusters : (List ((List Int) × Int)) × List ((List Int) × Int) → Option (Bool)) (N : Nat) (x : (List Int) × (List (Int × Int × Int)) × Int) : F_law8_ClusMoves w_law8_begun w_Made w_Picks_Dist w_clus_Join w_ref7_JoinClus w_clus_Leave w_ref7_LeaveClus w_ref7_SameClusters N x = V_law8_ClusMoves w_law8_begun w_Made w_Picks_Dist w_clus_Join w_ref7_JoinClus w_clus_Leave w_ref7_LeaveClus w_ref7_SameClusters N x := by kernel_rfl
noncomputable def W_law8_ClusMoves (N : Nat) (x : (List Int) × (List (Int × Int × Int)) × Int) : Option (Bool) := V_law8_ClusMoves (W_law8_begun N) (W_Made N) (W_Picks_Dist N) (W_clus_Join N) (W_ref7_JoinClus N) (W_clus_Leave N) (W_ref7_LeaveClus N) (W_ref7_SameClusters N) N x
theorem F_law8_ClusMoves_eq (N : Nat) (x : (List Int) × (List (Int × Int × Int)) × Int) : F_law8_ClusMoves (W_law8_begun N) (W_Made N) (W_Picks_Dist N) (W_clus_Join N) (W_ref7_JoinClus N) (W_clus_Leave N) (W_ref7_LeaveClus N) (W_ref7_SameClusters N) N x = W_law8_ClusMoves N x := (FV_law8_ClusMoves_eq (W_law8_begun N) (W_Made N) (W_Picks_Dist N) (W_clus_Join N) (W_ref7_JoinClus N) (W_clus_Leave N) (W_ref7_LeaveClus N) (W_ref7_SameClusters N) N x).trans (by kernel_rfl)
noncomputable def conw_law8_ClusMoves (w : (List Int) × (List (Int × Int × Int)) × Int → Option (Bool)) : Con := ⟨4, as_law8_ClusMoves, bs_law8_ClusMoves, Bool, w, out_law8_ClusMoves⟩
noncomputable def con_law8_ClusMoves (N : Nat) : Con := conw_law8_ClusMoves (W_law8_ClusMoves N)
theorem R_law8_ClusMoves_eq (x : (List Int) × (List (Int × Int × Int)) × Int) (y : Bool) : retOf2 P0 Try.f4 (kpL []) (lbOf as_law8_ClusMoves bs_law8_ClusMoves x) (patS ⟨86, [], [], []⟩ pout_law8_ClusMoves y) = some (out_law8_ClusMoves y) := by kernel_rfl
theorem con_law8_ClusMoves_ok (N : Nat) : Con.ok P0 (con_law8_ClusMoves N) := ⟨⟨Try.f4, Try.func4, by kernel_rfl, by kernel_rfl⟩, fun (x : (List Int) × (List (Int × Int × Int)) × Int) (r : Bool) (hr : W_law8_ClusMoves N x = some r) =>
  spec2_evT (Γ := G_law8_ClusMoves (W_law8_begun N) (W_Made N) (W_Picks_Dist N) (W_clus_Join N) (W_ref7_JoinClus N) (W_clus_Leave N) (W_ref7_LeaveClus N) (W_ref7_SameClusters N) N) (Λ := L0) (pout := pout_law8_ClusMoves) (kp := kpL []) mixed (orcOf_ok _ (by simp only [List.mem_cons, List.not_mem_nil, or_false, forall_eq_or_imp, forall_eq]; exact ⟨con_law8_begun_ok N, con_Made_ok N, con_Picks_Dist_ok N, con_clus_Join_ok N, con_ref7_JoinClus_ok N, con_clus_Leave_ok N, con_ref7_LeaveClus_ok N, con_ref7_SameClusters_ok N⟩)) Try.func4 (c := bodyOf Try.f4) (by kernel_rfl) (by kernel_rfl) (of_decide_eq_true (by kernel_rfl)) ((F_law8_ClusMoves_eq N x).trans hr) (R_law8_ClusMoves_eq x r)⟩
end Go.Proofs.Ytnjmmfcikdfinaa.clusMovesX
