/- HierMay: for all arguments the call returns true. The law is brought to a function of Lean's own (W_..) by the machine of the texts beside it, and that is reckoned; no condition. -/
import Derived.Test.YtpohfnebmmjpdaaExtSo
import Derived.Test.YtpohfnebmmjpdaaExtCm
import Derived.Test.YtpohfnebmmjpdaaRows
import Derived.WalkKit
import Derived.ProofKit
import Derived.OpenShut
import Derived.ShutString
import Derived.ChangeOld
import Derived.Below
import Derived.Shelf.Sort.Plain
import Derived.Shelf.Slices.In.SortNone
import Derived.Shelf.SlicesE.DeleteFunc
import Derived.Shelf.RegionOpenPlain
import Derived.Deep.RegionLaw
import Derived.Lib.Walk
namespace Go.Proofs.Ytpohfnebmmjpdaa.hierMayX
open Go.Abs Go.RowKit Go.ChangeShapes Go.WideShapes Go.ChangeAt
set_option maxRecDepth 100000
set_option linter.unusedVariables false
set_option linter.unusedSimpArgs false
noncomputable abbrev P0 : Program := Try.prog
noncomputable def bodyOf (fn : Func) : Code := fn.body.getD .skip
def L0 : Lend := fun f => aget [] [(57, [0]), (82, [0]), (87, [0]), (91, [0]), (92, [0]), (93, [0]), (95, [0]), (96, [0]), (98, [0]), (99, [0]), (106, [0])] f
def kpL (l : List Bool) : Nat → Bool := fun j => l.getD j true
theorem own : ownKnob Try.prog.godebug = none := by kernel_rfl
theorem laidOut : laidOutB Try.prog = true := by kernel_rfl
theorem mixed : P0.follows .mixedOrders = true := by decide +kernel
theorem progOk_ : progOk P0 = true := by decide +kernel
def soRen : Go.Shelf.Ren := ⟨fun | 189 => 57 | 125 => 83 | 257 => 82 | 128 => 100 | 129 => 101 | 294 => 91 | 295 => 92 | 296 => 93 | 297 => 94 | 298 => 95 | 299 => 96 | 216 => 97 | 300 => 98 | 301 => 99 | 328 => 106 | 329 => 107 | 330 => 108 | 331 => 109 | 332 => 110 | 215 => 111 | 343 => 113 | n => n, fun | 28 => 25 | 3 => 3 | 46 => 101 | 0 => 0 | 51 => 119 | 53 => 121 | 4 => 4 | 183 => 112 | 182 => 111 | 131 => 116 | 5 => 5 | 9 => 9 | 218 => 128 | 222 => 132 | 228 => 135 | 229 => 136 | n => n, fun | n => n⟩
theorem soLays : Go.Proofs.Lays.n189 Try.prog soRen := {
  mixed := by kernel_rfl
  f125 := Try.func83.trans (congrArg some (by kernel_rfl))
  f128 := Try.func100.trans (congrArg some (by kernel_rfl))
  f129 := Try.func101.trans (congrArg some (by kernel_rfl))
  f189 := Try.func57.trans (congrArg some (by kernel_rfl))
  f215 := Try.func111.trans (congrArg some (by kernel_rfl))
  f216 := Try.func97.trans (congrArg some (by kernel_rfl))
  f257 := Try.func82.trans (congrArg some (by kernel_rfl))
  f294 := Try.func91.trans (congrArg some (by kernel_rfl))
  f295 := Try.func92.trans (congrArg some (by kernel_rfl))
  f296 := Try.func93.trans (congrArg some (by kernel_rfl))
  f297 := Try.func94.trans (congrArg some (by kernel_rfl))
  f298 := Try.func95.trans (congrArg some (by kernel_rfl))
  f299 := Try.func96.trans (congrArg some (by kernel_rfl))
  f300 := Try.func98.trans (congrArg some (by kernel_rfl))
  f301 := Try.func99.trans (congrArg some (by kernel_rfl))
  f328 := Try.func106.trans (congrArg some (by kernel_rfl))
  f329 := Try.func107.trans (congrArg some (by kernel_rfl))
  f330 := Try.func108.trans (congrArg some (by kernel_rfl))
  f331 := Try.func109.trans (congrArg some (by kernel_rfl))
  f332 := Try.func110.trans (congrArg some (by kernel_rfl))
  f343 := Try.func113.trans (congrArg some (by kernel_rfl))
  t0 := Try.underlying0
  a0 := Try.isAgg0
  z0 := Try.sizeOf0
  v0 := Try.zeroValue0
  t3 := Try.underlying3
  a3 := Try.isAgg3
  z3 := Try.sizeOf3
  v3 := Try.zeroValue3
  t4 := Try.underlying4
  a4 := Try.isAgg4
  z4 := Try.sizeOf4
  v4 := Try.zeroValue4
  t5 := Try.underlying5
  a5 := Try.isAgg5
  z5 := Try.sizeOf5
  v5 := Try.zeroValue5
  t9 := Try.underlying9
  a9 := Try.isAgg9
  z9 := Try.sizeOf9
  v9 := Try.zeroValue9
  t28 := Try.underlying25
  a28 := Try.isAgg25
  z28 := Try.sizeOf25
  v28 := Try.zeroValue25
  t46 := Try.underlying101
  a46 := Try.isAgg101
  z46 := Try.sizeOf101
  v46 := Try.zeroValue101
  t51 := Try.underlying119
  a51 := Try.isAgg119
  z51 := Try.sizeOf119
  v51 := Try.zeroValue119
  t53 := Try.underlying121
  a53 := Try.isAgg121
  z53 := Try.sizeOf121
  v53 := Try.zeroValue121
  t131 := Try.underlying116
  a131 := Try.isAgg116
  z131 := Try.sizeOf116
  v131 := Try.zeroValue116
  t182 := Try.underlying111
  a182 := Try.isAgg111
  z182 := Try.sizeOf111
  v182 := Try.zeroValue111
  t183 := Try.underlying112
  a183 := Try.isAgg112
  z183 := Try.sizeOf112
  v183 := Try.zeroValue112
  t218 := Try.underlying128
  a218 := Try.isAgg128
  z218 := Try.sizeOf128
  v218 := Try.zeroValue128
  t222 := Try.underlying132
  a222 := Try.isAgg132
  z222 := Try.sizeOf132
  v222 := Try.zeroValue132
  t228 := Try.underlying135
  a228 := Try.isAgg135
  z228 := Try.sizeOf135
  v228 := Try.zeroValue135
  t229 := Try.underlying136
  a229 := Try.isAgg136
  z229 := Try.sizeOf136
  v229 := Try.zeroValue136 }
open Go.Sort Go.RowKit in
theorem soSort (blk off cap : Nat) (zs : List Int) (w : World) (hH : Holds (Value.int .i64) w blk off zs.toArray) (hblk : blk < w.heap.size) (hsz : zs.length < 4611686018427387904) :
    Calls Try.prog 57 #[.slice (some ⟨blk, off, none⟩) zs.length cap] w fun e w' =>
      e = .returned (.tuple #[]) ∧ ∃ n os, w' = grow (putRow (Value.int .i64) (Sort.ahead w n) blk off (zs.mergeSort fun x y => decide (x ≤ y)).toArray) os := Any.slices_Sort_int soLays blk off cap zs w hH hblk hsz
def dfRen : Go.Shelf.Ren := ⟨fun | 10 => 87 | 6 => 105 | n => n, fun | 22 => 25 | 23 => 3 | 25 => 105 | 3 => 3 | 4 => 4 | 0 => 0 | n => n, fun | n => n⟩
theorem dfLays : Go.Proofs.SlLaysH.n10 Try.prog dfRen := {
  mixed := by kernel_rfl
  f6 := ⟨Try.f105.name, by decide, Try.func105.trans (congrArg some (by kernel_rfl))⟩
  f10 := ⟨Try.f87.name, by decide, Try.func87.trans (congrArg some (by kernel_rfl))⟩
  t0 := Try.underlying0
  a0 := Try.isAgg0
  z0 := Try.sizeOf0
  v0 := Try.zeroValue0
  t3 := Try.underlying3
  a3 := Try.isAgg3
  z3 := Try.sizeOf3
  v3 := Try.zeroValue3
  t4 := Try.underlying4
  a4 := Try.isAgg4
  z4 := Try.sizeOf4
  v4 := Try.zeroValue4
  t22 := Try.underlying25
  a22 := Try.isAgg25
  z22 := Try.sizeOf25
  v22 := Try.zeroValue25
  a23 := Try.isAgg3
  z23 := Try.sizeOf3
  t25 := Try.underlying105
  a25 := Try.isAgg105
  z25 := Try.sizeOf105
  v25 := Try.zeroValue105 }
open Go.RowKit Go.Lib Go.Sort in
theorem dfDel {α : Type} [Inhabited α] (enc : α → Value) (hO : OneCell enc) (p : α → Bool) (g : Nat) (lb : Array Value) (eg : ∀ args w, (callFunc g args).run Try.prog w = .ok (.enter g args) w) (zr : α) (v23 : ∀ w, (zeroValue 3).run Try.prog w = .ok (enc zr) w) (blk off cap : Nat) (d : Array α) (w : World) (hp : PredAt Try.prog g lb enc p w) (hpo : PredOver Try.prog g lb enc p blk off d.size w) (hH : Holds enc w blk off d) (hsz : d.size ≤ 9223372036854775807) (hcap : d.size ≤ cap) :
    Calls Try.prog 87 #[.slice (some ⟨blk, off, none⟩) d.size cap, .func (.func g) #[] lb] w fun e w' => e = .returned (.slice (some ⟨blk, off, none⟩) (d.toList.filter fun x => !p x).length cap) ∧ ∃ q, w' = putRow enc (Sort.ahead w q) blk off ((d.toList.filter fun x => !p x) ++ List.replicate (d.size - (d.toList.filter fun x => !p x).length) zr).toArray := AnyE.slices_DeleteFunc dfLays enc hO p g lb eg zr v23 blk off cap d w hp hpo hH hsz hcap

theorem soN57 : SoN Try.prog 57 := fun p cap w => Any.slices_Sort_int_none soLays p cap w
theorem soF57 : SoF Try.prog 57 := fun blk off cap zs w hH hblk hsz => soSort blk off cap zs w hH hblk hsz
open Go.Lib Go.Sort in
theorem dfP {k : Int} {B : Nat} {W : World} (x : Int) (hc : W.cell? ⟨B, 0, none⟩ = some (.int .i64 k)) : FnGives Try.prog 88 #[.pointer (some ⟨B, 0, none⟩)] #[Value.int .i64 x] (.bool (decide (x = k))) W := by
  have e : (x == k) = decide (x = k) := Bool.eq_iff_iff.2 (by simp)
  unfold FnGives
  go_enter Try.func88, Try.ntmps88
  go_wp2
  go_ret
  exact ⟨by first | (simp; done) | (simp; exact e), 0, rfl⟩
open Go.Lib Go.Sort in
theorem dfF87 : DfF Try.prog 87 88 := fun blk off cap B zs k w hH hblk hB hne hc hcap hsz => by
  have hz : zs.toArray.size = zs.length := by simp
  have h := dfDel (Value.int .i64) (fun _ => rfl) (fun x => decide (x = k)) 88 #[.pointer (some ⟨B, 0, none⟩)] (enters_of Try.func88 (by kernel_rfl) rfl) 0 Try.zeroValue3 blk off cap zs.toArray w
    (fun W x hb => dfP x ((hb.cell (p := ⟨B, 0, none⟩) hB).trans hc))
    (fun n os dk x hs => dfP x (by
      have e : (Go.Sort.grow (Go.Sort.putRow (Value.int .i64) (Go.Sort.ahead w n) blk off dk) os).heap[B]? = w.heap[B]? := by
        unfold Go.Sort.grow
        rw [Array.getElem?_append_left (by rw [Go.Sort.size_putRow]; exact hB)]
        unfold Go.Sort.putRow Go.Sort.mapBlock Go.Sort.ahead
        simp only [Array.getElem?_modify, if_neg (fun q : blk = B => hne q.symm)]
      unfold sortWorld
      rw [← hc]
      unfold World.cell?
      rw [e]))
    hH (by omega) (by omega)
  rw [hz] at h
  exact h
noncomputable def u_Made : Uf := ⟨7, 6, Try.f7, [.val (.list (.int .u8))], [],
⟨[(2, .ptr 600005 0)], [(600005, .box 48 (.val (.pair (.list (.int .u8)) (.int .i64))))]⟩, [],
[],
[], fun y => (.ptr 2000000 0 0, [], [.box 48 (cellsW (.pair (.list (.int .u8)) (.int .i64)) y)])⟩
noncomputable def V_Made (N : Nat) (x : List Int) : Option ((List Int) × Int) :=
  some (x, (0:Int))
theorem q_Made : ∀ N x, u_Made.F L0 P0 (orcOf []) N x = V_Made N x := by intros; kernel_rfl
noncomputable def W_Made (N : Nat) := V_Made N
theorem con_Made_ok (N : Nat) : (u_Made.con (W_Made N)).ok P0 := Uf.ok mixed (q_Made N) trivial Try.func7 (by kernel_rfl) fun x y => by kernel_rfl
noncomputable def u_Picks_Num : Uf := ⟨22, 40, Try.f22, [.ptr 0 0, .val (.int .i64)], [.box 48 (.pair (.list (.int .u8)) (.int .i64))],
⟨[(0, .ptr 1000000 0), (4, .val (.int .i64))], [(1000000, .box 48 (.val (.pair (.list (.int .u8)) (.int .i64))))]⟩, [true],
[],
[], fun y => (valW (.int .i64) y.1, [.box 48 (cellsW (.pair (.list (.int .u8)) (.int .i64)) y.2)], [])⟩
noncomputable def V_Picks_Num (N : Nat) (x : Int × (List Int) × Int) : Option (Int × (List Int) × Int) :=
  cnd (decide ((↑(List.length x.2.1) : Int) ≤ x.2.2)) (some ((0:Int), x.2)) (cnd (decide (x.1 < (1:Int))) (some ((0:Int), x.2)) (cnd (decide ((0:Int) ≤
    wr .i64 (wr .i64 (x.2.2 + (1:Int)) - (1:Int))) && decide (wr .i64 (wr .i64 (x.2.2 + (1:Int)) - (1:Int)) < (↑(List.length x.2.1) : Int))) (cnd
    (!decide (x.1 = (0:Int))) (some (Int.tmod (wr .i64 (List.getD x.2.1 (Int.toNat (wr .i64 (wr .i64 (x.2.2 + (1:Int)) - (1:Int)))) (0:Int))) x.1,
    x.2.1, wr .i64 (x.2.2 + (1:Int)))) none) none))
theorem q_Picks_Num : ∀ N x, u_Picks_Num.F L0 P0 (orcOf []) N x = V_Picks_Num N x := by intros; kernel_rfl
noncomputable def W_Picks_Num (N : Nat) := V_Picks_Num N
theorem con_Picks_Num_ok (N : Nat) : (u_Picks_Num.con (W_Picks_Num N)).ok P0 := Uf.ok mixed (q_Picks_Num N) trivial Try.func22 (by kernel_rfl) fun x y => by kernel_rfl
noncomputable def u_Picks_Dist : Uf := ⟨8, 45, Try.f8, [.ptr 0 0], [.box 48 (.pair (.list (.int .u8)) (.int .i64))],
⟨[(0, .ptr 1000000 0), (2, .val (.list (.list (.int .i64))))], [(1000000, .box 48 (.val (.pair (.list (.int .u8)) (.int .i64))))]⟩, [true],
[(3, .unroll 9),
(10, .unroll 9),
(7, .unroll 9)],
[], fun y => (valW (.list (.list (.int .i64))) y.1, [.box 48 (cellsW (.pair (.list (.int .u8)) (.int .i64)) y.2)], [])⟩
noncomputable def V_Picks_Dist (w_Picks_Num : Int × (List Int) × Int → Option (Int × (List Int) × Int)) (N : Nat) (x : (List Int) × Int) : Option ((List (List Int)) × (List Int) × Int) :=
  obind (w_Picks_Num ((9:Int), x)) fun b0 => cnd (decide ((0:Int) ≤ b0.1)) (cnd (decide (b0.1 < ((↑(9:Nat) : Int) : Int))) (obind (w_Picks_Num
    ((9:Int), b0.2)) fun b1 => cnd (decide ((0:Int) ≤ b1.1)) (cnd (decide (b1.1 < ((↑(9:Nat) : Int) : Int))) (obind (w_Picks_Num ((9:Int), b1.2)) fun
    b2 => cnd (decide ((0:Int) ≤ b2.1)) (cnd (decide (b2.1 < ((↑(9:Nat) : Int) : Int))) (obind (w_Picks_Num ((9:Int), b2.2)) fun b3 => cnd (decide
    ((0:Int) ≤ b3.1)) (cnd (decide (b3.1 < ((↑(9:Nat) : Int) : Int))) (obind (w_Picks_Num ((9:Int), b3.2)) fun b4 => cnd (decide ((0:Int) ≤ b4.1))
    (cnd (decide (b4.1 < ((↑(9:Nat) : Int) : Int))) (obind (w_Picks_Num ((9:Int), b4.2)) fun b5 => cnd (decide ((0:Int) ≤ b5.1)) (cnd (decide (b5.1 <
    ((↑(9:Nat) : Int) : Int))) (obind (w_Picks_Num ((9:Int), b5.2)) fun b6 => cnd (decide ((0:Int) ≤ b6.1)) (cnd (decide (b6.1 < ((↑(9:Nat) : Int) :
    Int))) (obind (w_Picks_Num ((9:Int), b6.2)) fun b7 => cnd (decide ((0:Int) ≤ b7.1)) (cnd (decide (b7.1 < ((↑(9:Nat) : Int) : Int))) (obind
    (w_Picks_Num ((9:Int), b7.2)) fun b8 => cnd (decide ((0:Int) ≤ b8.1)) (cnd (decide (b8.1 < ((↑(9:Nat) : Int) : Int))) (obind (w_Picks_Num
    ((9:Int), b8.2)) fun b9 => cnd (decide ((0:Int) ≤ b9.1)) (cnd (decide (b9.1 < ((↑(9:Nat) : Int) : Int))) (obind (w_Picks_Num ((9:Int), b9.2)) fun
    b10 => cnd (decide ((0:Int) ≤ b10.1)) (cnd (decide (b10.1 < ((↑(9:Nat) : Int) : Int))) (obind (w_Picks_Num ((9:Int), b10.2)) fun b11 => cnd
    (decide ((0:Int) ≤ b11.1)) (cnd (decide (b11.1 < ((↑(9:Nat) : Int) : Int))) (obind (w_Picks_Num ((9:Int), b11.2)) fun b12 => cnd (decide ((0:Int)
    ≤ b12.1)) (cnd (decide (b12.1 < ((↑(9:Nat) : Int) : Int))) (obind (w_Picks_Num ((9:Int), b12.2)) fun b13 => cnd (decide ((0:Int) ≤ b13.1)) (cnd
    (decide (b13.1 < ((↑(9:Nat) : Int) : Int))) (obind (w_Picks_Num ((9:Int), b13.2)) fun b14 => cnd (decide ((0:Int) ≤ b14.1)) (cnd (decide (b14.1 <
    ((↑(9:Nat) : Int) : Int))) (obind (w_Picks_Num ((9:Int), b14.2)) fun b15 => cnd (decide ((0:Int) ≤ b15.1)) (cnd (decide (b15.1 < ((↑(9:Nat) : Int)
    : Int))) (obind (w_Picks_Num ((9:Int), b15.2)) fun b16 => cnd (decide ((0:Int) ≤ b16.1)) (cnd (decide (b16.1 < ((↑(9:Nat) : Int) : Int))) (obind
    (w_Picks_Num ((9:Int), b16.2)) fun b17 => cnd (decide ((0:Int) ≤ b17.1)) (cnd (decide (b17.1 < ((↑(9:Nat) : Int) : Int))) (obind (w_Picks_Num
    ((9:Int), b17.2)) fun b18 => cnd (decide ((0:Int) ≤ b18.1)) (cnd (decide (b18.1 < ((↑(9:Nat) : Int) : Int))) (obind (w_Picks_Num ((9:Int), b18.2))
    fun b19 => cnd (decide ((0:Int) ≤ b19.1)) (cnd (decide (b19.1 < ((↑(9:Nat) : Int) : Int))) (obind (w_Picks_Num ((9:Int), b19.2)) fun b20 => cnd
    (decide ((0:Int) ≤ b20.1)) (cnd (decide (b20.1 < ((↑(9:Nat) : Int) : Int))) (obind (w_Picks_Num ((9:Int), b20.2)) fun b21 => cnd (decide ((0:Int)
    ≤ b21.1)) (cnd (decide (b21.1 < ((↑(9:Nat) : Int) : Int))) (obind (w_Picks_Num ((9:Int), b21.2)) fun b22 => cnd (decide ((0:Int) ≤ b22.1)) (cnd
    (decide (b22.1 < ((↑(9:Nat) : Int) : Int))) (obind (w_Picks_Num ((9:Int), b22.2)) fun b23 => cnd (decide ((0:Int) ≤ b23.1)) (cnd (decide (b23.1 <
    ((↑(9:Nat) : Int) : Int))) (obind (w_Picks_Num ((9:Int), b23.2)) fun b24 => cnd (decide ((0:Int) ≤ b24.1)) (cnd (decide (b24.1 < ((↑(9:Nat) : Int)
    : Int))) (obind (w_Picks_Num ((9:Int), b24.2)) fun b25 => cnd (decide ((0:Int) ≤ b25.1)) (cnd (decide (b25.1 < ((↑(9:Nat) : Int) : Int))) (obind
    (w_Picks_Num ((9:Int), b25.2)) fun b26 => cnd (decide ((0:Int) ≤ b26.1)) (cnd (decide (b26.1 < ((↑(9:Nat) : Int) : Int))) (obind (w_Picks_Num
    ((9:Int), b26.2)) fun b27 => cnd (decide ((0:Int) ≤ b27.1)) (cnd (decide (b27.1 < ((↑(9:Nat) : Int) : Int))) (some ([[(0:Int), List.getD [(1:Int),
    (2:Int), (3:Int), (5:Int), (9:Int), (9:Int), (20:Int), (1000:Int), (0:Int)] (Int.toNat b0.1) (0:Int), List.getD [(1:Int), (2:Int), (3:Int), (5:Int),
    (9:Int), (9:Int), (20:Int), (1000:Int), (0:Int)] (Int.toNat b1.1) (0:Int), List.getD [(1:Int), (2:Int), (3:Int), (5:Int), (9:Int), (9:Int),
    (20:Int), (1000:Int), (0:Int)] (Int.toNat b3.1) (0:Int), List.getD [(1:Int), (2:Int), (3:Int), (5:Int), (9:Int), (9:Int), (20:Int), (1000:Int),
    (0:Int)] (Int.toNat b6.1) (0:Int), List.getD [(1:Int), (2:Int), (3:Int), (5:Int), (9:Int), (9:Int), (20:Int), (1000:Int), (0:Int)] (Int.toNat b10.1)
    (0:Int), List.getD [(1:Int), (2:Int), (3:Int), (5:Int), (9:Int), (9:Int), (20:Int), (1000:Int), (0:Int)] (Int.toNat b15.1) (0:Int), List.getD
    [(1:Int), (2:Int), (3:Int), (5:Int), (9:Int), (9:Int), (20:Int), (1000:Int), (0:Int)] (Int.toNat b21.1) (0:Int)], [List.getD [(1:Int), (2:Int),
    (3:Int), (5:Int), (9:Int), (9:Int), (20:Int), (1000:Int), (0:Int)] (Int.toNat b0.1) (0:Int), (0:Int), List.getD [(1:Int), (2:Int), (3:Int), (5:Int),
    (9:Int), (9:Int), (20:Int), (1000:Int), (0:Int)] (Int.toNat b2.1) (0:Int), List.getD [(1:Int), (2:Int), (3:Int), (5:Int), (9:Int), (9:Int),
    (20:Int), (1000:Int), (0:Int)] (Int.toNat b4.1) (0:Int), List.getD [(1:Int), (2:Int), (3:Int), (5:Int), (9:Int), (9:Int), (20:Int), (1000:Int),
    (0:Int)] (Int.toNat b7.1) (0:Int), List.getD [(1:Int), (2:Int), (3:Int), (5:Int), (9:Int), (9:Int), (20:Int), (1000:Int), (0:Int)] (Int.toNat b11.1)
    (0:Int), List.getD [(1:Int), (2:Int), (3:Int), (5:Int), (9:Int), (9:Int), (20:Int), (1000:Int), (0:Int)] (Int.toNat b16.1) (0:Int), List.getD
    [(1:Int), (2:Int), (3:Int), (5:Int), (9:Int), (9:Int), (20:Int), (1000:Int), (0:Int)] (Int.toNat b22.1) (0:Int)], [List.getD [(1:Int), (2:Int),
    (3:Int), (5:Int), (9:Int), (9:Int), (20:Int), (1000:Int), (0:Int)] (Int.toNat b1.1) (0:Int), List.getD [(1:Int), (2:Int), (3:Int), (5:Int), (9:Int),
    (9:Int), (20:Int), (1000:Int), (0:Int)] (Int.toNat b2.1) (0:Int), (0:Int), List.getD [(1:Int), (2:Int), (3:Int), (5:Int), (9:Int), (9:Int),
    (20:Int), (1000:Int), (0:Int)] (Int.toNat b5.1) (0:Int), List.getD [(1:Int), (2:Int), (3:Int), (5:Int), (9:Int), (9:Int), (20:Int), (1000:Int),
    (0:Int)] (Int.toNat b8.1) (0:Int), List.getD [(1:Int), (2:Int), (3:Int), (5:Int), (9:Int), (9:Int), (20:Int), (1000:Int), (0:Int)] (Int.toNat b12.1)
    (0:Int), List.getD [(1:Int), (2:Int), (3:Int), (5:Int), (9:Int), (9:Int), (20:Int), (1000:Int), (0:Int)] (Int.toNat b17.1) (0:Int), List.getD
    [(1:Int), (2:Int), (3:Int), (5:Int), (9:Int), (9:Int), (20:Int), (1000:Int), (0:Int)] (Int.toNat b23.1) (0:Int)], [List.getD [(1:Int), (2:Int),
    (3:Int), (5:Int), (9:Int), (9:Int), (20:Int), (1000:Int), (0:Int)] (Int.toNat b3.1) (0:Int), List.getD [(1:Int), (2:Int), (3:Int), (5:Int), (9:Int),
    (9:Int), (20:Int), (1000:Int), (0:Int)] (Int.toNat b4.1) (0:Int), List.getD [(1:Int), (2:Int), (3:Int), (5:Int), (9:Int), (9:Int), (20:Int),
    (1000:Int), (0:Int)] (Int.toNat b5.1) (0:Int), (0:Int), List.getD [(1:Int), (2:Int), (3:Int), (5:Int), (9:Int), (9:Int), (20:Int), (1000:Int),
    (0:Int)] (Int.toNat b9.1) (0:Int), List.getD [(1:Int), (2:Int), (3:Int), (5:Int), (9:Int), (9:Int), (20:Int), (1000:Int), (0:Int)] (Int.toNat b13.1)
    (0:Int), List.getD [(1:Int), (2:Int), (3:Int), (5:Int), (9:Int), (9:Int), (20:Int), (1000:Int), (0:Int)] (Int.toNat b18.1) (0:Int), List.getD
    [(1:Int), (2:Int), (3:Int), (5:Int), (9:Int), (9:Int), (20:Int), (1000:Int), (0:Int)] (Int.toNat b24.1) (0:Int)], [List.getD [(1:Int), (2:Int),
    (3:Int), (5:Int), (9:Int), (9:Int), (20:Int), (1000:Int), (0:Int)] (Int.toNat b6.1) (0:Int), List.getD [(1:Int), (2:Int), (3:Int), (5:Int), (9:Int),
    (9:Int), (20:Int), (1000:Int), (0:Int)] (Int.toNat b7.1) (0:Int), List.getD [(1:Int), (2:Int), (3:Int), (5:Int), (9:Int), (9:Int), (20:Int),
    (1000:Int), (0:Int)] (Int.toNat b8.1) (0:Int), List.getD [(1:Int), (2:Int), (3:Int), (5:Int), (9:Int), (9:Int), (20:Int), (1000:Int), (0:Int)]
    (Int.toNat b9.1) (0:Int), (0:Int), List.getD [(1:Int), (2:Int), (3:Int), (5:Int), (9:Int), (9:Int), (20:Int), (1000:Int), (0:Int)] (Int.toNat b14.1)
    (0:Int), List.getD [(1:Int), (2:Int), (3:Int), (5:Int), (9:Int), (9:Int), (20:Int), (1000:Int), (0:Int)] (Int.toNat b19.1) (0:Int), List.getD
    [(1:Int), (2:Int), (3:Int), (5:Int), (9:Int), (9:Int), (20:Int), (1000:Int), (0:Int)] (Int.toNat b25.1) (0:Int)], [List.getD [(1:Int), (2:Int),
    (3:Int), (5:Int), (9:Int), (9:Int), (20:Int), (1000:Int), (0:Int)] (Int.toNat b10.1) (0:Int), List.getD [(1:Int), (2:Int), (3:Int), (5:Int),
    (9:Int), (9:Int), (20:Int), (1000:Int), (0:Int)] (Int.toNat b11.1) (0:Int), List.getD [(1:Int), (2:Int), (3:Int), (5:Int), (9:Int), (9:Int),
    (20:Int), (1000:Int), (0:Int)] (Int.toNat b12.1) (0:Int), List.getD [(1:Int), (2:Int), (3:Int), (5:Int), (9:Int), (9:Int), (20:Int), (1000:Int),
    (0:Int)] (Int.toNat b13.1) (0:Int), List.getD [(1:Int), (2:Int), (3:Int), (5:Int), (9:Int), (9:Int), (20:Int), (1000:Int), (0:Int)] (Int.toNat
    b14.1) (0:Int), (0:Int), List.getD [(1:Int), (2:Int), (3:Int), (5:Int), (9:Int), (9:Int), (20:Int), (1000:Int), (0:Int)] (Int.toNat b20.1) (0:Int),
    List.getD [(1:Int), (2:Int), (3:Int), (5:Int), (9:Int), (9:Int), (20:Int), (1000:Int), (0:Int)] (Int.toNat b26.1) (0:Int)], [List.getD [(1:Int),
    (2:Int), (3:Int), (5:Int), (9:Int), (9:Int), (20:Int), (1000:Int), (0:Int)] (Int.toNat b15.1) (0:Int), List.getD [(1:Int), (2:Int), (3:Int),
    (5:Int), (9:Int), (9:Int), (20:Int), (1000:Int), (0:Int)] (Int.toNat b16.1) (0:Int), List.getD [(1:Int), (2:Int), (3:Int), (5:Int), (9:Int),
    (9:Int), (20:Int), (1000:Int), (0:Int)] (Int.toNat b17.1) (0:Int), List.getD [(1:Int), (2:Int), (3:Int), (5:Int), (9:Int), (9:Int), (20:Int),
    (1000:Int), (0:Int)] (Int.toNat b18.1) (0:Int), List.getD [(1:Int), (2:Int), (3:Int), (5:Int), (9:Int), (9:Int), (20:Int), (1000:Int), (0:Int)]
    (Int.toNat b19.1) (0:Int), List.getD [(1:Int), (2:Int), (3:Int), (5:Int), (9:Int), (9:Int), (20:Int), (1000:Int), (0:Int)] (Int.toNat b20.1)
    (0:Int), (0:Int), List.getD [(1:Int), (2:Int), (3:Int), (5:Int), (9:Int), (9:Int), (20:Int), (1000:Int), (0:Int)] (Int.toNat b27.1) (0:Int)],
    [List.getD [(1:Int), (2:Int), (3:Int), (5:Int), (9:Int), (9:Int), (20:Int), (1000:Int), (0:Int)] (Int.toNat b21.1) (0:Int), List.getD [(1:Int),
    (2:Int), (3:Int), (5:Int), (9:Int), (9:Int), (20:Int), (1000:Int), (0:Int)] (Int.toNat b22.1) (0:Int), List.getD [(1:Int), (2:Int), (3:Int),
    (5:Int), (9:Int), (9:Int), (20:Int), (1000:Int), (0:Int)] (Int.toNat b23.1) (0:Int), List.getD [(1:Int), (2:Int), (3:Int), (5:Int), (9:Int),
    (9:Int), (20:Int), (1000:Int), (0:Int)] (Int.toNat b24.1) (0:Int), List.getD [(1:Int), (2:Int), (3:Int), (5:Int), (9:Int), (9:Int), (20:Int),
    (1000:Int), (0:Int)] (Int.toNat b25.1) (0:Int), List.getD [(1:Int), (2:Int), (3:Int), (5:Int), (9:Int), (9:Int), (20:Int), (1000:Int), (0:Int)]
    (Int.toNat b26.1) (0:Int), List.getD [(1:Int), (2:Int), (3:Int), (5:Int), (9:Int), (9:Int), (20:Int), (1000:Int), (0:Int)] (Int.toNat b27.1)
    (0:Int), (0:Int)]], b27.2)) none) none) none) none) none) none) none) none) none) none) none) none) none) none) none) none) none) none) none) none)
    none) none) none) none) none) none) none) none) none) none) none) none) none) none) none) none) none) none) none) none) none) none) none) none)
    none) none) none) none) none) none) none) none) none) none) none) none
theorem q_Picks_Dist : ∀ w_Picks_Num N x, u_Picks_Dist.F L0 P0 (orcOf [u_Picks_Num.con w_Picks_Num]) N x = V_Picks_Dist w_Picks_Num N x := by intros; kernel_rfl
noncomputable def W_Picks_Dist (N : Nat) := V_Picks_Dist (W_Picks_Num N) N
theorem con_Picks_Dist_ok (N : Nat) : (u_Picks_Dist.con (W_Picks_Dist N)).ok P0 := Uf.ok mixed (q_Picks_Dist (W_Picks_Num N) N) ⟨con_Picks_Num_ok N, trivial⟩ Try.func8 (by kernel_rfl) fun x y => by kernel_rfl
noncomputable def u_rtt_within : Uf := ⟨23, 6, Try.f23, [.val (.int .i64)], [],
⟨[(2, .val (.int .i64))], []⟩, [],
[],
[], fun y => (valW (.int .i64) y, [], [])⟩
noncomputable def V_rtt_within (N : Nat) (x : Int) : Option (Int) :=
  some (min (max x (0:Int)) (1000:Int))
theorem q_rtt_within : ∀ N x, u_rtt_within.F L0 P0 (orcOf []) N x = V_rtt_within N x := by intros; kernel_rfl
noncomputable def W_rtt_within (N : Nat) := V_rtt_within N
theorem con_rtt_within_ok (N : Nat) : (u_rtt_within.con (W_rtt_within N)).ok P0 := Uf.ok mixed (q_rtt_within N) trivial Try.func23 (by kernel_rfl) fun x y => by kernel_rfl
noncomputable def u_rtt_May : Uf := ⟨9, 62, Try.f9, [.val (.list (.list (.int .i64)))], [],
⟨[(2, .val .bool)], []⟩, [],
[(4, .loop [12] ⟨[(14, .val (.int .i64))], []⟩ [(.exit 0, ⟨[], []⟩), (.ret, ⟨[(2, .val .bool)], []⟩)]),
(13, .loop [22, 29] ⟨[(31, .val (.int .i64))], []⟩ [(.exit 4, ⟨[], []⟩), (.ret, ⟨[(2, .val .bool)], []⟩)]),
(10, .loop [22] ⟨[(24, .val (.int .i64))], []⟩ [(.exit 2, ⟨[], []⟩), (.ret, ⟨[(2, .val .bool)], []⟩)])],
[(1000015, .reg [(15, [22, 29], ⟨[(50, .val .bool)], []⟩)])], fun y => (valW .bool y, [], [])⟩
noncomputable def V_rtt_May (w_rtt_within : Int → Option (Int)) (N : Nat) (x : List (List Int)) : Option (Bool) :=
  cnd (decide ((↑(List.length x) : Int) ≠ (8:Int))) (some false) (obind (loopN N (fun (v : Int) => cnd (decide (v < (↑(List.length x) : Int))) (cnd
    (decide ((0:Int) ≤ v) && decide (v < (↑(List.length x) : Int))) (cnd (decide ((↑(List.length (List.getD x (Int.toNat v) [])) : Int) ≠ (8:Int)))
    (some (Sum.inr (Sum.inr false))) (some (Sum.inl (wr .i64 (v + (1:Int)))))) none) (some (Sum.inr (Sum.inl ())))) (Int.ofNat (0:Nat))) fun (b : PUnit
    ⊕ Bool) => selim (fun (b : PUnit) => obind (loopN N (fun (v : Int) => cnd (decide (v < (↑(List.length x) : Int))) (cnd (decide ((0:Int) ≤ v) &&
    decide (v < (↑(List.length x) : Int))) (obind (loopN N (fun (v_1 : Int) => cnd (decide (v_1 < (↑(List.length (List.getD x (Int.toNat v) [])) :
    Int))) (cnd (decide ((0:Int) ≤ v_1) && decide (v_1 < (↑(List.length (List.getD x (Int.toNat v) [])) : Int))) (obind (obind (w_rtt_within
    (List.getD (List.getD x (Int.toNat v) []) (Int.toNat v_1) (0:Int))) fun b => cnd (decide (List.getD (List.getD x (Int.toNat v) []) (Int.toNat v_1)
    (0:Int) ≠ b)) (some true) (cnd (decide ((0:Int) ≤ v_1) && decide (v_1 < (↑(List.length x) : Int))) (cnd (decide ((0:Int) ≤ v) && decide (v <
    (↑(List.length (List.getD x (Int.toNat v_1) [])) : Int))) (some (decide (List.getD (List.getD x (Int.toNat v) []) (Int.toNat v_1) (0:Int) ≠
    List.getD (List.getD x (Int.toNat v_1) []) (Int.toNat v) (0:Int)))) none) none)) fun (b : Bool) => cnd b (some (Sum.inr (Sum.inr false))) (cnd
    (decide (v = v_1)) (cnd (decide (List.getD (List.getD x (Int.toNat v) []) (Int.toNat v_1) (0:Int) ≠ (0:Int))) (some (Sum.inr (Sum.inr false))) (some
    (Sum.inl (wr .i64 (v_1 + (1:Int)))))) (some (Sum.inl (wr .i64 (v_1 + (1:Int))))))) none) (some (Sum.inr (Sum.inl ())))) (Int.ofNat (0:Nat))) fun (b
    : PUnit ⊕ Bool) => selim (fun (b : PUnit) => some (Sum.inl (wr .i64 (v + (1:Int))))) (fun (c : Bool) => some (Sum.inr (Sum.inr c))) b) none) (some
    (Sum.inr (Sum.inl ())))) (Int.ofNat (0:Nat))) fun (b : PUnit ⊕ Bool) => selim (fun (b : PUnit) => some true) (fun (c : Bool) => some c) b) (fun (c :
    Bool) => some c) b)
theorem q_rtt_May : ∀ w_rtt_within N x, u_rtt_May.F L0 P0 (orcOf [u_rtt_within.con w_rtt_within]) N x = V_rtt_May w_rtt_within N x := by intros; kernel_rfl
noncomputable def W_rtt_May (N : Nat) := V_rtt_May (W_rtt_within N) N
theorem con_rtt_May_ok (N : Nat) : (u_rtt_May.con (W_rtt_May N)).ok P0 := Uf.ok mixed (q_rtt_May (W_rtt_within N) N) ⟨con_rtt_within_ok N, trivial⟩ Try.func9 (by kernel_rfl) fun x y => by kernel_rfl
noncomputable def u_hier_begins : Uf := ⟨36, 16, Try.f36, [.val (.agg (.pair (.int .i64) (.pair (.list (.list (.int .i64))) (.list (.list (.agg (.pair (.list (.int .i64)) (.int .i64))))))))], [],
⟨[(2, .val .bool)], []⟩, [],
[],
[(1000001, .reg [(8, [], ⟨[(1, .ptr 600001 0), (10, .val .bool)], [(600001, .box 38 (.val (.pair (.int .i64) (.pair (.list (.list (.int .i64))) (.list (.list (.agg (.pair (.list (.int .i64)) (.int .i64)))))))))]⟩)])], fun y => (valW .bool y, [], [])⟩
noncomputable def V_hier_begins (w_rtt_May : List (List Int) → Option (Bool)) (N : Nat) (x : Int × (List (List Int)) × List (List ((List Int) × Int))) : Option (Bool) :=
  obind (obind (w_rtt_May x.2.1) fun b => cnd b (some (decide ((1:Int) ≤ x.1), x)) (some (false, x))) fun (b : Bool × Int × List (List Int) × List (List (List Int × Int))) => cnd b.1 (some (decide (b.2.1 ≤ (3:Int)))) (some false)
theorem q_hier_begins : ∀ w_rtt_May N x, u_hier_begins.F L0 P0 (orcOf [u_rtt_May.con w_rtt_May]) N x = V_hier_begins w_rtt_May N x := by intros; kernel_rfl
noncomputable def W_hier_begins (N : Nat) := V_hier_begins (W_rtt_May N) N
theorem con_hier_begins_ok (N : Nat) : (u_hier_begins.con (W_hier_begins N)).ok P0 := Uf.ok mixed (q_hier_begins (W_rtt_May N) N) ⟨con_rtt_May_ok N, trivial⟩ Try.func36 (by kernel_rfl) fun x y => by kernel_rfl
def as_slices_Clone_Lint : List AS := [.val (.list (.list (.int .i64)))]
def bs_slices_Clone_Lint : List BS := []
def pout_slices_Clone_Lint : Pat := ⟨[(2, .acc 700005)], [(700005, .nrow 25 (.list (.int .i64)) false true)]⟩
noncomputable def G_slices_Clone_Lint  (N : Nat) : OrcT := orcOf []
noncomputable def F_slices_Clone_Lint  (N : Nat) (x : List (List Int)) : Option (List (List Int)) :=
  (evT (G_slices_Clone_Lint  N) L0 P0 []
    [] N 400 (bodyOf Try.f65) ⟨8, slots 0 [.nl ⟨(.list (.int .i64)), x⟩], tabU (lbOf as_slices_Clone_Lint bs_slices_Clone_Lint x) [], []⟩).elim (kRet 8 pout_slices_Clone_Lint (kpL []) (lbOf as_slices_Clone_Lint bs_slices_Clone_Lint x))
def out_slices_Clone_Lint (y : List (List Int)) : V × List OK × List OK := (.acc 2000000 0, [], [.nrow 25 false true ⟨(.list (.int .i64)), y⟩])
noncomputable def V_slices_Clone_Lint  (N : Nat) (x : List (List Int)) : Option (List (List Int)) :=
  cnd (decide (List.length x * (24:Nat) ≤ (140737488355328:Nat))) (some x) none
theorem FV_slices_Clone_Lint_eq  (N : Nat) (x : List (List Int)) : F_slices_Clone_Lint  N x = V_slices_Clone_Lint  N x := by kernel_rfl
noncomputable def W_slices_Clone_Lint (N : Nat) (x : List (List Int)) : Option (List (List Int)) := V_slices_Clone_Lint  N x
theorem F_slices_Clone_Lint_eq (N : Nat) (x : List (List Int)) : F_slices_Clone_Lint  N x = W_slices_Clone_Lint N x := (FV_slices_Clone_Lint_eq  N x).trans (by kernel_rfl)
noncomputable def conw_slices_Clone_Lint (w : List (List Int) → Option (List (List Int))) : Con := ⟨65, as_slices_Clone_Lint, bs_slices_Clone_Lint, List (List Int), w, out_slices_Clone_Lint⟩
noncomputable def con_slices_Clone_Lint (N : Nat) : Con := conw_slices_Clone_Lint (W_slices_Clone_Lint N)
theorem R_slices_Clone_Lint_eq (x : List (List Int)) (y : List (List Int)) : retOf2 P0 Try.f65 (kpL []) (lbOf as_slices_Clone_Lint bs_slices_Clone_Lint x) (patS ⟨8, [], [], []⟩ pout_slices_Clone_Lint y) = some (out_slices_Clone_Lint y) := by kernel_rfl
noncomputable def FA_slices_Clone_Lint : Option (List (List Int)) := (evT (G_slices_Clone_Lint 1) L0 P0 [] [] 1 400 (bodyOf Try.f65) ⟨8, slots 0 [.snil], tabU [] [], []⟩).elim (kRet 8 pout_slices_Clone_Lint (kpL []) [])
theorem FA_slices_Clone_Lint_eq : FA_slices_Clone_Lint = some [] := by kernel_rfl
theorem WN_slices_Clone_Lint (N : Nat) (r : List (List Int)) (h : W_slices_Clone_Lint N [] = some r) : r = [] := by
  have e : W_slices_Clone_Lint N [] = some [] := by kernel_rfl
  rw [e] at h; injection h with h; exact h.symm
theorem con_slices_Clone_Lint_ok (N : Nat) : Con.ok P0 (con_slices_Clone_Lint N) := ⟨⟨Try.f65, Try.func65, by kernel_rfl, by kernel_rfl⟩, fun (x : List (List Int)) (r : List (List Int)) (hr : W_slices_Clone_Lint N x = some r) =>
  clone_split (e := (.list (.int .i64))) (ty := 25) (l := x) (r := r)
    (spec2_evT (Γ := G_slices_Clone_Lint 1) (Λ := L0) (lb := []) (pout := pout_slices_Clone_Lint) (kp := kpL []) mixed (orcOf_ok [] (by simp)) Try.func65 (c := bodyOf Try.f65) (by kernel_rfl) (by kernel_rfl) (of_decide_eq_true (by kernel_rfl)) FA_slices_Clone_Lint_eq (R_slices_Clone_Lint_eq x []))
    (spec2_evT (Γ := G_slices_Clone_Lint N) (Λ := L0) (lb := []) (pout := pout_slices_Clone_Lint) (kp := kpL []) mixed (orcOf_ok [] (by simp)) Try.func65 (c := bodyOf Try.f65) (by kernel_rfl) (by kernel_rfl) (of_decide_eq_true (by kernel_rfl)) ((F_slices_Clone_Lint_eq N x).trans hr) (R_slices_Clone_Lint_eq x r))
    (fun h => by subst h; exact WN_slices_Clone_Lint N r hr)⟩
def as_slices_Clone_int : List AS := [.val (.list (.int .i64))]
def bs_slices_Clone_int : List BS := []
def pout_slices_Clone_int : Pat := ⟨[(2, .acc 700005)], [(700005, .nrow 3 (.int .i64) false true)]⟩
noncomputable def G_slices_Clone_int  (N : Nat) : OrcT := orcOf []
noncomputable def F_slices_Clone_int  (N : Nat) (x : List Int) : Option (List Int) :=
  (evT (G_slices_Clone_int  N) L0 P0 []
    [] N 400 (bodyOf Try.f66) ⟨8, slots 0 [.nl ⟨(.int .i64), x⟩], tabU (lbOf as_slices_Clone_int bs_slices_Clone_int x) [], []⟩).elim (kRet 8 pout_slices_Clone_int (kpL []) (lbOf as_slices_Clone_int bs_slices_Clone_int x))
def out_slices_Clone_int (y : List Int) : V × List OK × List OK := (.acc 2000000 0, [], [.nrow 3 false true ⟨(.int .i64), y⟩])
noncomputable def V_slices_Clone_int  (N : Nat) (x : List Int) : Option (List Int) :=
  cnd (decide (List.length x * (8:Nat) ≤ (140737488355328:Nat))) (some x) none
theorem FV_slices_Clone_int_eq  (N : Nat) (x : List Int) : F_slices_Clone_int  N x = V_slices_Clone_int  N x := by kernel_rfl
noncomputable def W_slices_Clone_int (N : Nat) (x : List Int) : Option (List Int) := V_slices_Clone_int  N x
theorem F_slices_Clone_int_eq (N : Nat) (x : List Int) : F_slices_Clone_int  N x = W_slices_Clone_int N x := (FV_slices_Clone_int_eq  N x).trans (by kernel_rfl)
noncomputable def conw_slices_Clone_int (w : List Int → Option (List Int)) : Con := ⟨66, as_slices_Clone_int, bs_slices_Clone_int, List Int, w, out_slices_Clone_int⟩
noncomputable def con_slices_Clone_int (N : Nat) : Con := conw_slices_Clone_int (W_slices_Clone_int N)
theorem R_slices_Clone_int_eq (x : List Int) (y : List Int) : retOf2 P0 Try.f66 (kpL []) (lbOf as_slices_Clone_int bs_slices_Clone_int x) (patS ⟨8, [], [], []⟩ pout_slices_Clone_int y) = some (out_slices_Clone_int y) := by kernel_rfl
noncomputable def FA_slices_Clone_int : Option (List Int) := (evT (G_slices_Clone_int 1) L0 P0 [] [] 1 400 (bodyOf Try.f66) ⟨8, slots 0 [.snil], tabU [] [], []⟩).elim (kRet 8 pout_slices_Clone_int (kpL []) [])
theorem FA_slices_Clone_int_eq : FA_slices_Clone_int = some [] := by kernel_rfl
theorem WN_slices_Clone_int (N : Nat) (r : List Int) (h : W_slices_Clone_int N [] = some r) : r = [] := by
  have e : W_slices_Clone_int N [] = some [] := by kernel_rfl
  rw [e] at h; injection h with h; exact h.symm
theorem con_slices_Clone_int_ok (N : Nat) : Con.ok P0 (con_slices_Clone_int N) := ⟨⟨Try.f66, Try.func66, by kernel_rfl, by kernel_rfl⟩, fun (x : List Int) (r : List Int) (hr : W_slices_Clone_int N x = some r) =>
  clone_split (e := (.int .i64)) (ty := 3) (l := x) (r := r)
    (spec2_evT (Γ := G_slices_Clone_int 1) (Λ := L0) (lb := []) (pout := pout_slices_Clone_int) (kp := kpL []) mixed (orcOf_ok [] (by simp)) Try.func66 (c := bodyOf Try.f66) (by kernel_rfl) (by kernel_rfl) (of_decide_eq_true (by kernel_rfl)) FA_slices_Clone_int_eq (R_slices_Clone_int_eq x []))
    (spec2_evT (Γ := G_slices_Clone_int N) (Λ := L0) (lb := []) (pout := pout_slices_Clone_int) (kp := kpL []) mixed (orcOf_ok [] (by simp)) Try.func66 (c := bodyOf Try.f66) (by kernel_rfl) (by kernel_rfl) (of_decide_eq_true (by kernel_rfl)) ((F_slices_Clone_int_eq N x).trans hr) (R_slices_Clone_int_eq x r))
    (fun h => by subst h; exact WN_slices_Clone_int N r hr)⟩
def as_slices_Clone_Lapi_Cluster : List AS := [.val (.list (.list (.agg (.pair (.list (.int .i64)) (.int .i64)))))]
def bs_slices_Clone_Lapi_Cluster : List BS := []
def pout_slices_Clone_Lapi_Cluster : Pat := ⟨[(2, .acc 700005)], [(700005, .nrow 43 (.list (.agg (.pair (.list (.int .i64)) (.int .i64)))) false true)]⟩
noncomputable def G_slices_Clone_Lapi_Cluster  (N : Nat) : OrcT := orcOf []
noncomputable def F_slices_Clone_Lapi_Cluster  (N : Nat) (x : List (List ((List Int) × Int))) : Option (List (List ((List Int) × Int))) :=
  (evT (G_slices_Clone_Lapi_Cluster  N) L0 P0 []
    [] N 400 (bodyOf Try.f67) ⟨8, slots 0 [.nl ⟨(.list (.agg (.pair (.list (.int .i64)) (.int .i64)))), x⟩], tabU (lbOf as_slices_Clone_Lapi_Cluster bs_slices_Clone_Lapi_Cluster x) [], []⟩).elim (kRet 8 pout_slices_Clone_Lapi_Cluster (kpL []) (lbOf as_slices_Clone_Lapi_Cluster bs_slices_Clone_Lapi_Cluster x))
def out_slices_Clone_Lapi_Cluster (y : List (List ((List Int) × Int))) : V × List OK × List OK := (.acc 2000000 0, [], [.nrow 43 false true ⟨(.list (.agg (.pair (.list (.int .i64)) (.int .i64)))), y⟩])
noncomputable def V_slices_Clone_Lapi_Cluster  (N : Nat) (x : List (List ((List Int) × Int))) : Option (List (List ((List Int) × Int))) :=
  cnd (decide (List.length x * (24:Nat) ≤ (140737488355328:Nat))) (some x) none
theorem FV_slices_Clone_Lapi_Cluster_eq  (N : Nat) (x : List (List ((List Int) × Int))) : F_slices_Clone_Lapi_Cluster  N x = V_slices_Clone_Lapi_Cluster  N x := by kernel_rfl
noncomputable def W_slices_Clone_Lapi_Cluster (N : Nat) (x : List (List ((List Int) × Int))) : Option (List (List ((List Int) × Int))) := V_slices_Clone_Lapi_Cluster  N x
theorem F_slices_Clone_Lapi_Cluster_eq (N : Nat) (x : List (List ((List Int) × Int))) : F_slices_Clone_Lapi_Cluster  N x = W_slices_Clone_Lapi_Cluster N x := (FV_slices_Clone_Lapi_Cluster_eq  N x).trans (by kernel_rfl)
noncomputable def conw_slices_Clone_Lapi_Cluster (w : List (List ((List Int) × Int)) → Option (List (List ((List Int) × Int)))) : Con := ⟨67, as_slices_Clone_Lapi_Cluster, bs_slices_Clone_Lapi_Cluster, List (List ((List Int) × Int)), w, out_slices_Clone_Lapi_Cluster⟩
noncomputable def con_slices_Clone_Lapi_Cluster (N : Nat) : Con := conw_slices_Clone_Lapi_Cluster (W_slices_Clone_Lapi_Cluster N)
theorem R_slices_Clone_Lapi_Cluster_eq (x : List (List ((List Int) × Int))) (y : List (List ((List Int) × Int))) : retOf2 P0 Try.f67 (kpL []) (lbOf as_slices_Clone_Lapi_Cluster bs_slices_Clone_Lapi_Cluster x) (patS ⟨8, [], [], []⟩ pout_slices_Clone_Lapi_Cluster y) = some (out_slices_Clone_Lapi_Cluster y) := by kernel_rfl
noncomputable def FA_slices_Clone_Lapi_Cluster : Option (List (List ((List Int) × Int))) := (evT (G_slices_Clone_Lapi_Cluster 1) L0 P0 [] [] 1 400 (bodyOf Try.f67) ⟨8, slots 0 [.snil], tabU [] [], []⟩).elim (kRet 8 pout_slices_Clone_Lapi_Cluster (kpL []) [])
theorem FA_slices_Clone_Lapi_Cluster_eq : FA_slices_Clone_Lapi_Cluster = some [] := by kernel_rfl
theorem WN_slices_Clone_Lapi_Cluster (N : Nat) (r : List (List ((List Int) × Int))) (h : W_slices_Clone_Lapi_Cluster N [] = some r) : r = [] := by
  have e : W_slices_Clone_Lapi_Cluster N [] = some [] := by kernel_rfl
  rw [e] at h; injection h with h; exact h.symm
theorem con_slices_Clone_Lapi_Cluster_ok (N : Nat) : Con.ok P0 (con_slices_Clone_Lapi_Cluster N) := ⟨⟨Try.f67, Try.func67, by kernel_rfl, by kernel_rfl⟩, fun (x : List (List ((List Int) × Int))) (r : List (List ((List Int) × Int))) (hr : W_slices_Clone_Lapi_Cluster N x = some r) =>
  clone_split (e := (.list (.agg (.pair (.list (.int .i64)) (.int .i64))))) (ty := 43) (l := x) (r := r)
    (spec2_evT (Γ := G_slices_Clone_Lapi_Cluster 1) (Λ := L0) (lb := []) (pout := pout_slices_Clone_Lapi_Cluster) (kp := kpL []) mixed (orcOf_ok [] (by simp)) Try.func67 (c := bodyOf Try.f67) (by kernel_rfl) (by kernel_rfl) (of_decide_eq_true (by kernel_rfl)) FA_slices_Clone_Lapi_Cluster_eq (R_slices_Clone_Lapi_Cluster_eq x []))
    (spec2_evT (Γ := G_slices_Clone_Lapi_Cluster N) (Λ := L0) (lb := []) (pout := pout_slices_Clone_Lapi_Cluster) (kp := kpL []) mixed (orcOf_ok [] (by simp)) Try.func67 (c := bodyOf Try.f67) (by kernel_rfl) (by kernel_rfl) (of_decide_eq_true (by kernel_rfl)) ((F_slices_Clone_Lapi_Cluster_eq N x).trans hr) (R_slices_Clone_Lapi_Cluster_eq x r))
    (fun h => by subst h; exact WN_slices_Clone_Lapi_Cluster N r hr)⟩
def as_slices_Clone_api_Cluster : List AS := [.val (.list (.agg (.pair (.list (.int .i64)) (.int .i64))))]
def bs_slices_Clone_api_Cluster : List BS := []
def pout_slices_Clone_api_Cluster : Pat := ⟨[(2, .acc 700005)], [(700005, .nrow 45 (.agg (.pair (.list (.int .i64)) (.int .i64))) false true)]⟩
noncomputable def G_slices_Clone_api_Cluster  (N : Nat) : OrcT := orcOf []
noncomputable def F_slices_Clone_api_Cluster  (N : Nat) (x : List ((List Int) × Int)) : Option (List ((List Int) × Int)) :=
  (evT (G_slices_Clone_api_Cluster  N) L0 P0 []
    [] N 400 (bodyOf Try.f84) ⟨8, slots 0 [.nl ⟨(.agg (.pair (.list (.int .i64)) (.int .i64))), x⟩], tabU (lbOf as_slices_Clone_api_Cluster bs_slices_Clone_api_Cluster x) [], []⟩).elim (kRet 8 pout_slices_Clone_api_Cluster (kpL []) (lbOf as_slices_Clone_api_Cluster bs_slices_Clone_api_Cluster x))
def out_slices_Clone_api_Cluster (y : List ((List Int) × Int)) : V × List OK × List OK := (.acc 2000000 0, [], [.nrow 45 false true ⟨(.agg (.pair (.list (.int .i64)) (.int .i64))), y⟩])
noncomputable def V_slices_Clone_api_Cluster  (N : Nat) (x : List ((List Int) × Int)) : Option (List ((List Int) × Int)) :=
  cnd (decide (List.length x * (32:Nat) ≤ (140737488355328:Nat))) (some x) none
theorem FV_slices_Clone_api_Cluster_eq  (N : Nat) (x : List ((List Int) × Int)) : F_slices_Clone_api_Cluster  N x = V_slices_Clone_api_Cluster  N x := by kernel_rfl
noncomputable def W_slices_Clone_api_Cluster (N : Nat) (x : List ((List Int) × Int)) : Option (List ((List Int) × Int)) := V_slices_Clone_api_Cluster  N x
theorem F_slices_Clone_api_Cluster_eq (N : Nat) (x : List ((List Int) × Int)) : F_slices_Clone_api_Cluster  N x = W_slices_Clone_api_Cluster N x := (FV_slices_Clone_api_Cluster_eq  N x).trans (by kernel_rfl)
noncomputable def conw_slices_Clone_api_Cluster (w : List ((List Int) × Int) → Option (List ((List Int) × Int))) : Con := ⟨84, as_slices_Clone_api_Cluster, bs_slices_Clone_api_Cluster, List ((List Int) × Int), w, out_slices_Clone_api_Cluster⟩
noncomputable def con_slices_Clone_api_Cluster (N : Nat) : Con := conw_slices_Clone_api_Cluster (W_slices_Clone_api_Cluster N)
theorem R_slices_Clone_api_Cluster_eq (x : List ((List Int) × Int)) (y : List ((List Int) × Int)) : retOf2 P0 Try.f84 (kpL []) (lbOf as_slices_Clone_api_Cluster bs_slices_Clone_api_Cluster x) (patS ⟨8, [], [], []⟩ pout_slices_Clone_api_Cluster y) = some (out_slices_Clone_api_Cluster y) := by kernel_rfl
noncomputable def FA_slices_Clone_api_Cluster : Option (List ((List Int) × Int)) := (evT (G_slices_Clone_api_Cluster 1) L0 P0 [] [] 1 400 (bodyOf Try.f84) ⟨8, slots 0 [.snil], tabU [] [], []⟩).elim (kRet 8 pout_slices_Clone_api_Cluster (kpL []) [])
theorem FA_slices_Clone_api_Cluster_eq : FA_slices_Clone_api_Cluster = some [] := by kernel_rfl
theorem WN_slices_Clone_api_Cluster (N : Nat) (r : List ((List Int) × Int)) (h : W_slices_Clone_api_Cluster N [] = some r) : r = [] := by
  have e : W_slices_Clone_api_Cluster N [] = some [] := by kernel_rfl
  rw [e] at h; injection h with h; exact h.symm
theorem con_slices_Clone_api_Cluster_ok (N : Nat) : Con.ok P0 (con_slices_Clone_api_Cluster N) := ⟨⟨Try.f84, Try.func84, by kernel_rfl, by kernel_rfl⟩, fun (x : List ((List Int) × Int)) (r : List ((List Int) × Int)) (hr : W_slices_Clone_api_Cluster N x = some r) =>
  clone_split (e := (.agg (.pair (.list (.int .i64)) (.int .i64)))) (ty := 45) (l := x) (r := r)
    (spec2_evT (Γ := G_slices_Clone_api_Cluster 1) (Λ := L0) (lb := []) (pout := pout_slices_Clone_api_Cluster) (kp := kpL []) mixed (orcOf_ok [] (by simp)) Try.func84 (c := bodyOf Try.f84) (by kernel_rfl) (by kernel_rfl) (of_decide_eq_true (by kernel_rfl)) FA_slices_Clone_api_Cluster_eq (R_slices_Clone_api_Cluster_eq x []))
    (spec2_evT (Γ := G_slices_Clone_api_Cluster N) (Λ := L0) (lb := []) (pout := pout_slices_Clone_api_Cluster) (kp := kpL []) mixed (orcOf_ok [] (by simp)) Try.func84 (c := bodyOf Try.f84) (by kernel_rfl) (by kernel_rfl) (of_decide_eq_true (by kernel_rfl)) ((F_slices_Clone_api_Cluster_eq N x).trans hr) (R_slices_Clone_api_Cluster_eq x r))
    (fun h => by subst h; exact WN_slices_Clone_api_Cluster N r hr)⟩
noncomputable def u_twin_Clusters : Uf := ⟨68, 24, Try.f68, [.val (.list (.agg (.pair (.list (.int .i64)) (.int .i64))))], [],
⟨[(2, .val (.list (.agg (.pair (.list (.int .i64)) (.int .i64)))))], []⟩, [],
[(3, .loop [] ⟨[(3, .acc 700006), (9, .val (.int .i64))], [(700006, .nrow 45 (.agg (.pair (.list (.int .i64)) (.int .i64))) false true)]⟩ [(.exit 0, ⟨[(3, .val (.list (.agg (.pair (.list (.int .i64)) (.int .i64)))))], []⟩)])],
[], fun y => (valW (.list (.agg (.pair (.list (.int .i64)) (.int .i64)))) y, [], [])⟩
noncomputable def V_twin_Clusters (w_slices_Clone_api_Cluster : List ((List Int) × Int) → Option (List ((List Int) × Int))) (w_slices_Clone_int : List Int → Option (List Int)) (N : Nat) (x : List ((List Int) × Int)) : Option (List ((List Int) × Int)) :=
  obind (w_slices_Clone_api_Cluster x) fun b => obind (loopN N (fun (v : Int × List (List Int × Int)) => cnd (decide (v.1 < (↑(List.length b) : Int)))
    (cnd (decide ((0:Int) ≤ v.1) && decide (v.1 < (↑(List.length v.2) : Int))) (obind (w_slices_Clone_int (Prod.fst (List.getD v.2 (Int.toNat v.1)
    ([], (0:Int))))) fun b => cnd (decide ((0:Int) ≤ v.1) && decide (v.1 < (↑(List.length v.2) : Int))) (some (Sum.inl (wr .i64 (v.1 + (1:Int)), putL
    v.2 [(b, Prod.snd (List.getD v.2 (Int.toNat v.1) ([], (0:Int))))] (Int.toNat v.1)))) none) none) (some (Sum.inr v.2))) ((0:Int), b)) fun (b : List
    (List Int × Int)) => some b
theorem q_twin_Clusters : ∀ w_slices_Clone_api_Cluster w_slices_Clone_int N x, u_twin_Clusters.F L0 P0 (orcOf [conw_slices_Clone_api_Cluster w_slices_Clone_api_Cluster, conw_slices_Clone_int w_slices_Clone_int]) N x = V_twin_Clusters w_slices_Clone_api_Cluster w_slices_Clone_int N x := by intros; kernel_rfl
noncomputable def W_twin_Clusters (N : Nat) := V_twin_Clusters (W_slices_Clone_api_Cluster N) (W_slices_Clone_int N) N
theorem con_twin_Clusters_ok (N : Nat) : (u_twin_Clusters.con (W_twin_Clusters N)).ok P0 := Uf.ok mixed (q_twin_Clusters (W_slices_Clone_api_Cluster N) (W_slices_Clone_int N) N) ⟨con_slices_Clone_api_Cluster_ok N, con_slices_Clone_int_ok N, trivial⟩ Try.func68 (by kernel_rfl) fun x y => by kernel_rfl
noncomputable def u_twin_Hier : Uf := ⟨45, 48, Try.f45, [.val (.agg (.pair (.int .i64) (.pair (.list (.list (.int .i64))) (.list (.list (.agg (.pair (.list (.int .i64)) (.int .i64))))))))], [],
⟨[(2, .ptr 600002 0)], [(600002, .box 38 (.val (.pair (.int .i64) (.pair (.list (.list (.int .i64))) (.list (.list (.agg (.pair (.list (.int .i64)) (.int .i64)))))))))]⟩, [],
[(3, .loop [] ⟨[(1, .ptr 600001 0), (2, .ptr 600002 0), (12, .val (.int .i64))], [(600001, .box 38 (.pair (.val (.int .i64)) (.pair (.acc 602001) (.val (.list (.list (.agg (.pair (.list (.int .i64)) (.int .i64))))))))), (602001, .nrow 25 (.list (.int .i64)) false true), (600002, .box 38 (.val (.pair (.int .i64) (.pair (.list (.list (.int .i64))) (.list (.list (.agg (.pair (.list (.int .i64)) (.int .i64)))))))))]⟩ [(.exit 0, ⟨[(1, .ptr 600001 0), (2, .ptr 600002 0)], [(600001, .box 38 (.pair (.val (.int .i64)) (.pair (.acc 602001) (.val (.list (.list (.agg (.pair (.list (.int .i64)) (.int .i64))))))))), (602001, .nrow 25 (.list (.int .i64)) false true), (600002, .box 38 (.val (.pair (.int .i64) (.pair (.list (.list (.int .i64))) (.list (.list (.agg (.pair (.list (.int .i64)) (.int .i64)))))))))]⟩)]),
(9, .loop [] ⟨[(1, .ptr 600001 0), (2, .ptr 600002 0), (33, .val (.int .i64))], [(600001, .box 38 (.pair (.val (.int .i64)) (.pair (.acc 602001) (.acc 603001)))), (602001, .nrow 25 (.list (.int .i64)) false true), (603001, .nrow 43 (.list (.agg (.pair (.list (.int .i64)) (.int .i64)))) false true), (600002, .box 38 (.val (.pair (.int .i64) (.pair (.list (.list (.int .i64))) (.list (.list (.agg (.pair (.list (.int .i64)) (.int .i64)))))))))]⟩ [(.exit 2, ⟨[(1, .ptr 600001 0), (2, .ptr 600002 0)], [(600001, .box 38 (.pair (.val (.int .i64)) (.pair (.acc 602001) (.acc 603001)))), (602001, .nrow 25 (.list (.int .i64)) false true), (603001, .nrow 43 (.list (.agg (.pair (.list (.int .i64)) (.int .i64)))) false true), (600002, .box 38 (.val (.pair (.int .i64) (.pair (.list (.list (.int .i64))) (.list (.list (.agg (.pair (.list (.int .i64)) (.int .i64)))))))))]⟩)])],
[], fun y => (valW (.agg (.pair (.int .i64) (.pair (.list (.list (.int .i64))) (.list (.list (.agg (.pair (.list (.int .i64)) (.int .i64)))))))) y, [], [])⟩
noncomputable def V_twin_Hier (w_slices_Clone_Lint : List (List Int) → Option (List (List Int))) (w_slices_Clone_int : List Int → Option (List Int)) (w_slices_Clone_Lapi_Cluster : List (List ((List Int) × Int)) → Option (List (List ((List Int) × Int)))) (w_twin_Clusters : List ((List Int) × Int) → Option (List ((List Int) × Int))) (N : Nat) (x : Int × (List (List Int)) × List (List ((List Int) × Int))) : Option (Int × (List (List Int)) × List (List ((List Int) × Int))) :=
  obind (w_slices_Clone_Lint x.2.1) fun b => obind (loopN N (fun (v : Int × Int × List (List (List Int × Int)) × List (List Int) × Int × List (List
    Int) × List (List (List Int × Int))) => cnd (decide (v.1 < (↑(List.length b) : Int))) (cnd (decide ((0:Int) ≤ v.1) && decide (v.1 < (↑(List.length
    v.2.2.2.1) : Int))) (obind (w_slices_Clone_int (List.getD v.2.2.2.1 (Int.toNat v.1) [])) fun b => cnd (decide ((0:Int) ≤ v.1) && decide (v.1 <
    (↑(List.length v.2.2.2.1) : Int))) (some (Sum.inl (wr .i64 (v.1 + (1:Int)), v.2.1, v.2.2.1, putL v.2.2.2.1 [b] (Int.toNat v.1), v.2.2.2.2))) none)
    none) (some (Sum.inr v.2))) ((0:Int), x.1, x.2.2, b, (0:Int), [], [])) fun (b : Int × List (List (List Int × Int)) × List (List Int) × Int × List
    (List Int) × List (List (List Int × Int))) => obind (w_slices_Clone_Lapi_Cluster b.2.1) fun b_1 => obind (loopN N (fun (v : Int × Int × List (List
    Int) × List (List (List Int × Int)) × Int × List (List Int) × List (List (List Int × Int))) => cnd (decide (v.1 < (↑(List.length b_1) : Int))) (cnd
    (decide ((0:Int) ≤ v.1) && decide (v.1 < (↑(List.length v.2.2.2.1) : Int))) (obind (w_twin_Clusters (List.getD v.2.2.2.1 (Int.toNat v.1) [])) fun
    b => cnd (decide ((0:Int) ≤ v.1) && decide (v.1 < (↑(List.length v.2.2.2.1) : Int))) (some (Sum.inl (wr .i64 (v.1 + (1:Int)), v.2.1, v.2.2.1, putL
    v.2.2.2.1 [b] (Int.toNat v.1), v.2.2.2.2))) none) none) (some (Sum.inr v.2))) ((0:Int), b.1, b.2.2.1, b_1, b.2.2.2)) fun (b : Int × List (List Int)
    × List (List (List Int × Int)) × Int × List (List Int) × List (List (List Int × Int))) => some (b.1, b.2.1, b.2.2.1)
theorem q_twin_Hier : ∀ w_slices_Clone_Lint w_slices_Clone_int w_slices_Clone_Lapi_Cluster w_twin_Clusters N x, u_twin_Hier.F L0 P0 (orcOf [conw_slices_Clone_Lint w_slices_Clone_Lint, conw_slices_Clone_int w_slices_Clone_int, conw_slices_Clone_Lapi_Cluster w_slices_Clone_Lapi_Cluster, u_twin_Clusters.con w_twin_Clusters]) N x = V_twin_Hier w_slices_Clone_Lint w_slices_Clone_int w_slices_Clone_Lapi_Cluster w_twin_Clusters N x := by intros; kernel_rfl
noncomputable def W_twin_Hier (N : Nat) := V_twin_Hier (W_slices_Clone_Lint N) (W_slices_Clone_int N) (W_slices_Clone_Lapi_Cluster N) (W_twin_Clusters N) N
theorem con_twin_Hier_ok (N : Nat) : (u_twin_Hier.con (W_twin_Hier N)).ok P0 := Uf.ok mixed (q_twin_Hier (W_slices_Clone_Lint N) (W_slices_Clone_int N) (W_slices_Clone_Lapi_Cluster N) (W_twin_Clusters N) N) ⟨con_slices_Clone_Lint_ok N, con_slices_Clone_int_ok N, con_slices_Clone_Lapi_Cluster_ok N, con_twin_Clusters_ok N, trivial⟩ Try.func45 (by kernel_rfl) fun x y => by kernel_rfl
noncomputable def u_hier_New : Uf := ⟨28, 16, Try.f28, [.val (.list (.list (.int .i64))), .val (.int .i64)], [],
⟨[(4, .ptr 600004 0), (5, .val .bool)], [(600004, .box 38 (.val (.pair (.int .i64) (.pair (.list (.list (.int .i64))) (.list (.list (.agg (.pair (.list (.int .i64)) (.int .i64)))))))))]⟩, [],
[],
[], fun y => (.tup [valW (.agg (.pair (.int .i64) (.pair (.list (.list (.int .i64))) (.list (.list (.agg (.pair (.list (.int .i64)) (.int .i64)))))))) y.2, valW .bool y.1], [], [])⟩
noncomputable def V_hier_New (w_hier_begins : Int × (List (List Int)) × List (List ((List Int) × Int)) → Option (Bool)) (w_twin_Hier : Int × (List (List Int)) × List (List ((List Int) × Int)) → Option (Int × (List (List Int)) × List (List ((List Int) × Int)))) (N : Nat) (x : (List (List Int)) × Int) : Option (Bool × Int × (List (List Int)) × List (List ((List Int) × Int))) :=
  obind (w_hier_begins (x.2, x.1, [])) fun b => cnd (!b) (some (false, (0:Int), [], [])) (obind (w_twin_Hier (x.2, x.1, [])) fun b => some (true, b))
theorem q_hier_New : ∀ w_hier_begins w_twin_Hier N x, u_hier_New.F L0 P0 (orcOf [u_hier_begins.con w_hier_begins, u_twin_Hier.con w_twin_Hier]) N x = V_hier_New w_hier_begins w_twin_Hier N x := by intros; kernel_rfl
noncomputable def W_hier_New (N : Nat) := V_hier_New (W_hier_begins N) (W_twin_Hier N) N
theorem con_hier_New_ok (N : Nat) : (u_hier_New.con (W_hier_New N)).ok P0 := Uf.ok mixed (q_hier_New (W_hier_begins N) (W_twin_Hier N) N) ⟨con_hier_begins_ok N, con_twin_Hier_ok N, trivial⟩ Try.func28 (by kernel_rfl) fun x y => by kernel_rfl
noncomputable def u_hier_ground : Uf := ⟨40, 11, Try.f40, [.val (.agg (.pair (.int .i64) (.pair (.list (.list (.int .i64))) (.list (.list (.agg (.pair (.list (.int .i64)) (.int .i64))))))))], [],
⟨[(2, .val (.list (.agg (.pair (.list (.int .i64)) (.int .i64)))))], []⟩, [],
[],
[], fun y => (valW (.list (.agg (.pair (.list (.int .i64)) (.int .i64)))) y, [], [])⟩
noncomputable def V_hier_ground (N : Nat) (x : Int × (List (List Int)) × List (List ((List Int) × Int))) : Option (List ((List Int) × Int)) :=
  cnd (decide ((↑(List.length x.2.2) : Int) = (0:Int))) (some []) (cnd (decide ((0:Int) ≤ (0:Int)) && decide ((0:Int) < (↑(List.length x.2.2) : Int))) (some (List.getD x.2.2 (0:Nat) [])) none)
theorem q_hier_ground : ∀ N x, u_hier_ground.F L0 P0 (orcOf []) N x = V_hier_ground N x := by intros; kernel_rfl
noncomputable def W_hier_ground (N : Nat) := V_hier_ground N
theorem con_hier_ground_ok (N : Nat) : (u_hier_ground.con (W_hier_ground N)).ok P0 := Uf.ok mixed (q_hier_ground N) trivial Try.func40 (by kernel_rfl) fun x y => by kernel_rfl
noncomputable def u_hier_rises : Uf := ⟨55, 21, Try.f55, [.val (.list (.int .i64))], [],
⟨[(2, .val .bool)], []⟩, [],
[(3, .loop [6] ⟨[(3, .val (.int .i64)), (8, .val (.int .i64))], []⟩ [(.exit 0, ⟨[], []⟩), (.ret, ⟨[(2, .val .bool)], []⟩)])],
[], fun y => (valW .bool y, [], [])⟩
noncomputable def V_hier_rises (N : Nat) (x : List Int) : Option (Bool) :=
  obind (loopN N (fun (v : Int × Int) => cnd (decide (v.2 < (↑(List.length x) : Int))) (cnd (decide ((0:Int) ≤ v.2) && decide (v.2 < (↑(List.length x) :
    Int))) (cnd (decide (List.getD x (Int.toNat v.2) (0:Int) ≤ v.1)) (some (Sum.inr (Sum.inr false))) (cnd (decide ((8:Int) < List.getD x (Int.toNat
    v.2) (0:Int))) (some (Sum.inr (Sum.inr false))) (some (Sum.inl (List.getD x (Int.toNat v.2) (0:Int), wr .i64 (v.2 + (1:Int))))))) none) (some
    (Sum.inr (Sum.inl ())))) ((0:Int), (0:Int))) fun (b : PUnit ⊕ Bool) => selim (fun (b : PUnit) => some true) (fun (c : Bool) => some c) b
theorem q_hier_rises : ∀ N x, u_hier_rises.F L0 P0 (orcOf []) N x = V_hier_rises N x := by intros; kernel_rfl
noncomputable def W_hier_rises (N : Nat) := V_hier_rises N
theorem con_hier_rises_ok (N : Nat) : (u_hier_rises.con (W_hier_rises N)).ok P0 := Uf.ok mixed (q_hier_rises N) trivial Try.func55 (by kernel_rfl) fun x y => by kernel_rfl
noncomputable def u_mid_between : Uf := ⟨86, 38, Try.f86, [.val (.list (.list (.int .i64))), .val (.int .i64), .val (.int .i64)], [],
⟨[(6, .val (.int .i64))], []⟩, [],
[],
[(1000001, .reg [(8, [], ⟨[(14, .val .bool)], []⟩), (4, [], ⟨[(18, .val .bool)], []⟩)])], fun y => (valW (.int .i64) y, [], [])⟩
noncomputable def V_mid_between (N : Nat) (x : (List (List Int)) × Int × Int) : Option (Int) :=
  obind (cnd (decide (x.2.1 < (1:Int))) (some true) (some (decide ((↑(List.length x.1) : Int) < x.2.1)))) fun (b : Bool) => obind (cnd b (some true)
    (some (decide (x.2.2 < (1:Int))))) fun (b : Bool) => cnd b (some (0:Int)) (cnd (decide ((0:Int) ≤ wr .i64 (x.2.1 - (1:Int))) && decide (wr .i64
    (x.2.1 - (1:Int)) < (↑(List.length x.1) : Int))) (cnd (decide ((↑(List.length (List.getD x.1 (Int.toNat (wr .i64 (x.2.1 - (1:Int)))) [])) : Int) <
    x.2.2)) (some (0:Int)) (cnd (decide ((0:Int) ≤ wr .i64 (x.2.1 - (1:Int))) && decide (wr .i64 (x.2.1 - (1:Int)) < (↑(List.length x.1) : Int))) (cnd
    (decide ((0:Int) ≤ wr .i64 (x.2.2 - (1:Int))) && decide (wr .i64 (x.2.2 - (1:Int)) < (↑(List.length (List.getD x.1 (Int.toNat (wr .i64 (x.2.1 -
    (1:Int)))) [])) : Int))) (some (List.getD (List.getD x.1 (Int.toNat (wr .i64 (x.2.1 - (1:Int)))) []) (Int.toNat (wr .i64 (x.2.2 - (1:Int))))
    (0:Int))) none) none)) none)
theorem q_mid_between : ∀ N x, u_mid_between.F L0 P0 (orcOf []) N x = V_mid_between N x := by intros; kernel_rfl
noncomputable def W_mid_between (N : Nat) := V_mid_between N
theorem con_mid_between_ok (N : Nat) : (u_mid_between.con (W_mid_between N)).ok P0 := Uf.ok mixed (q_mid_between N) trivial Try.func86 (by kernel_rfl) fun x y => by kernel_rfl
noncomputable def u_mid_Far : Uf := ⟨80, 24, Try.f80, [.val (.list (.list (.int .i64))), .val (.int .i64), .val (.list (.int .i64))], [],
⟨[(6, .val (.int .i64))], []⟩, [],
[(3, .loop [10] ⟨[(7, .val (.int .i64)), (12, .val (.int .i64))], []⟩ [(.exit 0, ⟨[(7, .val (.int .i64))], []⟩)])],
[], fun y => (valW (.int .i64) y, [], [])⟩
noncomputable def V_mid_Far (w_mid_between : (List (List Int)) × Int × Int → Option (Int)) (N : Nat) (x : (List (List Int)) × Int × List Int) : Option (Int) :=
  obind (loopN N (fun (v : Int × Int) => cnd (decide (v.2 < (↑(List.length x.2.2) : Int))) (cnd (decide ((0:Int) ≤ v.2) && decide (v.2 < (↑(List.length
    x.2.2) : Int))) (obind (w_mid_between (x.1, x.2.1, List.getD x.2.2 (Int.toNat v.2) (0:Int))) fun b => some (Sum.inl (max v.1 b, wr .i64 (v.2 +
    (1:Int))))) none) (some (Sum.inr v.1))) ((0:Int), (0:Int))) fun (b : Int) => some b
theorem q_mid_Far : ∀ w_mid_between N x, u_mid_Far.F L0 P0 (orcOf [u_mid_between.con w_mid_between]) N x = V_mid_Far w_mid_between N x := by intros; kernel_rfl
noncomputable def W_mid_Far (N : Nat) := V_mid_Far (W_mid_between N) N
theorem con_mid_Far_ok (N : Nat) : (u_mid_Far.con (W_mid_Far N)).ok P0 := Uf.ok mixed (q_mid_Far (W_mid_between N) N) ⟨con_mid_between_ok N, trivial⟩ Try.func80 (by kernel_rfl) fun x y => by kernel_rfl
noncomputable def u_mid_better : Uf := ⟨79, 39, Try.f79, [.val (.alt 96 (.agg .unit) (.alt1 108 (.agg (.pair (.int .i64) (.int .i64))))), .val (.int .i64), .val (.int .i64)], [],
⟨[(6, .val (.alt1 108 (.agg (.pair (.int .i64) (.int .i64)))))], []⟩, [],
[],
[], fun y => (valW (.alt1 108 (.agg (.pair (.int .i64) (.int .i64)))) y, [], [])⟩
noncomputable def V_mid_better (N : Nat) (x : (Unit ⊕ (Int × Int)) × Int × Int) : Option (Int × Int) :=
  selim (fun (b : PUnit) => some x.2) (fun (c : Int × Int) => cnd (decide (c.2 < x.2.2)) (some c) (cnd (decide (c.2 = x.2.2)) (cnd (decide (c.1 < x.2.1)) (some c) (some x.2)) (some x.2))) x.1
theorem q_mid_better : ∀ N x, u_mid_better.F L0 P0 (orcOf []) N x = V_mid_better N x := by intros; kernel_rfl
noncomputable def W_mid_better (N : Nat) := V_mid_better N
theorem con_mid_better_ok (N : Nat) : (u_mid_better.con (W_mid_better N)).ok P0 := Uf.ok mixed (q_mid_better N) trivial Try.func79 (by kernel_rfl) fun x y => by kernel_rfl
noncomputable def u_mid_who : Uf := ⟨81, 14, Try.f81, [.val (.alt 96 (.agg .unit) (.alt1 108 (.agg (.pair (.int .i64) (.int .i64)))))], [],
⟨[(2, .val (.int .i64))], []⟩, [],
[],
[], fun y => (valW (.int .i64) y, [], [])⟩
noncomputable def V_mid_who (N : Nat) (x : Unit ⊕ (Int × Int)) : Option (Int) :=
  selim (fun (b : PUnit) => some (0:Int)) (fun (c : Int × Int) => some c.1) x
theorem q_mid_who : ∀ N x, u_mid_who.F L0 P0 (orcOf []) N x = V_mid_who N x := by intros; kernel_rfl
noncomputable def W_mid_who (N : Nat) := V_mid_who N
theorem con_mid_who_ok (N : Nat) : (u_mid_who.con (W_mid_who N)).ok P0 := Uf.ok mixed (q_mid_who N) trivial Try.func81 (by kernel_rfl) fun x y => by kernel_rfl
noncomputable def u_mid_Mid : Uf := ⟨56, 26, Try.f56, [.val (.list (.list (.int .i64))), .val (.list (.int .i64))], [],
⟨[(4, .val (.int .i64))], []⟩, [],
[(3, .loop [10] ⟨[(5, .val (.alt 96 (.agg .unit) (.alt1 108 (.agg (.pair (.int .i64) (.int .i64)))))), (12, .val (.int .i64))], []⟩ [(.exit 0, ⟨[(5, .val (.alt 96 (.agg .unit) (.alt1 108 (.agg (.pair (.int .i64) (.int .i64))))))], []⟩)])],
[], fun y => (valW (.int .i64) y, [], [])⟩
noncomputable def V_mid_Mid (w_mid_Far : (List (List Int)) × Int × List Int → Option (Int)) (w_mid_better : (Unit ⊕ (Int × Int)) × Int × Int → Option (Int × Int)) (w_mid_who : Unit ⊕ (Int × Int) → Option (Int)) (N : Nat) (x : (List (List Int)) × List Int) : Option (Int) :=
  obind (loopN N (fun (v : (PUnit ⊕ Int × Int) × Int) => cnd (decide (v.2 < (↑(List.length x.2) : Int))) (cnd (decide ((0:Int) ≤ v.2) && decide (v.2 <
    (↑(List.length x.2) : Int))) (obind (w_mid_Far (x.1, List.getD x.2 (Int.toNat v.2) (0:Int), x.2)) fun b => obind (w_mid_better (v.1, List.getD
    x.2 (Int.toNat v.2) (0:Int), b)) fun b => some (Sum.inl (Sum.inr b, wr .i64 (v.2 + (1:Int))))) none) (some (Sum.inr v.1))) (Sum.inl (), (0:Int)))
    fun (b : PUnit ⊕ Int × Int) => obind (w_mid_who b) fun b => some b
theorem q_mid_Mid : ∀ w_mid_Far w_mid_better w_mid_who N x, u_mid_Mid.F L0 P0 (orcOf [u_mid_Far.con w_mid_Far, u_mid_better.con w_mid_better, u_mid_who.con w_mid_who]) N x = V_mid_Mid w_mid_Far w_mid_better w_mid_who N x := by intros; kernel_rfl
noncomputable def W_mid_Mid (N : Nat) := V_mid_Mid (W_mid_Far N) (W_mid_better N) (W_mid_who N) N
theorem con_mid_Mid_ok (N : Nat) : (u_mid_Mid.con (W_mid_Mid N)).ok P0 := Uf.ok mixed (q_mid_Mid (W_mid_Far N) (W_mid_better N) (W_mid_who N) N) ⟨con_mid_Far_ok N, con_mid_better_ok N, con_mid_who_ok N, trivial⟩ Try.func56 (by kernel_rfl) fun x y => by kernel_rfl
def as_slices_Sort_int : List AS := [.acc 0]
def bs_slices_Sort_int : List BS := [.nrow 3 (.int .i64) true]
def out_slices_Sort_int (y : List Int) : V × List OK × List OK := (.tup [], [.nrow 3 false true ⟨(.int .i64), y⟩], [])
noncomputable def W_slices_Sort_int (N : Nat) (x : List Int) : Option (List Int) :=
  cnd (decide (List.length x ≤ (140737488355328:Nat))) (some (srt x)) none
noncomputable def conw_slices_Sort_int (w : List Int → Option (List Int)) : Con := ⟨57, as_slices_Sort_int, bs_slices_Sort_int, List Int, w, out_slices_Sort_int⟩
noncomputable def con_slices_Sort_int (N : Nat) : Con := conw_slices_Sort_int (W_slices_Sort_int N)
theorem con_slices_Sort_int_ok (N : Nat) : Con.ok P0 (con_slices_Sort_int N) := ⟨⟨Try.f57, Try.func57, by kernel_rfl, by kernel_rfl⟩, fun (x : List Int) (r : List Int) (hr : W_slices_Sort_int N x = some r) => so_con0 (ty := 3) (l := x) (r := r) soF57 soN57 hr⟩
noncomputable def u_hier_grounded : Uf := ⟨37, 64, Try.f37, [.val (.agg (.pair (.int .i64) (.pair (.list (.list (.int .i64))) (.list (.list (.agg (.pair (.list (.int .i64)) (.int .i64))))))))], [],
⟨[(2, .val .bool)], []⟩, [],
[(3, .loop [8] ⟨[(1, .ptr 600001 0), (3, .acc 700003), (10, .val (.int .i64))], [(600001, .box 38 (.val (.pair (.int .i64) (.pair (.list (.list (.int .i64))) (.list (.list (.agg (.pair (.list (.int .i64)) (.int .i64))))))))), (700003, .nrow 3 (.int .i64) false true)]⟩ [(.exit 0, ⟨[(3, .acc 700003)], [(700003, .nrow 3 (.int .i64) false true)]⟩), (.ret, ⟨[(2, .val .bool)], []⟩)])],
[], fun y => (valW .bool y, [], [])⟩
noncomputable def V_hier_grounded (w_hier_ground : Int × (List (List Int)) × List (List ((List Int) × Int)) → Option (List ((List Int) × Int))) (w_hier_rises : List Int → Option (Bool)) (w_mid_Mid : (List (List Int)) × List Int → Option (Int)) (w_slices_Sort_int : List Int → Option (List Int)) (N : Nat) (x : Int × (List (List Int)) × List (List ((List Int) × Int))) : Option (Bool) :=
  obind (w_hier_ground x) fun b => obind (loopN N (fun (v : Int × (Int × List (List Int) × List (List (List Int × Int))) × List Int) => cnd (decide
    (v.1 < (↑(List.length b) : Int))) (cnd (decide ((0:Int) ≤ v.1) && decide (v.1 < (↑(List.length b) : Int))) (cnd (decide ((↑(List.length (Prod.fst
    (List.getD b (Int.toNat v.1) ([], (0:Int))))) : Int) < (1:Int))) (some (Sum.inr (Sum.inr false))) (cnd (decide (wr .i64 (wr .i64 ((3:Int) * v.2.1.1)
    - (1:Int)) < (↑(List.length (Prod.fst (List.getD b (Int.toNat v.1) ([], (0:Int))))) : Int))) (some (Sum.inr (Sum.inr false))) (cnd (decide
    ((↑(List.length (Prod.fst (List.getD b (Int.toNat v.1) ([], (0:Int))))) : Int) < v.2.1.1)) (obind (w_hier_ground v.2.1) fun b_1 => cnd (decide
    ((1:Int) < (↑(List.length b_1) : Int))) (some (Sum.inr (Sum.inr false))) (obind (w_hier_rises (Prod.fst (List.getD b (Int.toNat v.1) ([],
    (0:Int))))) fun b_2 => cnd (!b_2) (some (Sum.inr (Sum.inr false))) (obind (w_mid_Mid (v.2.1.2.1, Prod.fst (List.getD b (Int.toNat v.1) ([],
    (0:Int))))) fun b_3 => cnd (decide (Prod.snd (List.getD b (Int.toNat v.1) ([], (0:Int))) ≠ b_3)) (some (Sum.inr (Sum.inr false))) (cnd (decide
    ((List.length v.2.2 + List.length (Prod.fst (List.getD b (Int.toNat v.1) ([], (0:Int))))) * (8:Nat) ≤ (140737488355328:Nat))) (some (Sum.inl (wr
    .i64 (v.1 + (1:Int)), v.2.1, v.2.2 ++ Prod.fst (List.getD b (Int.toNat v.1) ([], (0:Int)))))) none)))) (obind (w_hier_rises (Prod.fst (List.getD b
    (Int.toNat v.1) ([], (0:Int))))) fun b_1 => cnd (!b_1) (some (Sum.inr (Sum.inr false))) (obind (w_mid_Mid (v.2.1.2.1, Prod.fst (List.getD b
    (Int.toNat v.1) ([], (0:Int))))) fun b_2 => cnd (decide (Prod.snd (List.getD b (Int.toNat v.1) ([], (0:Int))) ≠ b_2)) (some (Sum.inr (Sum.inr
    false))) (cnd (decide ((List.length v.2.2 + List.length (Prod.fst (List.getD b (Int.toNat v.1) ([], (0:Int))))) * (8:Nat) ≤ (140737488355328:Nat)))
    (some (Sum.inl (wr .i64 (v.1 + (1:Int)), v.2.1, v.2.2 ++ Prod.fst (List.getD b (Int.toNat v.1) ([], (0:Int)))))) none)))))) none) (some (Sum.inr
    (Sum.inl v.2.2)))) ((0:Int), x, [])) fun (b : List Int ⊕ Bool) => selim (fun (b : List Int) => obind (w_slices_Sort_int b) fun b_1 => cnd (decide
    (List.length b_1 = List.length b)) (obind (w_hier_rises b_1) fun b => some b) none) (fun (c : Bool) => some c) b
theorem q_hier_grounded : ∀ w_hier_ground w_hier_rises w_mid_Mid w_slices_Sort_int N x, u_hier_grounded.F L0 P0 (orcOf [u_hier_ground.con w_hier_ground, u_hier_rises.con w_hier_rises, u_mid_Mid.con w_mid_Mid, conw_slices_Sort_int w_slices_Sort_int]) N x = V_hier_grounded w_hier_ground w_hier_rises w_mid_Mid w_slices_Sort_int N x := by intros; kernel_rfl
noncomputable def W_hier_grounded (N : Nat) := V_hier_grounded (W_hier_ground N) (W_hier_rises N) (W_mid_Mid N) (W_slices_Sort_int N) N
theorem con_hier_grounded_ok (N : Nat) : (u_hier_grounded.con (W_hier_grounded N)).ok P0 := Uf.ok mixed (q_hier_grounded (W_hier_ground N) (W_hier_rises N) (W_mid_Mid N) (W_slices_Sort_int N) N) ⟨con_hier_ground_ok N, con_hier_rises_ok N, con_mid_Mid_ok N, con_slices_Sort_int_ok N, trivial⟩ Try.func37 (by kernel_rfl) fun x y => by kernel_rfl
noncomputable def u_hier_leaders : Uf := ⟨59, 21, Try.f59, [.val (.list (.agg (.pair (.list (.int .i64)) (.int .i64))))], [],
⟨[(2, .val (.list (.int .i64)))], []⟩, [],
[(3, .loop [6] ⟨[(3, .acc 700003), (8, .val (.int .i64))], [(700003, .nrow 3 (.int .i64) false true)]⟩ [(.exit 0, ⟨[(3, .acc 700003)], [(700003, .nrow 3 (.int .i64) false true)]⟩)])],
[], fun y => (valW (.list (.int .i64)) y, [], [])⟩
noncomputable def V_hier_leaders (w_slices_Sort_int : List Int → Option (List Int)) (N : Nat) (x : List ((List Int) × Int)) : Option (List Int) :=
  obind (loopN N (fun (v : Int × List Int) => cnd (decide (v.1 < (↑(List.length x) : Int))) (cnd (decide ((0:Int) ≤ v.1) && decide (v.1 < (↑(List.length
    x) : Int))) (cnd (decide ((List.length v.2 + (1:Nat)) * (8:Nat) ≤ (140737488355328:Nat))) (some (Sum.inl (wr .i64 (v.1 + (1:Int)), v.2 ++ [Prod.snd
    (List.getD x (Int.toNat v.1) ([], (0:Int)))]))) none) none) (some (Sum.inr v.2))) ((0:Int), [])) fun (b : List Int) => obind (w_slices_Sort_int b)
    fun b_1 => cnd (decide (List.length b_1 = List.length b)) (some b_1) none
theorem q_hier_leaders : ∀ w_slices_Sort_int N x, u_hier_leaders.F L0 P0 (orcOf [conw_slices_Sort_int w_slices_Sort_int]) N x = V_hier_leaders w_slices_Sort_int N x := by intros; kernel_rfl
noncomputable def W_hier_leaders (N : Nat) := V_hier_leaders (W_slices_Sort_int N) N
theorem con_hier_leaders_ok (N : Nat) : (u_hier_leaders.con (W_hier_leaders N)).ok P0 := Uf.ok mixed (q_hier_leaders (W_slices_Sort_int N) N) ⟨con_slices_Sort_int_ok N, trivial⟩ Try.func59 (by kernel_rfl) fun x y => by kernel_rfl
noncomputable def u_clus_Of : Uf := ⟨69, 11, Try.f69, [.val (.list (.list (.int .i64))), .val (.list (.int .i64))], [],
⟨[(4, .ptr 600004 0)], [(600004, .box 45 (.val (.pair (.list (.int .i64)) (.int .i64))))]⟩, [],
[],
[], fun y => (valW (.agg (.pair (.list (.int .i64)) (.int .i64))) y, [], [])⟩
noncomputable def V_clus_Of (w_slices_Clone_int : List Int → Option (List Int)) (w_mid_Mid : (List (List Int)) × List Int → Option (Int)) (N : Nat) (x : (List (List Int)) × List Int) : Option ((List Int) × Int) :=
  obind (w_slices_Clone_int x.2) fun b => obind (w_mid_Mid x) fun b_1 => some (b, b_1)
theorem q_clus_Of : ∀ w_slices_Clone_int w_mid_Mid N x, u_clus_Of.F L0 P0 (orcOf [conw_slices_Clone_int w_slices_Clone_int, u_mid_Mid.con w_mid_Mid]) N x = V_clus_Of w_slices_Clone_int w_mid_Mid N x := by intros; kernel_rfl
noncomputable def W_clus_Of (N : Nat) := V_clus_Of (W_slices_Clone_int N) (W_mid_Mid N) N
theorem con_clus_Of_ok (N : Nat) : (u_clus_Of.con (W_clus_Of N)).ok P0 := Uf.ok mixed (q_clus_Of (W_slices_Clone_int N) (W_mid_Mid N) N) ⟨con_slices_Clone_int_ok N, con_mid_Mid_ok N, trivial⟩ Try.func69 (by kernel_rfl) fun x y => by kernel_rfl
noncomputable def u_clus_rises : Uf := ⟨112, 21, Try.f112, [.val (.list (.int .i64))], [],
⟨[(2, .val .bool)], []⟩, [],
[(3, .loop [6] ⟨[(3, .val (.int .i64)), (8, .val (.int .i64))], []⟩ [(.exit 0, ⟨[], []⟩), (.ret, ⟨[(2, .val .bool)], []⟩)])],
[], fun y => (valW .bool y, [], [])⟩
noncomputable def V_clus_rises (N : Nat) (x : List Int) : Option (Bool) :=
  obind (loopN N (fun (v : Int × Int) => cnd (decide (v.2 < (↑(List.length x) : Int))) (cnd (decide ((0:Int) ≤ v.2) && decide (v.2 < (↑(List.length x) :
    Int))) (cnd (decide (List.getD x (Int.toNat v.2) (0:Int) ≤ v.1)) (some (Sum.inr (Sum.inr false))) (cnd (decide ((8:Int) < List.getD x (Int.toNat
    v.2) (0:Int))) (some (Sum.inr (Sum.inr false))) (some (Sum.inl (List.getD x (Int.toNat v.2) (0:Int), wr .i64 (v.2 + (1:Int))))))) none) (some
    (Sum.inr (Sum.inl ())))) ((0:Int), (0:Int))) fun (b : PUnit ⊕ Bool) => selim (fun (b : PUnit) => some true) (fun (c : Bool) => some c) b
theorem q_clus_rises : ∀ N x, u_clus_rises.F L0 P0 (orcOf []) N x = V_clus_rises N x := by intros; kernel_rfl
noncomputable def W_clus_rises (N : Nat) := V_clus_rises N
theorem con_clus_rises_ok (N : Nat) : (u_clus_rises.con (W_clus_rises N)).ok P0 := Uf.ok mixed (q_clus_rises N) trivial Try.func112 (by kernel_rfl) fun x y => by kernel_rfl
noncomputable def u_clus_apart : Uf := ⟨103, 12, Try.f103, [.val (.list (.list (.int .i64))), .val (.int .i64), .val (.int .i64)], [],
⟨[(6, .val (.int .i64))], []⟩, [],
[],
[], fun y => (valW (.int .i64) y, [], [])⟩
noncomputable def V_clus_apart (w_mid_Far : (List (List Int)) × Int × List Int → Option (Int)) (N : Nat) (x : (List (List Int)) × Int × Int) : Option (Int) :=
  obind (w_mid_Far (x.1, x.2.1, [x.2.2])) fun b => some b
theorem q_clus_apart : ∀ w_mid_Far N x, u_clus_apart.F L0 P0 (orcOf [u_mid_Far.con w_mid_Far]) N x = V_clus_apart w_mid_Far N x := by intros; kernel_rfl
noncomputable def W_clus_apart (N : Nat) := V_clus_apart (W_mid_Far N) N
theorem con_clus_apart_ok (N : Nat) : (u_clus_apart.con (W_clus_apart N)).ok P0 := Uf.ok mixed (q_clus_apart (W_mid_Far N) N) ⟨con_mid_Far_ok N, trivial⟩ Try.func103 (by kernel_rfl) fun x y => by kernel_rfl
noncomputable def u_clus_farthest : Uf := ⟨102, 61, Try.f102, [.val (.list (.list (.int .i64))), .val (.list (.int .i64))], [],
⟨[(4, .val (.alt 123 (.agg (.pair (.int .i64) (.int .i64))) (.alt1 134 (.agg .unit))))], []⟩, [],
[(8, .loop [27, 37] ⟨[(5, .ptr 600005 0), (39, .val (.int .i64))], [(600005, .box 123 (.val (.pair (.int .i64) (.int .i64))))]⟩ [(.exit 2, ⟨[(5, .ptr 600005 0)], [(600005, .box 123 (.val (.pair (.int .i64) (.int .i64))))]⟩)]),
(5, .loop [27] ⟨[(5, .ptr 600005 0), (29, .val (.int .i64))], [(600005, .box 123 (.val (.pair (.int .i64) (.int .i64))))]⟩ [(.exit 0, ⟨[(5, .ptr 600005 0)], [(600005, .box 123 (.val (.pair (.int .i64) (.int .i64))))]⟩)])],
[], fun y => (valW (.alt 123 (.agg (.pair (.int .i64) (.int .i64))) (.alt1 134 (.agg .unit))) y, [], [])⟩
noncomputable def V_clus_farthest (w_clus_rises : List Int → Option (Bool)) (w_clus_apart : (List (List Int)) × Int × Int → Option (Int)) (N : Nat) (x : (List (List Int)) × List Int) : Option ((Int × Int) ⊕ Unit) :=
  cnd (decide ((↑(List.length x.2) : Int) < (2:Int))) (some (Sum.inr ())) (obind (w_clus_rises x.2) fun b => cnd (!b) (some (Sum.inr ())) (cnd (decide
    ((0:Int) ≤ (0:Int)) && decide ((0:Int) < (↑(List.length x.2) : Int))) (cnd (decide ((0:Int) ≤ (1:Int)) && decide ((1:Int) < (↑(List.length x.2) :
    Int))) (obind (loopN N (fun (v : Int × Int × Int) => cnd (decide (v.1 < (↑(List.length x.2) : Int))) (cnd (decide ((0:Int) ≤ v.1) && decide (v.1 <
    (↑(List.length x.2) : Int))) (cnd (decide ((0:Int) ≤ wr .i64 (v.1 + (1:Int))) && decide (wr .i64 (v.1 + (1:Int)) ≤ (↑(List.length x.2) : Int)))
    (obind (loopN N (fun (v_1 : Int × Int × Int) => cnd (decide (v_1.1 < (↑(List.length (List.drop (Int.toNat (wr .i64 (v.1 + (1:Int)))) (List.take
    (List.length x.2) x.2))) : Int))) (cnd (decide ((0:Int) ≤ v_1.1) && decide (v_1.1 < (↑(List.length (List.drop (Int.toNat (wr .i64 (v.1 + (1:Int))))
    (List.take (List.length x.2) x.2))) : Int))) (obind (w_clus_apart (x.1, List.getD x.2 (Int.toNat v.1) (0:Int), List.getD (List.drop (Int.toNat (wr
    .i64 (v.1 + (1:Int)))) (List.take (List.length x.2) x.2)) (Int.toNat v_1.1) (0:Int))) fun b => obind (w_clus_apart (x.1, v_1.2)) fun b_1 => cnd
    (decide (b_1 < b)) (some (Sum.inl (wr .i64 (v_1.1 + (1:Int)), List.getD x.2 (Int.toNat v.1) (0:Int), List.getD (List.drop (Int.toNat (wr .i64 (v.1 +
    (1:Int)))) (List.take (List.length x.2) x.2)) (Int.toNat v_1.1) (0:Int)))) (some (Sum.inl (wr .i64 (v_1.1 + (1:Int)), v_1.2)))) none) (some (Sum.inr
    v_1.2))) ((0:Int), v.2)) fun (b : Int × Int) => some (Sum.inl (wr .i64 (v.1 + (1:Int)), b))) none) none) (some (Sum.inr v.2))) ((0:Int), List.getD
    x.2 (0:Nat) (0:Int), List.getD x.2 (1:Nat) (0:Int))) fun (b : Int × Int) => some (Sum.inl b)) none) none))
theorem q_clus_farthest : ∀ w_clus_rises w_clus_apart N x, u_clus_farthest.F L0 P0 (orcOf [u_clus_rises.con w_clus_rises, u_clus_apart.con w_clus_apart]) N x = V_clus_farthest w_clus_rises w_clus_apart N x := by intros; kernel_rfl
noncomputable def W_clus_farthest (N : Nat) := V_clus_farthest (W_clus_rises N) (W_clus_apart N) N
theorem con_clus_farthest_ok (N : Nat) : (u_clus_farthest.con (W_clus_farthest N)).ok P0 := Uf.ok mixed (q_clus_farthest (W_clus_rises N) (W_clus_apart N) N) ⟨con_clus_rises_ok N, con_clus_apart_ok N, trivial⟩ Try.func102 (by kernel_rfl) fun x y => by kernel_rfl
def as_slices_DeleteFunc_int__clus_without_1 : List AS := [.acc 0, .fn 88 [1]]
def bs_slices_DeleteFunc_int__clus_without_1 : List BS := [.nrow 3 (.int .i64) true, .box 3 (.int .i64)]
def out_slices_DeleteFunc_int__clus_without_1 (y : Int × List Int) : V × List OK × List OK := (.acc 2000000 0, [.dead, .box 3 (cellsW (.int .i64) y.1)], [.nrow 3 false false ⟨(.int .i64), y.2⟩])
noncomputable def W_slices_DeleteFunc_int__clus_without_1 (N : Nat) (x : (List Int) × Int) : Option (Int × List Int) :=
  cnd (decide ((0:Nat) < List.length x.1) && decide (List.length x.1 ≤ (140737488355328:Nat))) (some (x.2, List.filter (fun (a : Int) => !decide (a = x.2)) x.1)) none
noncomputable def conw_slices_DeleteFunc_int__clus_without_1 (w : (List Int) × Int → Option (Int × List Int)) : Con := ⟨87, as_slices_DeleteFunc_int__clus_without_1, bs_slices_DeleteFunc_int__clus_without_1, Int × List Int, w, out_slices_DeleteFunc_int__clus_without_1⟩
noncomputable def con_slices_DeleteFunc_int__clus_without_1 (N : Nat) : Con := conw_slices_DeleteFunc_int__clus_without_1 (W_slices_DeleteFunc_int__clus_without_1 N)
theorem con_slices_DeleteFunc_int__clus_without_1_ok (N : Nat) : Con.ok P0 (con_slices_DeleteFunc_int__clus_without_1 N) := ⟨⟨Try.f87, Try.func87, by kernel_rfl, by kernel_rfl⟩, fun (x : (List Int) × Int) (r : Int × List Int) (hr : W_slices_DeleteFunc_int__clus_without_1 N x = some r) => by
  obtain ⟨l, k⟩ := x
  exact df_con (ty := 3) (bt := 3) (nl := true) (l := l) (k := k) (r := r) dfF87 hr⟩
noncomputable def u_clus_without : Uf := ⟨75, 9, Try.f75, [.val (.list (.int .i64)), .val (.int .i64)], [],
⟨[(4, .val (.list (.int .i64)))], []⟩, [],
[],
[], fun y => (valW (.list (.int .i64)) y, [], [])⟩
noncomputable def V_clus_without (w_slices_Clone_int : List Int → Option (List Int)) (w_slices_DeleteFunc_int__clus_without_1 : (List Int) × Int → Option (Int × List Int)) (N : Nat) (x : (List Int) × Int) : Option (List Int) :=
  obind (w_slices_Clone_int x.1) fun b => obind (w_slices_DeleteFunc_int__clus_without_1 (b, x.2)) fun b => some b.2
theorem q_clus_without : ∀ w_slices_Clone_int w_slices_DeleteFunc_int__clus_without_1 N x, u_clus_without.F L0 P0 (orcOf [conw_slices_Clone_int w_slices_Clone_int, conw_slices_DeleteFunc_int__clus_without_1 w_slices_DeleteFunc_int__clus_without_1]) N x = V_clus_without w_slices_Clone_int w_slices_DeleteFunc_int__clus_without_1 N x := by intros; kernel_rfl
noncomputable def W_clus_without (N : Nat) := V_clus_without (W_slices_Clone_int N) (W_slices_DeleteFunc_int__clus_without_1 N) N
theorem con_clus_without_ok (N : Nat) : (u_clus_without.con (W_clus_without N)).ok P0 := Uf.ok mixed (q_clus_without (W_slices_Clone_int N) (W_slices_DeleteFunc_int__clus_without_1 N) N) ⟨con_slices_Clone_int_ok N, con_slices_DeleteFunc_int__clus_without_1_ok N, trivial⟩ Try.func75 (by kernel_rfl) fun x y => by kernel_rfl
noncomputable def u_mid_Near : Uf := ⟨74, 31, Try.f74, [.val (.list (.list (.int .i64))), .val (.int .i64), .val (.list (.int .i64))], [],
⟨[(6, .val (.int .i64))], []⟩, [],
[(3, .loop [12] ⟨[(7, .val (.alt 96 (.agg .unit) (.alt1 108 (.agg (.pair (.int .i64) (.int .i64)))))), (14, .val (.int .i64))], []⟩ [(.exit 0, ⟨[(7, .val (.alt 96 (.agg .unit) (.alt1 108 (.agg (.pair (.int .i64) (.int .i64))))))], []⟩)])],
[], fun y => (valW (.int .i64) y, [], [])⟩
noncomputable def V_mid_Near (w_mid_between : (List (List Int)) × Int × Int → Option (Int)) (w_mid_better : (Unit ⊕ (Int × Int)) × Int × Int → Option (Int × Int)) (w_mid_who : Unit ⊕ (Int × Int) → Option (Int)) (N : Nat) (x : (List (List Int)) × Int × List Int) : Option (Int) :=
  obind (loopN N (fun (v : (PUnit ⊕ Int × Int) × Int) => cnd (decide (v.2 < (↑(List.length x.2.2) : Int))) (cnd (decide ((0:Int) ≤ v.2) && decide (v.2 <
    (↑(List.length x.2.2) : Int))) (cnd (decide (List.getD x.2.2 (Int.toNat v.2) (0:Int) ≠ x.2.1)) (obind (w_mid_between (x.1, x.2.1, List.getD x.2.2
    (Int.toNat v.2) (0:Int))) fun b => obind (w_mid_better (v.1, List.getD x.2.2 (Int.toNat v.2) (0:Int), b)) fun b => some (Sum.inl (Sum.inr b, wr
    .i64 (v.2 + (1:Int))))) (some (Sum.inl (v.1, wr .i64 (v.2 + (1:Int)))))) none) (some (Sum.inr v.1))) (Sum.inl (), (0:Int))) fun (b : PUnit ⊕ Int ×
    Int) => obind (w_mid_who b) fun b => some b
theorem q_mid_Near : ∀ w_mid_between w_mid_better w_mid_who N x, u_mid_Near.F L0 P0 (orcOf [u_mid_between.con w_mid_between, u_mid_better.con w_mid_better, u_mid_who.con w_mid_who]) N x = V_mid_Near w_mid_between w_mid_better w_mid_who N x := by intros; kernel_rfl
noncomputable def W_mid_Near (N : Nat) := V_mid_Near (W_mid_between N) (W_mid_better N) (W_mid_who N) N
theorem con_mid_Near_ok (N : Nat) : (u_mid_Near.con (W_mid_Near N)).ok P0 := Uf.ok mixed (q_mid_Near (W_mid_between N) (W_mid_better N) (W_mid_who N) N) ⟨con_mid_between_ok N, con_mid_better_ok N, con_mid_who_ok N, trivial⟩ Try.func74 (by kernel_rfl) fun x y => by kernel_rfl
noncomputable def u_clus_with : Uf := ⟨73, 13, Try.f73, [.val (.list (.int .i64)), .val (.list (.int .i64))], [],
⟨[(4, .val (.list (.int .i64)))], []⟩, [],
[],
[], fun y => (valW (.list (.int .i64)) y, [], [])⟩
noncomputable def V_clus_with (w_slices_Clone_int : List Int → Option (List Int)) (w_slices_Sort_int : List Int → Option (List Int)) (N : Nat) (x : (List Int) × List Int) : Option (List Int) :=
  obind (w_slices_Clone_int x.1) fun b => cnd (decide ((List.length b + List.length x.2) * (8:Nat) ≤ (140737488355328:Nat))) (obind (w_slices_Sort_int (b ++ x.2)) fun b_1 => cnd (decide (List.length b_1 = List.length (b ++ x.2))) (some b_1) none) none
theorem q_clus_with : ∀ w_slices_Clone_int w_slices_Sort_int N x, u_clus_with.F L0 P0 (orcOf [conw_slices_Clone_int w_slices_Clone_int, conw_slices_Sort_int w_slices_Sort_int]) N x = V_clus_with w_slices_Clone_int w_slices_Sort_int N x := by intros; kernel_rfl
noncomputable def W_clus_with (N : Nat) := V_clus_with (W_slices_Clone_int N) (W_slices_Sort_int N) N
theorem con_clus_with_ok (N : Nat) : (u_clus_with.con (W_clus_with N)).ok P0 := Uf.ok mixed (q_clus_with (W_slices_Clone_int N) (W_slices_Sort_int N) N) ⟨con_slices_Clone_int_ok N, con_slices_Sort_int_ok N, trivial⟩ Try.func73 (by kernel_rfl) fun x y => by kernel_rfl
noncomputable def u_clus_fill : Uf := ⟨104, 40, Try.f104, [.val (.list (.list (.int .i64))), .val (.agg (.pair (.int .i64) (.int .i64))), .val (.list (.int .i64)), .val (.list (.int .i64)), .val (.int .i64)], [],
⟨[(10, .val (.list (.int .i64))), (11, .val (.list (.int .i64)))], []⟩, [],
[(1, .loop [] ⟨[(2, .val (.list (.int .i64))), (3, .val (.list (.int .i64))), (6, .ptr 600006 0)], [(600006, .box 123 (.val (.pair (.int .i64) (.int .i64))))]⟩ [(.exit 0, ⟨[(2, .val (.list (.int .i64))), (3, .val (.list (.int .i64)))], []⟩)])],
[], fun y => (.tup [valW (.list (.int .i64)) y.1, valW (.list (.int .i64)) y.2], [], [])⟩
noncomputable def V_clus_fill (w_clus_without : (List Int) × Int → Option (List Int)) (w_mid_Near : (List (List Int)) × Int × List Int → Option (Int)) (w_clus_with : (List Int) × List Int → Option (List Int)) (N : Nat) (x : (List (List Int)) × (Int × Int) × (List Int) × (List Int) × Int) : Option ((List Int) × List Int) :=
  obind (loopN N (fun (v : List Int × List Int × Int × Int) => cnd (decide ((↑(List.length v.1) : Int) < x.2.2.2.2)) (cnd (decide (x.2.2.2.2 <
    (↑(List.length v.2.1) : Int))) (obind (w_clus_without (v.2.1, v.2.2.2)) fun b => obind (w_mid_Near (x.1, v.2.2.1, b)) fun b => obind
    (w_clus_with (v.1, [b])) fun b_1 => obind (w_clus_without (v.2.1, b)) fun b => some (Sum.inl (b_1, b, v.2.2))) (some (Sum.inr (v.1, v.2.1))))
    (some (Sum.inr (v.1, v.2.1)))) (x.2.2.1, x.2.2.2.1, x.2.1)) fun (b : List Int × List Int) => some b
theorem q_clus_fill : ∀ w_clus_without w_mid_Near w_clus_with N x, u_clus_fill.F L0 P0 (orcOf [u_clus_without.con w_clus_without, u_mid_Near.con w_mid_Near, u_clus_with.con w_clus_with]) N x = V_clus_fill w_clus_without w_mid_Near w_clus_with N x := by intros; kernel_rfl
noncomputable def W_clus_fill (N : Nat) := V_clus_fill (W_clus_without N) (W_mid_Near N) (W_clus_with N) N
theorem con_clus_fill_ok (N : Nat) : (u_clus_fill.con (W_clus_fill N)).ok P0 := Uf.ok mixed (q_clus_fill (W_clus_without N) (W_mid_Near N) (W_clus_with N) N) ⟨con_clus_without_ok N, con_mid_Near_ok N, con_clus_with_ok N, trivial⟩ Try.func104 (by kernel_rfl) fun x y => by kernel_rfl
noncomputable def u_clus_Split : Uf := ⟨85, 85, Try.f85, [.val (.list (.list (.int .i64))), .val (.list (.int .i64)), .val (.int .i64)], [],
⟨[(6, .val (.list (.int .i64))), (7, .val (.list (.int .i64)))], []⟩, [],
[(5, .loop [23] ⟨[(6, .acc 700082), (7, .acc 700081), (8, .ptr 600008 0), (25, .val (.int .i64))], [(700082, .nrow 3 (.int .i64) true true), (700081, .nrow 3 (.int .i64) true true), (600008, .box 123 (.val (.pair (.int .i64) (.int .i64))))]⟩ [(.exit 0, ⟨[(6, .val (.list (.int .i64))), (7, .val (.list (.int .i64))), (8, .ptr 600008 0)], [(600008, .box 123 (.val (.pair (.int .i64) (.int .i64))))]⟩)])],
[], fun y => (.tup [valW (.list (.int .i64)) y.1, valW (.list (.int .i64)) y.2], [], [])⟩
noncomputable def V_clus_Split (w_clus_farthest : (List (List Int)) × List Int → Option ((Int × Int) ⊕ Unit)) (w_slices_Clone_int : List Int → Option (List Int)) (w_clus_apart : (List (List Int)) × Int × Int → Option (Int)) (w_clus_fill : (List (List Int)) × (Int × Int) × (List Int) × (List Int) × Int → Option ((List Int) × List Int)) (N : Nat) (x : (List (List Int)) × (List Int) × Int) : Option ((List Int) × List Int) :=
  obind (w_clus_farthest (x.1, x.2.1)) fun b => selim (fun (b : Int × Int) => obind (loopN N (fun (v : Int × List Int × List Int × Int × Int) => cnd
    (decide (v.1 < (↑(List.length x.2.1) : Int))) (cnd (decide ((0:Int) ≤ v.1) && decide (v.1 < (↑(List.length x.2.1) : Int))) (cnd (decide (List.getD
    x.2.1 (Int.toNat v.1) (0:Int) = v.2.2.2.1)) (cnd (decide ((List.length v.2.1 + List.length [List.getD x.2.1 (Int.toNat v.1) (0:Int)]) * (8:Nat) ≤
    (140737488355328:Nat))) (some (Sum.inl (wr .i64 (v.1 + (1:Int)), v.2.1 ++ [List.getD x.2.1 (Int.toNat v.1) (0:Int)], v.2.2))) none) (cnd (decide
    (List.getD x.2.1 (Int.toNat v.1) (0:Int) ≠ v.2.2.2.2)) (obind (w_clus_apart (x.1, List.getD x.2.1 (Int.toNat v.1) (0:Int), v.2.2.2.1)) fun b =>
    obind (w_clus_apart (x.1, List.getD x.2.1 (Int.toNat v.1) (0:Int), v.2.2.2.2)) fun b_1 => cnd (decide (b ≤ b_1)) (cnd (decide ((List.length v.2.1
    + List.length [List.getD x.2.1 (Int.toNat v.1) (0:Int)]) * (8:Nat) ≤ (140737488355328:Nat))) (some (Sum.inl (wr .i64 (v.1 + (1:Int)), v.2.1 ++
    [List.getD x.2.1 (Int.toNat v.1) (0:Int)], v.2.2))) none) (cnd (decide ((List.length v.2.2.1 + List.length [List.getD x.2.1 (Int.toNat v.1)
    (0:Int)]) * (8:Nat) ≤ (140737488355328:Nat))) (some (Sum.inl (wr .i64 (v.1 + (1:Int)), v.2.1, v.2.2.1 ++ [List.getD x.2.1 (Int.toNat v.1) (0:Int)],
    v.2.2.2))) none)) (cnd (decide ((List.length v.2.2.1 + List.length [List.getD x.2.1 (Int.toNat v.1) (0:Int)]) * (8:Nat) ≤ (140737488355328:Nat)))
    (some (Sum.inl (wr .i64 (v.1 + (1:Int)), v.2.1, v.2.2.1 ++ [List.getD x.2.1 (Int.toNat v.1) (0:Int)], v.2.2.2))) none))) none) (some (Sum.inr v.2)))
    ((0:Int), [], [], b)) fun (b : List Int × List Int × Int × Int) => obind (w_clus_fill (x.1, b.2.2, b.1, b.2.1, x.2.2)) fun b_1 => obind
    (w_clus_fill (x.1, (b.2.2.2, b.2.2.1), b_1.2, b_1.1, x.2.2)) fun b => some (b.2, b.1)) (fun (c : PUnit) => obind (w_slices_Clone_int x.2.1) fun
    b => some (b, [])) b
theorem q_clus_Split : ∀ w_clus_farthest w_slices_Clone_int w_clus_apart w_clus_fill N x, u_clus_Split.F L0 P0 (orcOf [u_clus_farthest.con w_clus_farthest, conw_slices_Clone_int w_slices_Clone_int, u_clus_apart.con w_clus_apart, u_clus_fill.con w_clus_fill]) N x = V_clus_Split w_clus_farthest w_slices_Clone_int w_clus_apart w_clus_fill N x := by intros; kernel_rfl
noncomputable def W_clus_Split (N : Nat) := V_clus_Split (W_clus_farthest N) (W_slices_Clone_int N) (W_clus_apart N) (W_clus_fill N) N
theorem con_clus_Split_ok (N : Nat) : (u_clus_Split.con (W_clus_Split N)).ok P0 := Uf.ok mixed (q_clus_Split (W_clus_farthest N) (W_slices_Clone_int N) (W_clus_apart N) (W_clus_fill N) N) ⟨con_clus_farthest_ok N, con_slices_Clone_int_ok N, con_clus_apart_ok N, con_clus_fill_ok N, trivial⟩ Try.func85 (by kernel_rfl) fun x y => by kernel_rfl
noncomputable def u_clus_fitted : Uf := ⟨72, 40, Try.f72, [.val (.list (.list (.int .i64))), .val (.list (.int .i64)), .val (.int .i64)], [],
⟨[(6, .acc 700039)], [(700039, .nrow 45 (.agg (.pair (.list (.int .i64)) (.int .i64))) false true)]⟩, [],
[],
[], fun y => (.acc 2000000 0, [], [.nrow 45 false true ⟨(.agg (.pair (.list (.int .i64)) (.int .i64))), y⟩])⟩
noncomputable def V_clus_fitted (w_clus_Of : (List (List Int)) × List Int → Option ((List Int) × Int)) (w_clus_Split : (List (List Int)) × (List Int) × Int → Option ((List Int) × List Int)) (N : Nat) (x : (List (List Int)) × (List Int) × Int) : Option (List ((List Int) × Int)) :=
  cnd (decide ((↑(List.length x.2.1) : Int) ≤ wr .i64 (wr .i64 ((3:Int) * x.2.2) - (1:Int)))) (obind (w_clus_Of (x.1, x.2.1)) fun b => some [b])
    (obind (w_clus_Split x) fun b => cnd (decide ((↑(List.length b.2) : Int) = (0:Int))) (obind (w_clus_Of (x.1, b.1)) fun b => some [b]) (obind
    (w_clus_Of (x.1, b.1)) fun b_1 => obind (w_clus_Of (x.1, b.2)) fun b => some [b_1, b]))
theorem q_clus_fitted : ∀ w_clus_Of w_clus_Split N x, u_clus_fitted.F L0 P0 (orcOf [u_clus_Of.con w_clus_Of, u_clus_Split.con w_clus_Split]) N x = V_clus_fitted w_clus_Of w_clus_Split N x := by intros; kernel_rfl
noncomputable def W_clus_fitted (N : Nat) := V_clus_fitted (W_clus_Of N) (W_clus_Split N) N
theorem con_clus_fitted_ok (N : Nat) : (u_clus_fitted.con (W_clus_fitted N)).ok P0 := Uf.ok mixed (q_clus_fitted (W_clus_Of N) (W_clus_Split N) N) ⟨con_clus_Of_ok N, con_clus_Split_ok N, trivial⟩ Try.func72 (by kernel_rfl) fun x y => by kernel_rfl
def as_clus_Group : List AS := [.val (.list (.list (.int .i64))), .val (.list (.int .i64)), .val (.int .i64)]
def bs_clus_Group : List BS := []
def out_clus_Group (y : List ((List Int) × Int)) : V × List OK × List OK := (.acc 2000000 0, [], [.nrow 45 true true ⟨(.agg (.pair (.list (.int .i64)) (.int .i64))), y⟩])
noncomputable def conw_clus_Group (w : (List (List Int)) × (List Int) × Int → Option (List ((List Int) × Int))) : Con := ⟨58, as_clus_Group, bs_clus_Group, List ((List Int) × Int), w, out_clus_Group⟩
def pout_clus_Group : Pat := ⟨[(6, .acc 700025)], [(700025, .nrow 45 (.agg (.pair (.list (.int .i64)) (.int .i64))) true true)]⟩
noncomputable def G_clus_Group (w_clus_fitted : (List (List Int)) × (List Int) × Int → Option (List ((List Int) × Int))) (w_clus_Group : (List (List Int)) × (List Int) × Int → Option (List ((List Int) × Int))) (N : Nat) : OrcT := orcOf [u_clus_fitted.con w_clus_fitted, conw_clus_Group w_clus_Group]
noncomputable def F_clus_Group (w_clus_fitted : (List (List Int)) × (List Int) × Int → Option (List ((List Int) × Int))) (w_clus_Group : (List (List Int)) × (List Int) × Int → Option (List ((List Int) × Int))) (N : Nat) (x : (List (List Int)) × (List Int) × Int) : Option (List ((List Int) × Int)) :=
  (evT (G_clus_Group w_clus_fitted w_clus_Group N) L0 P0 []
    [] N 400 (bodyOf Try.f58) ⟨34, slots 0 (argsOf as_clus_Group bs_clus_Group x), tabU (lbOf as_clus_Group bs_clus_Group x) [], []⟩).elim (kRet 34 pout_clus_Group (kpL []) (lbOf as_clus_Group bs_clus_Group x))
noncomputable def V_clus_Group (w_clus_fitted : (List (List Int)) × (List Int) × Int → Option (List ((List Int) × Int))) (w_clus_Group : (List (List Int)) × (List Int) × Int → Option (List ((List Int) × Int))) (N : Nat) (x : (List (List Int)) × (List Int) × Int) : Option (List ((List Int) × Int)) :=
  cnd (decide ((↑(List.length x.2.1) : Int) = (0:Int))) (some []) (obind (w_clus_fitted x) fun b => cnd (decide ((↑(List.length b) : Int) = (1:Int)))
    (some b) (cnd (decide ((0:Int) ≤ (0:Int)) && decide ((0:Int) < (↑(List.length b) : Int))) (obind (w_clus_Group (x.1, Prod.fst (List.getD b (0:Nat)
    ([], (0:Int))), x.2.2)) fun b_1 => cnd (decide ((0:Int) ≤ (1:Int)) && decide ((1:Int) < (↑(List.length b) : Int))) (obind (w_clus_Group (x.1,
    Prod.fst (List.getD b (1:Nat) ([], (0:Int))), x.2.2)) fun b => cnd (decide ((List.length b_1 + List.length b) * (32:Nat) ≤ (140737488355328:Nat)))
    (some (b_1 ++ b)) none) none) none))
theorem FV_clus_Group_eq (w_clus_fitted : (List (List Int)) × (List Int) × Int → Option (List ((List Int) × Int))) (w_clus_Group : (List (List Int)) × (List Int) × Int → Option (List ((List Int) × Int))) (N : Nat) (x : (List (List Int)) × (List Int) × Int) : F_clus_Group w_clus_fitted w_clus_Group N x = V_clus_Group w_clus_fitted w_clus_Group N x := by kernel_rfl
noncomputable def WR_clus_Group (N : Nat) : Nat → ((List (List Int)) × (List Int) × Int) → Option (List ((List Int) × Int)) := fun m => Nat.rec (motive := fun _ => ((List (List Int)) × (List Int) × Int) → Option (List ((List Int) × Int))) (fun _ => none) (fun _ w_clus_Group x =>
  cnd (decide ((↑(List.length x.2.1) : Int) = (0:Int))) (some []) (obind (W_clus_fitted N x) fun b => cnd (decide ((↑(List.length b) : Int) = (1:Int)))
    (some b) (cnd (decide ((0:Int) ≤ (0:Int)) && decide ((0:Int) < (↑(List.length b) : Int))) (obind (w_clus_Group (x.1, Prod.fst (List.getD b (0:Nat)
    ([], (0:Int))), x.2.2)) fun b_1 => cnd (decide ((0:Int) ≤ (1:Int)) && decide ((1:Int) < (↑(List.length b) : Int))) (obind (w_clus_Group (x.1,
    Prod.fst (List.getD b (1:Nat) ([], (0:Int))), x.2.2)) fun b => cnd (decide ((List.length b_1 + List.length b) * (32:Nat) ≤ (140737488355328:Nat)))
    (some (b_1 ++ b)) none) none) none))) m
noncomputable def W_clus_Group (N : Nat) (x : (List (List Int)) × (List Int) × Int) : Option (List ((List Int) × Int)) := WR_clus_Group N N x
theorem F_clus_Group_eq (N m : Nat) (x : (List (List Int)) × (List Int) × Int) : F_clus_Group (W_clus_fitted N) (WR_clus_Group N m) N x = WR_clus_Group N (m + 1) x := (FV_clus_Group_eq (W_clus_fitted N) (WR_clus_Group N m) N x).trans (by kernel_rfl)
noncomputable def con_clus_Group (N : Nat) : Con := conw_clus_Group (W_clus_Group N)
theorem R_clus_Group_eq (x : (List (List Int)) × (List Int) × Int) (y : List ((List Int) × Int)) : retOf2 P0 Try.f58 (kpL []) (lbOf as_clus_Group bs_clus_Group x) (patS ⟨34, [], [], []⟩ pout_clus_Group y) = some (out_clus_Group y) := by kernel_rfl
theorem con_clus_Group_okR (N : Nat) : ∀ m, Con.ok P0 (conw_clus_Group (WR_clus_Group N m))
  | 0 => ⟨⟨Try.f58, Try.func58, by kernel_rfl, by kernel_rfl⟩, fun (x : (List (List Int)) × (List Int) × Int) (r : List ((List Int) × Int)) (hr : (none : Option (List ((List Int) × Int))) = some r) => by cases hr⟩
  | m + 1 => ⟨⟨Try.f58, Try.func58, by kernel_rfl, by kernel_rfl⟩, fun (x : (List (List Int)) × (List Int) × Int) (r : List ((List Int) × Int)) (hr : WR_clus_Group N (m + 1) x = some r) =>
    spec2_evT (Γ := G_clus_Group (W_clus_fitted N) (WR_clus_Group N m) N) (Λ := L0) (pout := pout_clus_Group) (kp := kpL []) mixed (orcOf_ok _ (by simp only [List.mem_cons, List.not_mem_nil, or_false, forall_eq_or_imp, forall_eq]; exact ⟨con_clus_fitted_ok N, con_clus_Group_okR N m⟩)) Try.func58 (c := bodyOf Try.f58) (by kernel_rfl) (by kernel_rfl) (of_decide_eq_true (by kernel_rfl)) ((F_clus_Group_eq N m x).trans hr) (R_clus_Group_eq x r)⟩
theorem con_clus_Group_ok (N : Nat) : Con.ok P0 (con_clus_Group N) := con_clus_Group_okR N N
noncomputable def u_hier_rise : Uf := ⟨39, 28, Try.f39, [.val (.agg (.pair (.int .i64) (.pair (.list (.list (.int .i64))) (.list (.list (.agg (.pair (.list (.int .i64)) (.int .i64)))))))), .val (.list (.agg (.pair (.list (.int .i64)) (.int .i64))))], [],
⟨[(4, .val (.list (.list (.agg (.pair (.list (.int .i64)) (.int .i64))))))], []⟩, [],
[(5, .loop [] ⟨[(2, .ptr 600002 0), (5, .acc 700011), (6, .val (.list (.agg (.pair (.list (.int .i64)) (.int .i64)))))], [(600002, .box 38 (.val (.pair (.int .i64) (.pair (.list (.list (.int .i64))) (.list (.list (.agg (.pair (.list (.int .i64)) (.int .i64))))))))), (700011, .nrow 43 (.list (.agg (.pair (.list (.int .i64)) (.int .i64)))) true true)]⟩ [(.exit 0, ⟨[(5, .val (.list (.list (.agg (.pair (.list (.int .i64)) (.int .i64))))))], []⟩)])],
[(6, .cut [] [(.normal, ⟨[(2, .ptr 600002 0), (5, .acc 700011), (6, .val (.list (.agg (.pair (.list (.int .i64)) (.int .i64)))))], [(600002, .box 38 (.val (.pair (.int .i64) (.pair (.list (.list (.int .i64))) (.list (.list (.agg (.pair (.list (.int .i64)) (.int .i64))))))))), (700011, .nrow 43 (.list (.agg (.pair (.list (.int .i64)) (.int .i64)))) true true)]⟩)])], fun y => (valW (.list (.list (.agg (.pair (.list (.int .i64)) (.int .i64))))) y, [], [])⟩
noncomputable def V_hier_rise (w_hier_leaders : List ((List Int) × Int) → Option (List Int)) (w_clus_Group : (List (List Int)) × (List Int) × Int → Option (List ((List Int) × Int))) (N : Nat) (x : (Int × (List (List Int)) × List (List ((List Int) × Int))) × List ((List Int) × Int)) : Option (List (List ((List Int) × Int))) :=
  cnd (decide ((↑(List.length x.2) : Int) = (0:Int))) (some []) (obind (loopN N (fun (v : List (List Int × Int) × (Int × List (List Int) × List (List
    (List Int × Int))) × List (List (List Int × Int))) => cnd (decide ((1:Int) < (↑(List.length v.1) : Int))) (obind (obind (w_hier_leaders v.1) fun b
    => obind (w_clus_Group (v.2.1.2.1, b, v.2.1.1)) fun b => some (b, v.2)) fun (b : List (List Int × Int) × (Int × List (List Int) × List (List (List
    Int × Int))) × List (List (List Int × Int))) => cnd (decide ((List.length b.2.2 + List.length [b.1]) * (24:Nat) ≤ (140737488355328:Nat))) (some
    (Sum.inl (b.1, b.2.1, b.2.2 ++ [b.1]))) none) (some (Sum.inr v.2.2))) (x.2, x.1, [x.2])) fun (b : List (List (List Int × Int))) => some b)
theorem q_hier_rise : ∀ w_hier_leaders w_clus_Group N x, u_hier_rise.F L0 P0 (orcOf [u_hier_leaders.con w_hier_leaders, conw_clus_Group w_clus_Group]) N x = V_hier_rise w_hier_leaders w_clus_Group N x := by intros; kernel_rfl
noncomputable def W_hier_rise (N : Nat) := V_hier_rise (W_hier_leaders N) (W_clus_Group N) N
theorem con_hier_rise_ok (N : Nat) : (u_hier_rise.con (W_hier_rise N)).ok P0 := Uf.ok mixed (q_hier_rise (W_hier_leaders N) (W_clus_Group N) N) ⟨con_hier_leaders_ok N, con_clus_Group_ok N, trivial⟩ Try.func39 (by kernel_rfl) fun x y => by kernel_rfl
noncomputable def u_slices_Equal_int : Uf := ⟨62, 26, Try.f62, [.val (.list (.int .i64)), .val (.list (.int .i64))], [],
⟨[(4, .val .bool)], []⟩, [],
[(4, .loop [] ⟨[(13, .val (.int .i64))], []⟩ [(.exit 0, ⟨[], []⟩), (.ret, ⟨[(4, .val .bool)], []⟩)])],
[], fun y => (valW .bool y, [], [])⟩
noncomputable def V_slices_Equal_int (N : Nat) (x : (List Int) × List Int) : Option (Bool) :=
  cnd (decide ((↑(List.length x.1) : Int) ≠ (↑(List.length x.2) : Int))) (some false) (obind (loopN N (fun (v : Int) => cnd (decide (v < (↑(List.length
    x.1) : Int))) (cnd (decide ((0:Int) ≤ v) && decide (v < (↑(List.length x.1) : Int))) (cnd (decide ((0:Int) ≤ v) && decide (v < (↑(List.length x.2) :
    Int))) (cnd (decide (List.getD x.1 (Int.toNat v) (0:Int) ≠ List.getD x.2 (Int.toNat v) (0:Int))) (some (Sum.inr (Sum.inr false))) (some (Sum.inl (wr
    .i64 (v + (1:Int)))))) none) none) (some (Sum.inr (Sum.inl ())))) (Int.ofNat (0:Nat))) fun (b : PUnit ⊕ Bool) => selim (fun (b : PUnit) => some
    true) (fun (c : Bool) => some c) b)
theorem q_slices_Equal_int : ∀ N x, u_slices_Equal_int.F L0 P0 (orcOf []) N x = V_slices_Equal_int N x := by intros; kernel_rfl
noncomputable def W_slices_Equal_int (N : Nat) := V_slices_Equal_int N
theorem con_slices_Equal_int_ok (N : Nat) : (u_slices_Equal_int.con (W_slices_Equal_int N)).ok P0 := Uf.ok mixed (q_slices_Equal_int N) trivial Try.func62 (by kernel_rfl) fun x y => by kernel_rfl
noncomputable def u_hier_likeLevel_1 : Uf := ⟨61, 17, Try.f61, [.val (.agg (.pair (.list (.int .i64)) (.int .i64))), .val (.agg (.pair (.list (.int .i64)) (.int .i64)))], [],
⟨[(4, .val .bool)], []⟩, [],
[],
[], fun y => (valW .bool y, [], [])⟩
noncomputable def V_hier_likeLevel_1 (w_slices_Equal_int : (List Int) × List Int → Option (Bool)) (N : Nat) (x : ((List Int) × Int) × (List Int) × Int) : Option (Bool) :=
  cnd (decide (x.1.2 = x.2.2)) (obind (w_slices_Equal_int (x.1.1, x.2.1)) fun b => some b) (some false)
theorem q_hier_likeLevel_1 : ∀ w_slices_Equal_int N x, u_hier_likeLevel_1.F L0 P0 (orcOf [u_slices_Equal_int.con w_slices_Equal_int]) N x = V_hier_likeLevel_1 w_slices_Equal_int N x := by intros; kernel_rfl
noncomputable def W_hier_likeLevel_1 (N : Nat) := V_hier_likeLevel_1 (W_slices_Equal_int N) N
theorem con_hier_likeLevel_1_ok (N : Nat) : (u_hier_likeLevel_1.con (W_hier_likeLevel_1 N)).ok P0 := Uf.ok mixed (q_hier_likeLevel_1 (W_slices_Equal_int N) N) ⟨con_slices_Equal_int_ok N, trivial⟩ Try.func61 (by kernel_rfl) fun x y => by kernel_rfl
noncomputable def u_slices_EqualFunc_api_Cluster__hier_likeLevel_1 : Uf := ⟨60, 32, Try.f60, [.val (.list (.agg (.pair (.list (.int .i64)) (.int .i64)))), .val (.list (.agg (.pair (.list (.int .i64)) (.int .i64)))), .fn 61 []], [],
⟨[(2, .fn 61 []), (6, .val .bool)], []⟩, [],
[(4, .loop [15] ⟨[(17, .val (.int .i64))], []⟩ [(.exit 0, ⟨[], []⟩), (.ret, ⟨[(6, .val .bool)], []⟩)])],
[], fun y => (valW .bool y, [], [])⟩
noncomputable def V_slices_EqualFunc_api_Cluster__hier_likeLevel_1 (w_hier_likeLevel_1 : ((List Int) × Int) × (List Int) × Int → Option (Bool)) (N : Nat) (x : (List ((List Int) × Int)) × List ((List Int) × Int)) : Option (Bool) :=
  cnd (decide ((↑(List.length x.1) : Int) ≠ (↑(List.length x.2) : Int))) (some false) (obind (loopN N (fun (v : Int) => cnd (decide (v < (↑(List.length
    x.1) : Int))) (cnd (decide ((0:Int) ≤ v) && decide (v < (↑(List.length x.1) : Int))) (cnd (decide ((0:Int) ≤ v) && decide (v < (↑(List.length x.2) :
    Int))) (obind (w_hier_likeLevel_1 ((Prod.fst (List.getD x.1 (Int.toNat v) ([], (0:Int))), Prod.snd (List.getD x.1 (Int.toNat v) ([], (0:Int)))),
    Prod.fst (List.getD x.2 (Int.toNat v) ([], (0:Int))), Prod.snd (List.getD x.2 (Int.toNat v) ([], (0:Int))))) fun b => cnd (!b) (some (Sum.inr
    (Sum.inr false))) (some (Sum.inl (wr .i64 (v + (1:Int)))))) none) none) (some (Sum.inr (Sum.inl ())))) (Int.ofNat (0:Nat))) fun (b : PUnit ⊕ Bool)
    => selim (fun (b : PUnit) => some true) (fun (c : Bool) => some c) b)
theorem q_slices_EqualFunc_api_Cluster__hier_likeLevel_1 : ∀ w_hier_likeLevel_1 N x, u_slices_EqualFunc_api_Cluster__hier_likeLevel_1.F L0 P0 (orcOf [u_hier_likeLevel_1.con w_hier_likeLevel_1]) N x = V_slices_EqualFunc_api_Cluster__hier_likeLevel_1 w_hier_likeLevel_1 N x := by intros; kernel_rfl
noncomputable def W_slices_EqualFunc_api_Cluster__hier_likeLevel_1 (N : Nat) := V_slices_EqualFunc_api_Cluster__hier_likeLevel_1 (W_hier_likeLevel_1 N) N
theorem con_slices_EqualFunc_api_Cluster__hier_likeLevel_1_ok (N : Nat) : (u_slices_EqualFunc_api_Cluster__hier_likeLevel_1.con (W_slices_EqualFunc_api_Cluster__hier_likeLevel_1 N)).ok P0 := Uf.ok mixed (q_slices_EqualFunc_api_Cluster__hier_likeLevel_1 (W_hier_likeLevel_1 N) N) ⟨con_hier_likeLevel_1_ok N, trivial⟩ Try.func60 (by kernel_rfl) fun x y => by kernel_rfl
noncomputable def u_hier_likeLevel : Uf := ⟨41, 8, Try.f41, [.val (.list (.agg (.pair (.list (.int .i64)) (.int .i64)))), .val (.list (.agg (.pair (.list (.int .i64)) (.int .i64))))], [],
⟨[(4, .val .bool)], []⟩, [],
[],
[], fun y => (valW .bool y, [], [])⟩
noncomputable def V_hier_likeLevel (w_slices_EqualFunc_api_Cluster__hier_likeLevel_1 : (List ((List Int) × Int)) × List ((List Int) × Int) → Option (Bool)) (N : Nat) (x : (List ((List Int) × Int)) × List ((List Int) × Int)) : Option (Bool) :=
  obind (w_slices_EqualFunc_api_Cluster__hier_likeLevel_1 x) fun b => some b
theorem q_hier_likeLevel : ∀ w_slices_EqualFunc_api_Cluster__hier_likeLevel_1 N x, u_hier_likeLevel.F L0 P0 (orcOf [u_slices_EqualFunc_api_Cluster__hier_likeLevel_1.con w_slices_EqualFunc_api_Cluster__hier_likeLevel_1]) N x = V_hier_likeLevel w_slices_EqualFunc_api_Cluster__hier_likeLevel_1 N x := by intros; kernel_rfl
noncomputable def W_hier_likeLevel (N : Nat) := V_hier_likeLevel (W_slices_EqualFunc_api_Cluster__hier_likeLevel_1 N) N
theorem con_hier_likeLevel_ok (N : Nat) : (u_hier_likeLevel.con (W_hier_likeLevel N)).ok P0 := Uf.ok mixed (q_hier_likeLevel (W_slices_EqualFunc_api_Cluster__hier_likeLevel_1 N) N) ⟨con_slices_EqualFunc_api_Cluster__hier_likeLevel_1_ok N, trivial⟩ Try.func41 (by kernel_rfl) fun x y => by kernel_rfl
noncomputable def u_slices_EqualFunc_Lapi_Cluster__hier_likeLevel : Uf := ⟨38, 32, Try.f38, [.val (.list (.list (.agg (.pair (.list (.int .i64)) (.int .i64))))), .val (.list (.list (.agg (.pair (.list (.int .i64)) (.int .i64))))), .fn 41 []], [],
⟨[(2, .fn 41 []), (6, .val .bool)], []⟩, [],
[(4, .loop [15] ⟨[(17, .val (.int .i64))], []⟩ [(.exit 0, ⟨[], []⟩), (.ret, ⟨[(6, .val .bool)], []⟩)])],
[], fun y => (valW .bool y, [], [])⟩
noncomputable def V_slices_EqualFunc_Lapi_Cluster__hier_likeLevel (w_hier_likeLevel : (List ((List Int) × Int)) × List ((List Int) × Int) → Option (Bool)) (N : Nat) (x : (List (List ((List Int) × Int))) × List (List ((List Int) × Int))) : Option (Bool) :=
  cnd (decide ((↑(List.length x.1) : Int) ≠ (↑(List.length x.2) : Int))) (some false) (obind (loopN N (fun (v : Int) => cnd (decide (v < (↑(List.length
    x.1) : Int))) (cnd (decide ((0:Int) ≤ v) && decide (v < (↑(List.length x.1) : Int))) (cnd (decide ((0:Int) ≤ v) && decide (v < (↑(List.length x.2) :
    Int))) (obind (w_hier_likeLevel (List.getD x.1 (Int.toNat v) [], List.getD x.2 (Int.toNat v) [])) fun b => cnd (!b) (some (Sum.inr (Sum.inr
    false))) (some (Sum.inl (wr .i64 (v + (1:Int)))))) none) none) (some (Sum.inr (Sum.inl ())))) (Int.ofNat (0:Nat))) fun (b : PUnit ⊕ Bool) => selim
    (fun (b : PUnit) => some true) (fun (c : Bool) => some c) b)
theorem q_slices_EqualFunc_Lapi_Cluster__hier_likeLevel : ∀ w_hier_likeLevel N x, u_slices_EqualFunc_Lapi_Cluster__hier_likeLevel.F L0 P0 (orcOf [u_hier_likeLevel.con w_hier_likeLevel]) N x = V_slices_EqualFunc_Lapi_Cluster__hier_likeLevel w_hier_likeLevel N x := by intros; kernel_rfl
noncomputable def W_slices_EqualFunc_Lapi_Cluster__hier_likeLevel (N : Nat) := V_slices_EqualFunc_Lapi_Cluster__hier_likeLevel (W_hier_likeLevel N) N
theorem con_slices_EqualFunc_Lapi_Cluster__hier_likeLevel_ok (N : Nat) : (u_slices_EqualFunc_Lapi_Cluster__hier_likeLevel.con (W_slices_EqualFunc_Lapi_Cluster__hier_likeLevel N)).ok P0 := Uf.ok mixed (q_slices_EqualFunc_Lapi_Cluster__hier_likeLevel (W_hier_likeLevel N) N) ⟨con_hier_likeLevel_ok N, trivial⟩ Try.func38 (by kernel_rfl) fun x y => by kernel_rfl
noncomputable def u_hier_May : Uf := ⟨19, 18, Try.f19, [.val (.agg (.pair (.int .i64) (.pair (.list (.list (.int .i64))) (.list (.list (.agg (.pair (.list (.int .i64)) (.int .i64))))))))], [],
⟨[(2, .val .bool)], []⟩, [],
[],
[], fun y => (valW .bool y, [], [])⟩
noncomputable def V_hier_May (w_hier_begins : Int × (List (List Int)) × List (List ((List Int) × Int)) → Option (Bool)) (w_hier_grounded : Int × (List (List Int)) × List (List ((List Int) × Int)) → Option (Bool)) (w_hier_ground : Int × (List (List Int)) × List (List ((List Int) × Int)) → Option (List ((List Int) × Int))) (w_hier_rise : (Int × (List (List Int)) × List (List ((List Int) × Int))) × List ((List Int) × Int) → Option (List (List ((List Int) × Int)))) (w_slices_EqualFunc_Lapi_Cluster__hier_likeLevel : (List (List ((List Int) × Int))) × List (List ((List Int) × Int)) → Option (Bool)) (N : Nat) (x : Int × (List (List Int)) × List (List ((List Int) × Int))) : Option (Bool) :=
  obind (w_hier_begins x) fun b => cnd b (obind (w_hier_grounded x) fun b => cnd b (obind (w_hier_ground x) fun b => obind (w_hier_rise (x, b)) fun b => obind (w_slices_EqualFunc_Lapi_Cluster__hier_likeLevel (x.2.2, b)) fun b => some b) (some false)) (some false)
theorem q_hier_May : ∀ w_hier_begins w_hier_grounded w_hier_ground w_hier_rise w_slices_EqualFunc_Lapi_Cluster__hier_likeLevel N x, u_hier_May.F L0 P0 (orcOf [u_hier_begins.con w_hier_begins, u_hier_grounded.con w_hier_grounded, u_hier_ground.con w_hier_ground, u_hier_rise.con w_hier_rise, u_slices_EqualFunc_Lapi_Cluster__hier_likeLevel.con w_slices_EqualFunc_Lapi_Cluster__hier_likeLevel]) N x = V_hier_May w_hier_begins w_hier_grounded w_hier_ground w_hier_rise w_slices_EqualFunc_Lapi_Cluster__hier_likeLevel N x := by intros; kernel_rfl
noncomputable def W_hier_May (N : Nat) := V_hier_May (W_hier_begins N) (W_hier_grounded N) (W_hier_ground N) (W_hier_rise N) (W_slices_EqualFunc_Lapi_Cluster__hier_likeLevel N) N
theorem con_hier_May_ok (N : Nat) : (u_hier_May.con (W_hier_May N)).ok P0 := Uf.ok mixed (q_hier_May (W_hier_begins N) (W_hier_grounded N) (W_hier_ground N) (W_hier_rise N) (W_slices_EqualFunc_Lapi_Cluster__hier_likeLevel N) N) ⟨con_hier_begins_ok N, con_hier_grounded_ok N, con_hier_ground_ok N, con_hier_rise_ok N, con_slices_EqualFunc_Lapi_Cluster__hier_likeLevel_ok N, trivial⟩ Try.func19 (by kernel_rfl) fun x y => by kernel_rfl
noncomputable def u_slices_Index_int : Uf := ⟨89, 19, Try.f89, [.val (.list (.int .i64)), .val (.int .i64)], [],
⟨[(4, .val (.int .i64))], []⟩, [],
[(2, .loop [] ⟨[(8, .val (.int .i64))], []⟩ [(.exit 0, ⟨[], []⟩), (.ret, ⟨[(4, .val (.int .i64))], []⟩)])],
[], fun y => (valW (.int .i64) y, [], [])⟩
noncomputable def V_slices_Index_int (N : Nat) (x : (List Int) × Int) : Option (Int) :=
  obind (loopN N (fun (v : Int) => cnd (decide (v < (↑(List.length x.1) : Int))) (cnd (decide ((0:Int) ≤ v) && decide (v < (↑(List.length x.1) : Int)))
    (cnd (decide (x.2 = List.getD x.1 (Int.toNat v) (0:Int))) (some (Sum.inr (Sum.inr v))) (some (Sum.inl (wr .i64 (v + (1:Int)))))) none) (some
    (Sum.inr (Sum.inl ())))) (Int.ofNat (0:Nat))) fun (b : PUnit ⊕ Int) => selim (fun (b : PUnit) => some (-1 : Int)) (fun (c : Int) => some c) b
theorem q_slices_Index_int : ∀ N x, u_slices_Index_int.F L0 P0 (orcOf []) N x = V_slices_Index_int N x := by intros; kernel_rfl
noncomputable def W_slices_Index_int (N : Nat) := V_slices_Index_int N
theorem con_slices_Index_int_ok (N : Nat) : (u_slices_Index_int.con (W_slices_Index_int N)).ok P0 := Uf.ok mixed (q_slices_Index_int N) trivial Try.func89 (by kernel_rfl) fun x y => by kernel_rfl
noncomputable def u_slices_Contains_int : Uf := ⟨77, 9, Try.f77, [.val (.list (.int .i64)), .val (.int .i64)], [],
⟨[(4, .val .bool)], []⟩, [],
[],
[], fun y => (valW .bool y, [], [])⟩
noncomputable def V_slices_Contains_int (w_slices_Index_int : (List Int) × Int → Option (Int)) (N : Nat) (x : (List Int) × Int) : Option (Bool) :=
  obind (w_slices_Index_int x) fun b => some (decide ((0:Int) ≤ b))
theorem q_slices_Contains_int : ∀ w_slices_Index_int N x, u_slices_Contains_int.F L0 P0 (orcOf [u_slices_Index_int.con w_slices_Index_int]) N x = V_slices_Contains_int w_slices_Index_int N x := by intros; kernel_rfl
noncomputable def W_slices_Contains_int (N : Nat) := V_slices_Contains_int (W_slices_Index_int N) N
theorem con_slices_Contains_int_ok (N : Nat) : (u_slices_Contains_int.con (W_slices_Contains_int N)).ok P0 := Uf.ok mixed (q_slices_Contains_int (W_slices_Index_int N) N) ⟨con_slices_Index_int_ok N, trivial⟩ Try.func77 (by kernel_rfl) fun x y => by kernel_rfl
noncomputable def u_hier_find : Uf := ⟨49, 25, Try.f49, [.val (.list (.agg (.pair (.list (.int .i64)) (.int .i64)))), .val (.int .i64)], [],
⟨[(4, .val (.alt 72 (.agg (.pair (.int .i64) (.agg (.pair (.list (.int .i64)) (.int .i64))))) (.alt1 93 (.agg .unit))))], []⟩, [],
[(2, .loop [7] ⟨[(9, .val (.int .i64))], []⟩ [(.exit 0, ⟨[], []⟩), (.ret, ⟨[(4, .val (.alt 72 (.agg (.pair (.int .i64) (.agg (.pair (.list (.int .i64)) (.int .i64))))) (.alt1 93 (.agg .unit))))], []⟩)])],
[], fun y => (valW (.alt 72 (.agg (.pair (.int .i64) (.agg (.pair (.list (.int .i64)) (.int .i64))))) (.alt1 93 (.agg .unit))) y, [], [])⟩
noncomputable def V_hier_find (w_slices_Contains_int : (List Int) × Int → Option (Bool)) (N : Nat) (x : (List ((List Int) × Int)) × Int) : Option ((Int × (List Int) × Int) ⊕ Unit) :=
  obind (loopN N (fun (v : Int) => cnd (decide (v < (↑(List.length x.1) : Int))) (cnd (decide ((0:Int) ≤ v) && decide (v < (↑(List.length x.1) : Int)))
    (obind (w_slices_Contains_int (Prod.fst (List.getD x.1 (Int.toNat v) ([], (0:Int))), x.2)) fun b => cnd b (some (Sum.inr (Sum.inr (Sum.inl (v,
    Prod.fst (List.getD x.1 (Int.toNat v) ([], (0:Int))), Prod.snd (List.getD x.1 (Int.toNat v) ([], (0:Int)))))))) (some (Sum.inl (wr .i64 (v +
    (1:Int)))))) none) (some (Sum.inr (Sum.inl ())))) (Int.ofNat (0:Nat))) fun (b : PUnit ⊕ Int × List Int × Int ⊕ PUnit) => selim (fun (b : PUnit) =>
    some (Sum.inr ())) (fun (c : Int × List Int × Int ⊕ PUnit) => some c) b
theorem q_hier_find : ∀ w_slices_Contains_int N x, u_hier_find.F L0 P0 (orcOf [u_slices_Contains_int.con w_slices_Contains_int]) N x = V_hier_find w_slices_Contains_int N x := by intros; kernel_rfl
noncomputable def W_hier_find (N : Nat) := V_hier_find (W_slices_Contains_int N) N
theorem con_hier_find_ok (N : Nat) : (u_hier_find.con (W_hier_find N)).ok P0 := Uf.ok mixed (q_hier_find (W_slices_Contains_int N) N) ⟨con_slices_Contains_int_ok N, trivial⟩ Try.func49 (by kernel_rfl) fun x y => by kernel_rfl
noncomputable def u_hier_down : Uf := ⟨47, 46, Try.f47, [.val (.agg (.pair (.int .i64) (.pair (.list (.list (.int .i64))) (.list (.list (.agg (.pair (.list (.int .i64)) (.int .i64)))))))), .val (.int .i64)], [],
⟨[(4, .val (.int .i64))], []⟩, [],
[(3, .loop [] ⟨[(2, .ptr 600002 0), (5, .val (.int .i64)), (6, .val (.int .i64))], [(600002, .box 38 (.val (.pair (.int .i64) (.pair (.list (.list (.int .i64))) (.list (.list (.agg (.pair (.list (.int .i64)) (.int .i64)))))))))]⟩ [(.exit 0, ⟨[(5, .val (.int .i64))], []⟩)])],
[], fun y => (valW (.int .i64) y, [], [])⟩
noncomputable def V_hier_down (w_mid_Near : (List (List Int)) × Int × List Int → Option (Int)) (w_hier_find : (List ((List Int) × Int)) × Int → Option ((Int × (List Int) × Int) ⊕ Unit)) (N : Nat) (x : (Int × (List (List Int)) × List (List ((List Int) × Int))) × Int) : Option (Int) :=
  obind (loopN N (fun (v : Int × Int × Int × List (List Int) × List (List (List Int × Int))) => cnd (decide ((0:Int) < v.2.1)) (cnd (decide ((0:Int) ≤
    v.2.1) && decide (v.2.1 < (↑(List.length v.2.2.2.2) : Int))) (cnd (decide ((0:Int) ≤ v.1) && decide (v.1 < (↑(List.length (List.getD v.2.2.2.2
    (Int.toNat v.2.1) [])) : Int))) (obind (w_mid_Near (v.2.2.2.1, x.2, Prod.fst (List.getD (List.getD v.2.2.2.2 (Int.toNat v.2.1) []) (Int.toNat v.1)
    ([], (0:Int))))) fun b => cnd (decide ((0:Int) ≤ wr .i64 (v.2.1 - (1:Int))) && decide (wr .i64 (v.2.1 - (1:Int)) < (↑(List.length v.2.2.2.2) :
    Int))) (obind (w_hier_find (List.getD v.2.2.2.2 (Int.toNat (wr .i64 (v.2.1 - (1:Int)))) [], b)) fun b => selim (fun (b : Int × List Int × Int) =>
    some (Sum.inl (b.1, wr .i64 (v.2.1 - (1:Int)), v.2.2))) (fun (c : PUnit) => some (Sum.inl ((0:Int), wr .i64 (v.2.1 - (1:Int)), v.2.2))) b) none)
    none) none) (some (Sum.inr v.1))) ((0:Int), wr .i64 ((↑(List.length x.1.2.2) : Int) - (1:Int)), x.1)) fun (b : Int) => some b
theorem q_hier_down : ∀ w_mid_Near w_hier_find N x, u_hier_down.F L0 P0 (orcOf [u_mid_Near.con w_mid_Near, u_hier_find.con w_hier_find]) N x = V_hier_down w_mid_Near w_hier_find N x := by intros; kernel_rfl
noncomputable def W_hier_down (N : Nat) := V_hier_down (W_mid_Near N) (W_hier_find N) N
theorem con_hier_down_ok (N : Nat) : (u_hier_down.con (W_hier_down N)).ok P0 := Uf.ok mixed (q_hier_down (W_mid_Near N) (W_hier_find N) N) ⟨con_mid_Near_ok N, con_hier_find_ok N, trivial⟩ Try.func47 (by kernel_rfl) fun x y => by kernel_rfl
noncomputable def u_clus_find : Uf := ⟨70, 24, Try.f70, [.val (.list (.agg (.pair (.list (.int .i64)) (.int .i64)))), .val (.int .i64)], [],
⟨[(4, .val (.alt 87 (.agg (.int .i64)) (.alt1 102 (.agg .unit))))], []⟩, [],
[(2, .loop [7] ⟨[(9, .val (.int .i64))], []⟩ [(.exit 0, ⟨[], []⟩), (.ret, ⟨[(4, .val (.alt 87 (.agg (.int .i64)) (.alt1 102 (.agg .unit))))], []⟩)])],
[], fun y => (valW (.alt 87 (.agg (.int .i64)) (.alt1 102 (.agg .unit))) y, [], [])⟩
noncomputable def V_clus_find (w_slices_Contains_int : (List Int) × Int → Option (Bool)) (N : Nat) (x : (List ((List Int) × Int)) × Int) : Option (Int ⊕ Unit) :=
  obind (loopN N (fun (v : Int) => cnd (decide (v < (↑(List.length x.1) : Int))) (cnd (decide ((0:Int) ≤ v) && decide (v < (↑(List.length x.1) : Int)))
    (obind (w_slices_Contains_int (Prod.fst (List.getD x.1 (Int.toNat v) ([], (0:Int))), x.2)) fun b => cnd b (some (Sum.inr (Sum.inr (Sum.inl v))))
    (some (Sum.inl (wr .i64 (v + (1:Int)))))) none) (some (Sum.inr (Sum.inl ())))) (Int.ofNat (0:Nat))) fun (b : PUnit ⊕ Int ⊕ PUnit) => selim (fun (b :
    PUnit) => some (Sum.inr ())) (fun (c : Int ⊕ PUnit) => some c) b
theorem q_clus_find : ∀ w_slices_Contains_int N x, u_clus_find.F L0 P0 (orcOf [u_slices_Contains_int.con w_slices_Contains_int]) N x = V_clus_find w_slices_Contains_int N x := by intros; kernel_rfl
noncomputable def W_clus_find (N : Nat) := V_clus_find (W_slices_Contains_int N) N
theorem con_clus_find_ok (N : Nat) : (u_clus_find.con (W_clus_find N)).ok P0 := Uf.ok mixed (q_clus_find (W_slices_Contains_int N) N) ⟨con_slices_Contains_int_ok N, trivial⟩ Try.func70 (by kernel_rfl) fun x y => by kernel_rfl
noncomputable def u_clus_replace : Uf := ⟨71, 40, Try.f71, [.val (.list (.list (.int .i64))), .val (.list (.agg (.pair (.list (.int .i64)) (.int .i64)))), .val (.int .i64), .val (.int .i64), .val (.list (.agg (.pair (.list (.int .i64)) (.int .i64))))], [],
⟨[(10, .val (.list (.agg (.pair (.list (.int .i64)) (.int .i64)))))], []⟩, [],
[(3, .loop [14] ⟨[(11, .acc 700011), (16, .val (.int .i64))], [(700011, .nrow 45 (.agg (.pair (.list (.int .i64)) (.int .i64))) true true)]⟩ [(.exit 0, ⟨[(11, .val (.list (.agg (.pair (.list (.int .i64)) (.int .i64)))))], []⟩)])],
[], fun y => (valW (.list (.agg (.pair (.list (.int .i64)) (.int .i64)))) y, [], [])⟩
noncomputable def V_clus_replace (w_clus_Of : (List (List Int)) × List Int → Option ((List Int) × Int)) (N : Nat) (x : (List (List Int)) × (List ((List Int) × Int)) × Int × Int × List ((List Int) × Int)) : Option (List ((List Int) × Int)) :=
  obind (loopN N (fun (v : Int × List (List Int × Int)) => cnd (decide (v.1 < (↑(List.length x.2.1) : Int))) (cnd (decide ((0:Int) ≤ v.1) && decide (v.1
    < (↑(List.length x.2.1) : Int))) (cnd (decide (v.1 = x.2.2.1)) (cnd (decide ((List.length v.2 + List.length x.2.2.2.2) * (32:Nat) ≤
    (140737488355328:Nat))) (some (Sum.inl (wr .i64 (v.1 + (1:Int)), v.2 ++ x.2.2.2.2))) none) (cnd (decide (v.1 = x.2.2.2.1)) (some (Sum.inl (wr .i64
    (v.1 + (1:Int)), v.2))) (obind (w_clus_Of (x.1, Prod.fst (List.getD x.2.1 (Int.toNat v.1) ([], (0:Int))))) fun b => cnd (decide ((List.length v.2
    + List.length [b]) * (32:Nat) ≤ (140737488355328:Nat))) (some (Sum.inl (wr .i64 (v.1 + (1:Int)), v.2 ++ [b]))) none))) none) (some (Sum.inr v.2)))
    ((0:Int), [])) fun (b : List (List Int × Int)) => some b
theorem q_clus_replace : ∀ w_clus_Of N x, u_clus_replace.F L0 P0 (orcOf [u_clus_Of.con w_clus_Of]) N x = V_clus_replace w_clus_Of N x := by intros; kernel_rfl
noncomputable def W_clus_replace (N : Nat) := V_clus_replace (W_clus_Of N) N
theorem con_clus_replace_ok (N : Nat) : (u_clus_replace.con (W_clus_replace N)).ok P0 := Uf.ok mixed (q_clus_replace (W_clus_Of N) N) ⟨con_clus_Of_ok N, trivial⟩ Try.func71 (by kernel_rfl) fun x y => by kernel_rfl
noncomputable def u_clus_Join : Uf := ⟨46, 57, Try.f46, [.val (.list (.list (.int .i64))), .val (.list (.agg (.pair (.list (.int .i64)) (.int .i64)))), .val (.int .i64), .val (.int .i64), .val (.int .i64)], [],
⟨[(10, .val (.list (.agg (.pair (.list (.int .i64)) (.int .i64)))))], []⟩, [],
[],
[(1000004, .reg [(5, [], ⟨[(32, .val .bool)], []⟩)])], fun y => (valW (.list (.agg (.pair (.list (.int .i64)) (.int .i64)))) y, [], [])⟩
noncomputable def V_clus_Join (w_clus_Of : (List (List Int)) × List Int → Option ((List Int) × Int)) (w_clus_find : (List ((List Int) × Int)) × Int → Option (Int ⊕ Unit)) (w_twin_Clusters : List ((List Int) × Int) → Option (List ((List Int) × Int))) (w_clus_with : (List Int) × List Int → Option (List Int)) (w_clus_fitted : (List (List Int)) × (List Int) × Int → Option (List ((List Int) × Int))) (w_clus_replace : (List (List Int)) × (List ((List Int) × Int)) × Int × Int × List ((List Int) × Int) → Option (List ((List Int) × Int))) (N : Nat) (x : (List (List Int)) × (List ((List Int) × Int)) × Int × Int × Int) : Option (List ((List Int) × Int)) :=
  cnd (decide ((↑(List.length x.2.1) : Int) = (0:Int))) (obind (w_clus_Of (x.1, [x.2.2.2.1])) fun b => some [b]) (obind (w_clus_find (x.2.1,
    x.2.2.2.1)) fun b => selim (fun (b : Int) => obind (w_twin_Clusters x.2.1) fun b => some b) (fun (c : PUnit) => cnd (decide (x.2.2.1 < (0:Int)))
    (obind (w_twin_Clusters x.2.1) fun b => some b) (cnd (decide ((↑(List.length x.2.1) : Int) ≤ x.2.2.1)) (obind (w_twin_Clusters x.2.1) fun b =>
    some b) (cnd (decide ((0:Int) ≤ x.2.2.1) && decide (x.2.2.1 < (↑(List.length x.2.1) : Int))) (obind (w_clus_with (Prod.fst (List.getD x.2.1
    (Int.toNat x.2.2.1) ([], (0:Int))), [x.2.2.2.1])) fun b => obind (w_clus_fitted (x.1, b, x.2.2.2.2)) fun b => obind (w_clus_replace (x.1, x.2.1,
    x.2.2.1, x.2.2.1, b)) fun b => some b) none))) b)
theorem q_clus_Join : ∀ w_clus_Of w_clus_find w_twin_Clusters w_clus_with w_clus_fitted w_clus_replace N x, u_clus_Join.F L0 P0 (orcOf [u_clus_Of.con w_clus_Of, u_clus_find.con w_clus_find, u_twin_Clusters.con w_twin_Clusters, u_clus_with.con w_clus_with, u_clus_fitted.con w_clus_fitted, u_clus_replace.con w_clus_replace]) N x = V_clus_Join w_clus_Of w_clus_find w_twin_Clusters w_clus_with w_clus_fitted w_clus_replace N x := by intros; kernel_rfl
noncomputable def W_clus_Join (N : Nat) := V_clus_Join (W_clus_Of N) (W_clus_find N) (W_twin_Clusters N) (W_clus_with N) (W_clus_fitted N) (W_clus_replace N) N
theorem con_clus_Join_ok (N : Nat) : (u_clus_Join.con (W_clus_Join N)).ok P0 := Uf.ok mixed (q_clus_Join (W_clus_Of N) (W_clus_find N) (W_twin_Clusters N) (W_clus_with N) (W_clus_fitted N) (W_clus_replace N) N) ⟨con_clus_Of_ok N, con_clus_find_ok N, con_twin_Clusters_ok N, con_clus_with_ok N, con_clus_fitted_ok N, con_clus_replace_ok N, trivial⟩ Try.func46 (by kernel_rfl) fun x y => by kernel_rfl
noncomputable def u_hier_Join : Uf := ⟨29, 33, Try.f29, [.val (.agg (.pair (.int .i64) (.pair (.list (.list (.int .i64))) (.list (.list (.agg (.pair (.list (.int .i64)) (.int .i64)))))))), .val (.int .i64)], [],
⟨[(4, .ptr 600004 0)], [(600004, .box 38 (.val (.pair (.int .i64) (.pair (.list (.list (.int .i64))) (.list (.list (.agg (.pair (.list (.int .i64)) (.int .i64)))))))))]⟩, [],
[],
[(1000002, .reg [(6, [], ⟨[(2, .ptr 600002 0), (4, .ptr 600004 0), (5, .ptr 600005 0), (13, .val .bool)], [(600002, .box 38 (.val (.pair (.int .i64) (.pair (.list (.list (.int .i64))) (.list (.list (.agg (.pair (.list (.int .i64)) (.int .i64))))))))), (600004, .box 38 (.val (.pair (.int .i64) (.pair (.list (.list (.int .i64))) (.list (.list (.agg (.pair (.list (.int .i64)) (.int .i64))))))))), (600005, .box 38 (.val (.pair (.int .i64) (.pair (.list (.list (.int .i64))) (.list (.list (.agg (.pair (.list (.int .i64)) (.int .i64)))))))))]⟩)])], fun y => (valW (.agg (.pair (.int .i64) (.pair (.list (.list (.int .i64))) (.list (.list (.agg (.pair (.list (.int .i64)) (.int .i64)))))))) y, [], [])⟩
noncomputable def V_hier_Join (w_twin_Hier : Int × (List (List Int)) × List (List ((List Int) × Int)) → Option (Int × (List (List Int)) × List (List ((List Int) × Int)))) (w_hier_May : Int × (List (List Int)) × List (List ((List Int) × Int)) → Option (Bool)) (w_hier_ground : Int × (List (List Int)) × List (List ((List Int) × Int)) → Option (List ((List Int) × Int))) (w_hier_down : (Int × (List (List Int)) × List (List ((List Int) × Int))) × Int → Option (Int)) (w_clus_Join : (List (List Int)) × (List ((List Int) × Int)) × Int × Int × Int → Option (List ((List Int) × Int))) (w_hier_rise : (Int × (List (List Int)) × List (List ((List Int) × Int))) × List ((List Int) × Int) → Option (List (List ((List Int) × Int)))) (N : Nat) (x : (Int × (List (List Int)) × List (List ((List Int) × Int))) × Int) : Option (Int × (List (List Int)) × List (List ((List Int) × Int))) :=
  obind (w_twin_Hier x.1) fun b => obind (obind (w_hier_May x.1) fun b_1 => cnd b_1 (some (decide ((1:Int) ≤ x.2), x.1, ((0:Int), [], []), b)) (some
    (false, x.1, ((0:Int), [], []), b))) fun (b : Bool × (Int × List (List Int) × List (List (List Int × Int))) × (Int × List (List Int) × List (List
    (List Int × Int))) × Int × List (List Int) × List (List (List Int × Int))) => cnd b.1 (cnd (decide (x.2 ≤ (8:Int))) (obind (w_hier_ground b.2.1)
    fun b_1 => obind (w_hier_down (b.2.1, x.2)) fun b_2 => obind (w_clus_Join (b.2.1.2.1, b_1, b_2, x.2, b.2.1.1)) fun b_3 => obind (w_hier_rise
    (b.2.1, b_3)) fun b_4 => some (b.2.2.2.1, b.2.2.2.2.1, b_4)) (some b.2.2.2)) (some b.2.2.2)
theorem q_hier_Join : ∀ w_twin_Hier w_hier_May w_hier_ground w_hier_down w_clus_Join w_hier_rise N x, u_hier_Join.F L0 P0 (orcOf [u_twin_Hier.con w_twin_Hier, u_hier_May.con w_hier_May, u_hier_ground.con w_hier_ground, u_hier_down.con w_hier_down, u_clus_Join.con w_clus_Join, u_hier_rise.con w_hier_rise]) N x = V_hier_Join w_twin_Hier w_hier_May w_hier_ground w_hier_down w_clus_Join w_hier_rise N x := by intros; kernel_rfl
noncomputable def W_hier_Join (N : Nat) := V_hier_Join (W_twin_Hier N) (W_hier_May N) (W_hier_ground N) (W_hier_down N) (W_clus_Join N) (W_hier_rise N) N
theorem con_hier_Join_ok (N : Nat) : (u_hier_Join.con (W_hier_Join N)).ok P0 := Uf.ok mixed (q_hier_Join (W_twin_Hier N) (W_hier_May N) (W_hier_ground N) (W_hier_down N) (W_clus_Join N) (W_hier_rise N) N) ⟨con_twin_Hier_ok N, con_hier_May_ok N, con_hier_ground_ok N, con_hier_down_ok N, con_clus_Join_ok N, con_hier_rise_ok N, trivial⟩ Try.func29 (by kernel_rfl) fun x y => by kernel_rfl
noncomputable def u_clus_nearest : Uf := ⟨76, 57, Try.f76, [.val (.list (.list (.int .i64))), .val (.list (.agg (.pair (.list (.int .i64)) (.int .i64)))), .val (.int .i64), .val (.int .i64)], [],
⟨[(8, .val (.alt 87 (.agg (.int .i64)) (.alt1 102 (.agg .unit))))], []⟩, [],
[(3, .loop [15] ⟨[(9, .acc 700009), (17, .val (.int .i64))], [(700009, .nrow 3 (.int .i64) true true)]⟩ [(.exit 0, ⟨[(9, .val (.list (.int .i64)))], []⟩)]),
(10, .loop [35] ⟨[(37, .val (.int .i64))], []⟩ [(.exit 2, ⟨[], []⟩), (.ret, ⟨[(8, .val (.alt 87 (.agg (.int .i64)) (.alt1 102 (.agg .unit))))], []⟩)])],
[], fun y => (valW (.alt 87 (.agg (.int .i64)) (.alt1 102 (.agg .unit))) y, [], [])⟩
noncomputable def V_clus_nearest (w_mid_Near : (List (List Int)) × Int × List Int → Option (Int)) (N : Nat) (x : (List (List Int)) × (List ((List Int) × Int)) × Int × Int) : Option (Int ⊕ Unit) :=
  obind (loopN N (fun (v : Int × List Int) => cnd (decide (v.1 < (↑(List.length x.2.1) : Int))) (cnd (decide ((0:Int) ≤ v.1) && decide (v.1 <
    (↑(List.length x.2.1) : Int))) (cnd (decide (v.1 ≠ x.2.2.1)) (cnd (decide ((List.length v.2 + (1:Nat)) * (8:Nat) ≤ (140737488355328:Nat))) (some
    (Sum.inl (wr .i64 (v.1 + (1:Int)), v.2 ++ [Prod.snd (List.getD x.2.1 (Int.toNat v.1) ([], (0:Int)))]))) none) (some (Sum.inl (wr .i64 (v.1 +
    (1:Int)), v.2)))) none) (some (Sum.inr v.2))) ((0:Int), [])) fun (b : List Int) => obind (w_mid_Near (x.1, x.2.2.2, b)) fun b => obind (loopN N
    (fun (v : Int) => cnd (decide (v < (↑(List.length x.2.1) : Int))) (cnd (decide ((0:Int) ≤ v) && decide (v < (↑(List.length x.2.1) : Int))) (cnd
    (decide (v ≠ x.2.2.1)) (cnd (decide (Prod.snd (List.getD x.2.1 (Int.toNat v) ([], (0:Int))) = b)) (some (Sum.inr (Sum.inr (Sum.inl v)))) (some
    (Sum.inl (wr .i64 (v + (1:Int)))))) (some (Sum.inl (wr .i64 (v + (1:Int)))))) none) (some (Sum.inr (Sum.inl ())))) (Int.ofNat (0:Nat))) fun (b :
    PUnit ⊕ Int ⊕ PUnit) => selim (fun (b : PUnit) => some (Sum.inr ())) (fun (c : Int ⊕ PUnit) => some c) b
theorem q_clus_nearest : ∀ w_mid_Near N x, u_clus_nearest.F L0 P0 (orcOf [u_mid_Near.con w_mid_Near]) N x = V_clus_nearest w_mid_Near N x := by intros; kernel_rfl
noncomputable def W_clus_nearest (N : Nat) := V_clus_nearest (W_mid_Near N) N
theorem con_clus_nearest_ok (N : Nat) : (u_clus_nearest.con (W_clus_nearest N)).ok P0 := Uf.ok mixed (q_clus_nearest (W_mid_Near N) N) ⟨con_mid_Near_ok N, trivial⟩ Try.func76 (by kernel_rfl) fun x y => by kernel_rfl
noncomputable def u_clus_Leave : Uf := ⟨48, 91, Try.f48, [.val (.list (.list (.int .i64))), .val (.list (.agg (.pair (.list (.int .i64)) (.int .i64)))), .val (.int .i64), .val (.int .i64)], [],
⟨[(8, .val (.list (.agg (.pair (.list (.int .i64)) (.int .i64)))))], []⟩, [],
[],
[], fun y => (valW (.list (.agg (.pair (.list (.int .i64)) (.int .i64)))) y, [], [])⟩
noncomputable def V_clus_Leave (w_clus_find : (List ((List Int) × Int)) × Int → Option (Int ⊕ Unit)) (w_twin_Clusters : List ((List Int) × Int) → Option (List ((List Int) × Int))) (w_clus_without : (List Int) × Int → Option (List Int)) (w_clus_replace : (List (List Int)) × (List ((List Int) × Int)) × Int × Int × List ((List Int) × Int) → Option (List ((List Int) × Int))) (w_mid_Mid : (List (List Int)) × List Int → Option (Int)) (w_clus_nearest : (List (List Int)) × (List ((List Int) × Int)) × Int × Int → Option (Int ⊕ Unit)) (w_clus_Of : (List (List Int)) × List Int → Option ((List Int) × Int)) (w_clus_with : (List Int) × List Int → Option (List Int)) (w_clus_fitted : (List (List Int)) × (List Int) × Int → Option (List ((List Int) × Int))) (N : Nat) (x : (List (List Int)) × (List ((List Int) × Int)) × Int × Int) : Option (List ((List Int) × Int)) :=
  obind (w_clus_find (x.2.1, x.2.2.1)) fun b => selim (fun (b : Int) => cnd (decide ((0:Int) ≤ b) && decide (b < (↑(List.length x.2.1) : Int))) (obind
    (w_clus_without (Prod.fst (List.getD x.2.1 (Int.toNat b) ([], (0:Int))), x.2.2.1)) fun b_1 => cnd (decide ((↑(List.length b_1) : Int) = (0:Int)))
    (obind (w_clus_replace (x.1, x.2.1, b, b, [])) fun b => some b) (obind (w_mid_Mid (x.1, b_1)) fun b_2 => obind (w_clus_nearest (x.1, x.2.1, b,
    b_2)) fun b_3 => selim (fun (b_4 : Int) => cnd (decide (x.2.2.2 ≤ (↑(List.length b_1) : Int))) (obind (w_clus_Of (x.1, b_1)) fun b_5 => obind
    (w_clus_replace (x.1, x.2.1, b, b, [b_5])) fun b => some b) (cnd (decide ((0:Int) ≤ b_4) && decide (b_4 < (↑(List.length x.2.1) : Int))) (obind
    (w_clus_with (b_1, Prod.fst (List.getD x.2.1 (Int.toNat b_4) ([], (0:Int))))) fun b_5 => obind (w_clus_fitted (x.1, b_5, x.2.2.2)) fun b_6 =>
    obind (w_clus_replace (x.1, x.2.1, b, b_4, b_6)) fun b => some b) none)) (fun (c : PUnit) => cnd (decide (x.2.2.2 ≤ (↑(List.length b_1) : Int)))
    (obind (w_clus_Of (x.1, b_1)) fun b_4 => obind (w_clus_replace (x.1, x.2.1, b, b, [b_4])) fun b => some b) (obind (w_clus_Of (x.1, b_1)) fun
    b_4 => obind (w_clus_replace (x.1, x.2.1, b, b, [b_4])) fun b => some b)) b_3)) none) (fun (c : PUnit) => obind (w_twin_Clusters x.2.1) fun b =>
    some b) b
theorem q_clus_Leave : ∀ w_clus_find w_twin_Clusters w_clus_without w_clus_replace w_mid_Mid w_clus_nearest w_clus_Of w_clus_with w_clus_fitted N x, u_clus_Leave.F L0 P0 (orcOf [u_clus_find.con w_clus_find, u_twin_Clusters.con w_twin_Clusters, u_clus_without.con w_clus_without, u_clus_replace.con w_clus_replace, u_mid_Mid.con w_mid_Mid, u_clus_nearest.con w_clus_nearest, u_clus_Of.con w_clus_Of, u_clus_with.con w_clus_with, u_clus_fitted.con w_clus_fitted]) N x = V_clus_Leave w_clus_find w_twin_Clusters w_clus_without w_clus_replace w_mid_Mid w_clus_nearest w_clus_Of w_clus_with w_clus_fitted N x := by intros; kernel_rfl
noncomputable def W_clus_Leave (N : Nat) := V_clus_Leave (W_clus_find N) (W_twin_Clusters N) (W_clus_without N) (W_clus_replace N) (W_mid_Mid N) (W_clus_nearest N) (W_clus_Of N) (W_clus_with N) (W_clus_fitted N) N
theorem con_clus_Leave_ok (N : Nat) : (u_clus_Leave.con (W_clus_Leave N)).ok P0 := Uf.ok mixed (q_clus_Leave (W_clus_find N) (W_twin_Clusters N) (W_clus_without N) (W_clus_replace N) (W_mid_Mid N) (W_clus_nearest N) (W_clus_Of N) (W_clus_with N) (W_clus_fitted N) N) ⟨con_clus_find_ok N, con_twin_Clusters_ok N, con_clus_without_ok N, con_clus_replace_ok N, con_mid_Mid_ok N, con_clus_nearest_ok N, con_clus_Of_ok N, con_clus_with_ok N, con_clus_fitted_ok N, trivial⟩ Try.func48 (by kernel_rfl) fun x y => by kernel_rfl
noncomputable def u_hier_Leave : Uf := ⟨30, 22, Try.f30, [.val (.agg (.pair (.int .i64) (.pair (.list (.list (.int .i64))) (.list (.list (.agg (.pair (.list (.int .i64)) (.int .i64)))))))), .val (.int .i64)], [],
⟨[(4, .ptr 600004 0)], [(600004, .box 38 (.val (.pair (.int .i64) (.pair (.list (.list (.int .i64))) (.list (.list (.agg (.pair (.list (.int .i64)) (.int .i64)))))))))]⟩, [],
[],
[], fun y => (valW (.agg (.pair (.int .i64) (.pair (.list (.list (.int .i64))) (.list (.list (.agg (.pair (.list (.int .i64)) (.int .i64)))))))) y, [], [])⟩
noncomputable def V_hier_Leave (w_twin_Hier : Int × (List (List Int)) × List (List ((List Int) × Int)) → Option (Int × (List (List Int)) × List (List ((List Int) × Int)))) (w_hier_May : Int × (List (List Int)) × List (List ((List Int) × Int)) → Option (Bool)) (w_hier_ground : Int × (List (List Int)) × List (List ((List Int) × Int)) → Option (List ((List Int) × Int))) (w_clus_Leave : (List (List Int)) × (List ((List Int) × Int)) × Int × Int → Option (List ((List Int) × Int))) (w_hier_rise : (Int × (List (List Int)) × List (List ((List Int) × Int))) × List ((List Int) × Int) → Option (List (List ((List Int) × Int)))) (N : Nat) (x : (Int × (List (List Int)) × List (List ((List Int) × Int))) × Int) : Option (Int × (List (List Int)) × List (List ((List Int) × Int))) :=
  obind (w_twin_Hier x.1) fun b => obind (w_hier_May x.1) fun b_1 => cnd b_1 (obind (w_hier_ground x.1) fun b_2 => obind (w_clus_Leave (x.1.2.1, b_2, x.2, x.1.1)) fun b_3 => obind (w_hier_rise (x.1, b_3)) fun b_4 => some (b.1, b.2.1, b_4)) (some b)
theorem q_hier_Leave : ∀ w_twin_Hier w_hier_May w_hier_ground w_clus_Leave w_hier_rise N x, u_hier_Leave.F L0 P0 (orcOf [u_twin_Hier.con w_twin_Hier, u_hier_May.con w_hier_May, u_hier_ground.con w_hier_ground, u_clus_Leave.con w_clus_Leave, u_hier_rise.con w_hier_rise]) N x = V_hier_Leave w_twin_Hier w_hier_May w_hier_ground w_clus_Leave w_hier_rise N x := by intros; kernel_rfl
noncomputable def W_hier_Leave (N : Nat) := V_hier_Leave (W_twin_Hier N) (W_hier_May N) (W_hier_ground N) (W_clus_Leave N) (W_hier_rise N) N
theorem con_hier_Leave_ok (N : Nat) : (u_hier_Leave.con (W_hier_Leave N)).ok P0 := Uf.ok mixed (q_hier_Leave (W_twin_Hier N) (W_hier_May N) (W_hier_ground N) (W_clus_Leave N) (W_hier_rise N) N) ⟨con_twin_Hier_ok N, con_hier_May_ok N, con_hier_ground_ok N, con_clus_Leave_ok N, con_hier_rise_ok N, trivial⟩ Try.func30 (by kernel_rfl) fun x y => by kernel_rfl
noncomputable def u_hier_Ask : Uf := ⟨31, 34, Try.f31, [.val (.agg (.pair (.int .i64) (.pair (.list (.list (.int .i64))) (.list (.list (.agg (.pair (.list (.int .i64)) (.int .i64)))))))), .val (.int .i64)], [],
⟨[(4, .val (.int .i64))], []⟩, [],
[(2, .loop [10] ⟨[(12, .val (.int .i64))], []⟩ [(.exit 0, ⟨[], []⟩), (.ret, ⟨[(4, .val (.int .i64))], []⟩)])],
[], fun y => (valW (.int .i64) y, [], [])⟩
noncomputable def V_hier_Ask (w_hier_find : (List ((List Int) × Int)) × Int → Option ((Int × (List Int) × Int) ⊕ Unit)) (N : Nat) (x : (Int × (List (List Int)) × List (List ((List Int) × Int))) × Int) : Option (Int) :=
  obind (loopN N (fun (v : Int) => cnd (decide (v < (↑(List.length x.1.2.2) : Int))) (cnd (decide ((0:Int) ≤ v) && decide (v < (↑(List.length x.1.2.2) :
    Int))) (obind (w_hier_find (List.getD x.1.2.2 (Int.toNat v) [], x.2)) fun b => selim (fun (b : Int × List Int × Int) => cnd (decide (b.2.2 ≠ x.2))
    (some (Sum.inr (Sum.inr b.2.2))) (some (Sum.inl (wr .i64 (v + (1:Int)))))) (fun (c : PUnit) => some (Sum.inr (Sum.inr (0:Int)))) b) none) (some
    (Sum.inr (Sum.inl ())))) (Int.ofNat (0:Nat))) fun (b : PUnit ⊕ Int) => selim (fun (b : PUnit) => some (0:Int)) (fun (c : Int) => some c) b
theorem q_hier_Ask : ∀ w_hier_find N x, u_hier_Ask.F L0 P0 (orcOf [u_hier_find.con w_hier_find]) N x = V_hier_Ask w_hier_find N x := by intros; kernel_rfl
noncomputable def W_hier_Ask (N : Nat) := V_hier_Ask (W_hier_find N) N
theorem con_hier_Ask_ok (N : Nat) : (u_hier_Ask.con (W_hier_Ask N)).ok P0 := Uf.ok mixed (q_hier_Ask (W_hier_find N) N) ⟨con_hier_find_ok N, trivial⟩ Try.func31 (by kernel_rfl) fun x y => by kernel_rfl
noncomputable def u_law9_begun : Uf := ⟨16, 71, Try.f16, [], [],
⟨[(0, .val .bool)], []⟩, [],
[],
[(1000005, .reg [(5, [], ⟨[(5, .ptr 600005 0), (6, .ptr 600006 0), (26, .val .bool)], [(600005, .box 38 (.val (.pair (.int .i64) (.pair (.list (.list (.int .i64))) (.list (.list (.agg (.pair (.list (.int .i64)) (.int .i64))))))))), (600006, .box 38 (.val (.pair (.int .i64) (.pair (.list (.list (.int .i64))) (.list (.list (.agg (.pair (.list (.int .i64)) (.int .i64)))))))))]⟩), (6, [], ⟨[(5, .ptr 600005 0), (6, .ptr 600006 0), (32, .val .bool)], [(600005, .box 38 (.val (.pair (.int .i64) (.pair (.list (.list (.int .i64))) (.list (.list (.agg (.pair (.list (.int .i64)) (.int .i64))))))))), (600006, .box 38 (.val (.pair (.int .i64) (.pair (.list (.list (.int .i64))) (.list (.list (.agg (.pair (.list (.int .i64)) (.int .i64)))))))))]⟩), (8, [], ⟨[(5, .ptr 600005 0), (6, .ptr 600006 0), (40, .val .bool)], [(600005, .box 38 (.val (.pair (.int .i64) (.pair (.list (.list (.int .i64))) (.list (.list (.agg (.pair (.list (.int .i64)) (.int .i64))))))))), (600006, .box 38 (.val (.pair (.int .i64) (.pair (.list (.list (.int .i64))) (.list (.list (.agg (.pair (.list (.int .i64)) (.int .i64)))))))))]⟩), (5, [], ⟨[(5, .ptr 600005 0), (6, .ptr 600006 0), (45, .val .bool)], [(600005, .box 38 (.val (.pair (.int .i64) (.pair (.list (.list (.int .i64))) (.list (.list (.agg (.pair (.list (.int .i64)) (.int .i64))))))))), (600006, .box 38 (.val (.pair (.int .i64) (.pair (.list (.list (.int .i64))) (.list (.list (.agg (.pair (.list (.int .i64)) (.int .i64)))))))))]⟩), (5, [], ⟨[(5, .ptr 600005 0), (6, .ptr 600006 0), (50, .val .bool)], [(600005, .box 38 (.val (.pair (.int .i64) (.pair (.list (.list (.int .i64))) (.list (.list (.agg (.pair (.list (.int .i64)) (.int .i64))))))))), (600006, .box 38 (.val (.pair (.int .i64) (.pair (.list (.list (.int .i64))) (.list (.list (.agg (.pair (.list (.int .i64)) (.int .i64)))))))))]⟩), (6, [], ⟨[(5, .ptr 600005 0), (6, .ptr 600006 0), (56, .val .bool)], [(600005, .box 38 (.val (.pair (.int .i64) (.pair (.list (.list (.int .i64))) (.list (.list (.agg (.pair (.list (.int .i64)) (.int .i64))))))))), (600006, .box 38 (.val (.pair (.int .i64) (.pair (.list (.list (.int .i64))) (.list (.list (.agg (.pair (.list (.int .i64)) (.int .i64)))))))))]⟩), (5, [], ⟨[(5, .ptr 600005 0), (61, .val .bool)], [(600005, .box 38 (.val (.pair (.int .i64) (.pair (.list (.list (.int .i64))) (.list (.list (.agg (.pair (.list (.int .i64)) (.int .i64)))))))))]⟩), (4, [], ⟨[(65, .val .bool)], []⟩)])], fun y => (valW .bool y, [], [])⟩
noncomputable def V_law9_begun (w_Made : List Int → Option ((List Int) × Int)) (w_Picks_Dist : (List Int) × Int → Option ((List (List Int)) × (List Int) × Int)) (w_hier_New : (List (List Int)) × Int → Option (Bool × Int × (List (List Int)) × List (List ((List Int) × Int)))) (w_hier_Join : (Int × (List (List Int)) × List (List ((List Int) × Int))) × Int → Option (Int × (List (List Int)) × List (List ((List Int) × Int)))) (w_hier_Leave : (Int × (List (List Int)) × List (List ((List Int) × Int))) × Int → Option (Int × (List (List Int)) × List (List ((List Int) × Int)))) (w_hier_Ask : (Int × (List (List Int)) × List (List ((List Int) × Int))) × Int → Option (Int)) (w_hier_May : Int × (List (List Int)) × List (List ((List Int) × Int)) → Option (Bool)) (N : Nat) (x : Unit) : Option (Bool) :=
  obind (w_Made []) fun b => obind (w_Picks_Dist b) fun b => obind (w_hier_New (b.1, (1:Int))) fun b => obind (w_hier_New ([], (1:Int))) fun b_1
    => obind (w_hier_Join (b.2, (1:Int))) fun b_2 => obind (w_hier_Join (b_2, (2:Int))) fun b_3 => obind (w_hier_Leave (b_3, (1:Int))) fun b_4 =>
    obind (cnd b.1 (some (!b_1.1, b_3, b_4)) (some (false, b_3, b_4))) fun (b : Bool × (Int × List (List Int) × List (List (List Int × Int))) × Int ×
    List (List Int) × List (List (List Int × Int))) => obind (cnd b.1 (some (decide ((↑(List.length b.2.1.2.2) : Int) = (1:Int)), b.2)) (some (false,
    b.2))) fun (b : Bool × (Int × List (List Int) × List (List (List Int × Int))) × Int × List (List Int) × List (List (List Int × Int))) => obind (cnd
    b.1 (cnd (decide ((0:Int) ≤ (0:Int)) && decide ((0:Int) < (↑(List.length b.2.1.2.2) : Int))) (some (decide ((↑(List.length (List.getD b.2.1.2.2
    (0:Nat) [])) : Int) = (1:Int)), b.2)) none) (some (false, b.2))) fun (b : Bool × (Int × List (List Int) × List (List (List Int × Int))) × Int × List
    (List Int) × List (List (List Int × Int))) => obind (cnd b.1 (obind (w_hier_Ask (b.2.1, (2:Int))) fun b_5 => some (decide (b_5 = (1:Int)), b.2))
    (some (false, b.2))) fun (b : Bool × (Int × List (List Int) × List (List (List Int × Int))) × Int × List (List Int) × List (List (List Int × Int)))
    => obind (cnd b.1 (obind (w_hier_Ask (b.2.1, (1:Int))) fun b_5 => some (decide (b_5 = (0:Int)), b.2)) (some (false, b.2))) fun (b : Bool × (Int ×
    List (List Int) × List (List (List Int × Int))) × Int × List (List Int) × List (List (List Int × Int))) => obind (cnd b.1 (some (decide
    ((↑(List.length b.2.2.2.2) : Int) = (1:Int)), b.2)) (some (false, b.2))) fun (b : Bool × (Int × List (List Int) × List (List (List Int × Int))) ×
    Int × List (List Int) × List (List (List Int × Int))) => obind (cnd b.1 (obind (w_hier_Ask (b.2.2, (2:Int))) fun b_5 => some (decide (b_5 =
    (0:Int)), b.2.1)) (some (false, b.2.1))) fun (b : Bool × Int × List (List Int) × List (List (List Int × Int))) => obind (cnd b.1 (obind (w_hier_May b.2) fun b => some b) (some false)) fun (b : Bool) => cnd b (obind (w_hier_May ((0:Int), [], [])) fun b => some !b) (some false)
theorem q_law9_begun : ∀ w_Made w_Picks_Dist w_hier_New w_hier_Join w_hier_Leave w_hier_Ask w_hier_May N x, u_law9_begun.F L0 P0 (orcOf [u_Made.con w_Made, u_Picks_Dist.con w_Picks_Dist, u_hier_New.con w_hier_New, u_hier_Join.con w_hier_Join, u_hier_Leave.con w_hier_Leave, u_hier_Ask.con w_hier_Ask, u_hier_May.con w_hier_May]) N x = V_law9_begun w_Made w_Picks_Dist w_hier_New w_hier_Join w_hier_Leave w_hier_Ask w_hier_May N x := by intros; kernel_rfl
noncomputable def W_law9_begun (N : Nat) := V_law9_begun (W_Made N) (W_Picks_Dist N) (W_hier_New N) (W_hier_Join N) (W_hier_Leave N) (W_hier_Ask N) (W_hier_May N) N
theorem con_law9_begun_ok (N : Nat) : (u_law9_begun.con (W_law9_begun N)).ok P0 := Uf.ok mixed (q_law9_begun (W_Made N) (W_Picks_Dist N) (W_hier_New N) (W_hier_Join N) (W_hier_Leave N) (W_hier_Ask N) (W_hier_May N) N) ⟨con_Made_ok N, con_Picks_Dist_ok N, con_hier_New_ok N, con_hier_Join_ok N, con_hier_Leave_ok N, con_hier_Ask_ok N, con_hier_May_ok N, trivial⟩ Try.func16 (by kernel_rfl) fun x y => by kernel_rfl
noncomputable def u_ref1_MayDist : Uf := ⟨10, 83, Try.f10, [.val (.list (.list (.int .i64)))], [],
⟨[(2, .val .bool)], []⟩, [],
[(4, .loop [] ⟨[(3, .val (.int .i64))], []⟩ [(.exit 0, ⟨[], []⟩), (.ret, ⟨[(2, .val .bool)], []⟩)]),
(12, .loop [] ⟨[(5, .val (.int .i64))], []⟩ [(.exit 4, ⟨[], []⟩), (.ret, ⟨[(2, .val .bool)], []⟩)]),
(9, .loop [] ⟨[(4, .val (.int .i64))], []⟩ [(.exit 2, ⟨[], []⟩), (.ret, ⟨[(2, .val .bool)], []⟩)])],
[], fun y => (valW .bool y, [], [])⟩
noncomputable def V_ref1_MayDist (N : Nat) (x : List (List Int)) : Option (Bool) :=
  cnd (decide ((↑(List.length x) : Int) ≠ (8:Int))) (some false) (obind (loopN N (fun (v : Int) => cnd (decide (v < (↑(List.length x) : Int))) (cnd
    (decide ((0:Int) ≤ v) && decide (v < (↑(List.length x) : Int))) (cnd (decide ((↑(List.length (List.getD x (Int.toNat v) [])) : Int) ≠ (8:Int)))
    (some (Sum.inr (Sum.inr false))) (some (Sum.inl (wr .i64 (v + (1:Int)))))) none) (some (Sum.inr (Sum.inl ())))) (Int.ofNat (0:Nat))) fun (b : PUnit
    ⊕ Bool) => selim (fun (b : PUnit) => obind (loopN N (fun (v : Int) => cnd (decide (v < (↑(List.length x) : Int))) (obind (loopN N (fun (v_1 : Int)
    => cnd (decide (v_1 < (↑(List.length x) : Int))) (cnd (decide ((0:Int) ≤ v) && decide (v < (↑(List.length x) : Int))) (cnd (decide ((0:Int) ≤ v_1)
    && decide (v_1 < (↑(List.length (List.getD x (Int.toNat v) [])) : Int))) (cnd (decide (List.getD (List.getD x (Int.toNat v) []) (Int.toNat v_1)
    (0:Int) < (0:Int))) (some (Sum.inr (Sum.inr false))) (cnd (decide ((0:Int) ≤ v) && decide (v < (↑(List.length x) : Int))) (cnd (decide ((0:Int) ≤
    v_1) && decide (v_1 < (↑(List.length (List.getD x (Int.toNat v) [])) : Int))) (cnd (decide ((1000:Int) < List.getD (List.getD x (Int.toNat v) [])
    (Int.toNat v_1) (0:Int))) (some (Sum.inr (Sum.inr false))) (cnd (decide ((0:Int) ≤ v) && decide (v < (↑(List.length x) : Int))) (cnd (decide
    ((0:Int) ≤ v_1) && decide (v_1 < (↑(List.length (List.getD x (Int.toNat v) [])) : Int))) (cnd (decide ((0:Int) ≤ v_1) && decide (v_1 <
    (↑(List.length x) : Int))) (cnd (decide ((0:Int) ≤ v) && decide (v < (↑(List.length (List.getD x (Int.toNat v_1) [])) : Int))) (cnd (decide
    (List.getD (List.getD x (Int.toNat v) []) (Int.toNat v_1) (0:Int) ≠ List.getD (List.getD x (Int.toNat v_1) []) (Int.toNat v) (0:Int))) (some
    (Sum.inr (Sum.inr false))) (cnd (decide (v = v_1)) (cnd (decide ((0:Int) ≤ v) && decide (v < (↑(List.length x) : Int))) (cnd (decide ((0:Int) ≤ v_1)
    && decide (v_1 < (↑(List.length (List.getD x (Int.toNat v) [])) : Int))) (cnd (decide (List.getD (List.getD x (Int.toNat v) []) (Int.toNat v_1)
    (0:Int) ≠ (0:Int))) (some (Sum.inr (Sum.inr false))) (some (Sum.inl (wr .i64 (v_1 + (1:Int)))))) none) none) (some (Sum.inl (wr .i64 (v_1 +
    (1:Int))))))) none) none) none) none)) none) none)) none) none) (some (Sum.inr (Sum.inl ())))) (Int.ofNat (0:Nat))) fun (b : PUnit ⊕ Bool) => selim
    (fun (b : PUnit) => some (Sum.inl (wr .i64 (v + (1:Int))))) (fun (c : Bool) => some (Sum.inr (Sum.inr c))) b) (some (Sum.inr (Sum.inl ()))))
    (Int.ofNat (0:Nat))) fun (b : PUnit ⊕ Bool) => selim (fun (b : PUnit) => some true) (fun (c : Bool) => some c) b) (fun (c : Bool) => some c) b)
theorem q_ref1_MayDist : ∀ N x, u_ref1_MayDist.F L0 P0 (orcOf []) N x = V_ref1_MayDist N x := by intros; kernel_rfl
noncomputable def W_ref1_MayDist (N : Nat) := V_ref1_MayDist N
theorem con_ref1_MayDist_ok (N : Nat) : (u_ref1_MayDist.con (W_ref1_MayDist N)).ok P0 := Uf.ok mixed (q_ref1_MayDist N) trivial Try.func10 (by kernel_rfl) fun x y => by kernel_rfl
noncomputable def u_ref7_New : Uf := ⟨17, 40, Try.f17, [.val (.list (.list (.int .i64))), .val (.int .i64)], [],
⟨[(4, .ptr 600004 0), (5, .val .bool)], [(600004, .box 38 (.val (.pair (.int .i64) (.pair (.list (.list (.int .i64))) (.list (.list (.agg (.pair (.list (.int .i64)) (.int .i64)))))))))]⟩, [],
[(5, .loop [] ⟨[(4, .ptr 600004 0), (6, .ptr 600006 0), (7, .val (.int .i64))], [(600004, .box 38 (.val (.pair (.int .i64) (.pair (.list (.list (.int .i64))) (.list (.list (.agg (.pair (.list (.int .i64)) (.int .i64))))))))), (600006, .box 38 (.pair (.val (.int .i64)) (.pair (.acc 602006) (.val (.list (.list (.agg (.pair (.list (.int .i64)) (.int .i64))))))))), (602006, .nrow 25 (.list (.int .i64)) false true)]⟩ [(.exit 0, ⟨[(4, .ptr 600004 0), (6, .ptr 600006 0)], [(600004, .box 38 (.val (.pair (.int .i64) (.pair (.list (.list (.int .i64))) (.list (.list (.agg (.pair (.list (.int .i64)) (.int .i64))))))))), (600006, .box 38 (.pair (.val (.int .i64)) (.pair (.acc 602006) (.val (.list (.list (.agg (.pair (.list (.int .i64)) (.int .i64))))))))), (602006, .nrow 25 (.list (.int .i64)) false true)]⟩)])],
[(1000001, .reg [(7, [], ⟨[(4, .ptr 600004 0), (14, .val .bool)], [(600004, .box 38 (.val (.pair (.int .i64) (.pair (.list (.list (.int .i64))) (.list (.list (.agg (.pair (.list (.int .i64)) (.int .i64)))))))))]⟩)])], fun y => (.tup [valW (.agg (.pair (.int .i64) (.pair (.list (.list (.int .i64))) (.list (.list (.agg (.pair (.list (.int .i64)) (.int .i64)))))))) y.2, valW .bool y.1], [], [])⟩
noncomputable def V_ref7_New (w_ref1_MayDist : List (List Int) → Option (Bool)) (N : Nat) (x : (List (List Int)) × Int) : Option (Bool × Int × (List (List Int)) × List (List ((List Int) × Int))) :=
  obind (obind (w_ref1_MayDist x.1) fun b => cnd (!b) (some (true, (0:Int), [], [])) (some (decide (x.2 < (1:Int)), (0:Int), [], []))) fun (b : Bool ×
    Int × List (List Int) × List (List (List Int × Int))) => cnd b.1 (some (false, (0:Int), [], [])) (cnd (decide ((3:Int) < x.2)) (some (false,
    (0:Int), [], [])) (obind (loopN N (fun (v : Int × (Int × List (List Int) × List (List (List Int × Int))) × Int × List (List (List Int × Int)) × List
    (List Int)) => cnd (decide (v.1 < (↑(List.length x.1) : Int))) (cnd (decide ((0:Int) ≤ v.1) && decide (v.1 < (↑(List.length x.1) : Int))) (cnd
    (decide (List.length (List.getD x.1 (Int.toNat v.1) []) * (8:Nat) ≤ (140737488355328:Nat))) (cnd (decide ((List.length v.2.2.2.2 + (1:Nat)) *
    (24:Nat) ≤ (140737488355328:Nat))) (some (Sum.inl (wr .i64 (v.1 + (1:Int)), v.2.1, v.2.2.1, v.2.2.2.1, v.2.2.2.2 ++ [List.getD x.1 (Int.toNat v.1)
    []]))) none) none) none) (some (Sum.inr v.2))) ((0:Int), b.2, x.2, [], [])) fun (b : (Int × List (List Int) × List (List (List Int × Int))) × Int ×
    List (List (List Int × Int)) × List (List Int)) => some (true, b.2.1, b.2.2.2, b.2.2.1)))
theorem q_ref7_New : ∀ w_ref1_MayDist N x, u_ref7_New.F L0 P0 (orcOf [u_ref1_MayDist.con w_ref1_MayDist]) N x = V_ref7_New w_ref1_MayDist N x := by intros; kernel_rfl
noncomputable def W_ref7_New (N : Nat) := V_ref7_New (W_ref1_MayDist N) N
theorem con_ref7_New_ok (N : Nat) : (u_ref7_New.con (W_ref7_New N)).ok P0 := Uf.ok mixed (q_ref7_New (W_ref1_MayDist N) N) ⟨con_ref1_MayDist_ok N, trivial⟩ Try.func17 (by kernel_rfl) fun x y => by kernel_rfl
noncomputable def u_ref1_Has : Uf := ⟨42, 18, Try.f42, [.val (.list (.int .i64)), .val (.int .i64)], [],
⟨[(4, .val .bool)], []⟩, [],
[(2, .loop [] ⟨[(5, .val (.int .i64))], []⟩ [(.exit 0, ⟨[], []⟩), (.ret, ⟨[(4, .val .bool)], []⟩)])],
[], fun y => (valW .bool y, [], [])⟩
noncomputable def V_ref1_Has (N : Nat) (x : (List Int) × Int) : Option (Bool) :=
  obind (loopN N (fun (v : Int) => cnd (decide (v < (↑(List.length x.1) : Int))) (cnd (decide ((0:Int) ≤ v) && decide (v < (↑(List.length x.1) : Int)))
    (cnd (decide (List.getD x.1 (Int.toNat v) (0:Int) = x.2)) (some (Sum.inr (Sum.inr true))) (some (Sum.inl (wr .i64 (v + (1:Int)))))) none) (some
    (Sum.inr (Sum.inl ())))) (Int.ofNat (0:Nat))) fun (b : PUnit ⊕ Bool) => selim (fun (b : PUnit) => some false) (fun (c : Bool) => some c) b
theorem q_ref1_Has : ∀ N x, u_ref1_Has.F L0 P0 (orcOf []) N x = V_ref1_Has N x := by intros; kernel_rfl
noncomputable def W_ref1_Has (N : Nat) := V_ref1_Has N
theorem con_ref1_Has_ok (N : Nat) : (u_ref1_Has.con (W_ref1_Has N)).ok P0 := Uf.ok mixed (q_ref1_Has N) trivial Try.func42 (by kernel_rfl) fun x y => by kernel_rfl
noncomputable def u_ref7_Home : Uf := ⟨32, 20, Try.f32, [.val (.list (.agg (.pair (.list (.int .i64)) (.int .i64)))), .val (.int .i64)], [],
⟨[(4, .val (.int .i64))], []⟩, [],
[(2, .loop [] ⟨[(5, .val (.int .i64))], []⟩ [(.exit 0, ⟨[], []⟩), (.ret, ⟨[(4, .val (.int .i64))], []⟩)])],
[], fun y => (valW (.int .i64) y, [], [])⟩
noncomputable def V_ref7_Home (w_ref1_Has : (List Int) × Int → Option (Bool)) (N : Nat) (x : (List ((List Int) × Int)) × Int) : Option (Int) :=
  obind (loopN N (fun (v : Int) => cnd (decide (v < (↑(List.length x.1) : Int))) (cnd (decide ((0:Int) ≤ v) && decide (v < (↑(List.length x.1) : Int)))
    (obind (w_ref1_Has (Prod.fst (List.getD x.1 (Int.toNat v) ([], (0:Int))), x.2)) fun b => cnd b (some (Sum.inr (Sum.inr v))) (some (Sum.inl (wr
    .i64 (v + (1:Int)))))) none) (some (Sum.inr (Sum.inl ())))) (Int.ofNat (0:Nat))) fun (b : PUnit ⊕ Int) => selim (fun (b : PUnit) => some (-1 : Int))
    (fun (c : Int) => some c) b
theorem q_ref7_Home : ∀ w_ref1_Has N x, u_ref7_Home.F L0 P0 (orcOf [u_ref1_Has.con w_ref1_Has]) N x = V_ref7_Home w_ref1_Has N x := by intros; kernel_rfl
noncomputable def W_ref7_Home (N : Nat) := V_ref7_Home (W_ref1_Has N) N
theorem con_ref7_Home_ok (N : Nat) : (u_ref7_Home.con (W_ref7_Home N)).ok P0 := Uf.ok mixed (q_ref7_Home (W_ref1_Has N) N) ⟨con_ref1_Has_ok N, trivial⟩ Try.func32 (by kernel_rfl) fun x y => by kernel_rfl
noncomputable def u_ref7_Near : Uf := ⟨33, 48, Try.f33, [.val (.list (.list (.int .i64))), .val (.int .i64), .val (.list (.int .i64))], [],
⟨[(6, .val (.int .i64))], []⟩, [],
[(3, .loop [] ⟨[(7, .val (.int .i64)), (8, .val (.int .i64))], []⟩ [(.exit 0, ⟨[(7, .val (.int .i64))], []⟩)])],
[], fun y => (valW (.int .i64) y, [], [])⟩
noncomputable def V_ref7_Near (w_ref1_Has : (List Int) × Int → Option (Bool)) (N : Nat) (x : (List (List Int)) × Int × List Int) : Option (Int) :=
  obind (loopN N (fun (v : Int × Int) => cnd (decide (v.2 ≤ (8:Int))) (cnd (decide (v.2 ≠ x.2.1)) (obind (w_ref1_Has (x.2.2, v.2)) fun b => cnd b (cnd
    (decide (v.1 = (0:Int))) (some (Sum.inl (v.2, wr .i64 (v.2 + (1:Int))))) (cnd (decide ((0:Int) ≤ wr .i64 (x.2.1 - (1:Int))) && decide (wr .i64
    (x.2.1 - (1:Int)) < (↑(List.length x.1) : Int))) (cnd (decide ((0:Int) ≤ wr .i64 (v.2 - (1:Int))) && decide (wr .i64 (v.2 - (1:Int)) <
    (↑(List.length (List.getD x.1 (Int.toNat (wr .i64 (x.2.1 - (1:Int)))) [])) : Int))) (cnd (decide ((0:Int) ≤ wr .i64 (x.2.1 - (1:Int))) && decide (wr
    .i64 (x.2.1 - (1:Int)) < (↑(List.length x.1) : Int))) (cnd (decide ((0:Int) ≤ wr .i64 (v.1 - (1:Int))) && decide (wr .i64 (v.1 - (1:Int)) <
    (↑(List.length (List.getD x.1 (Int.toNat (wr .i64 (x.2.1 - (1:Int)))) [])) : Int))) (cnd (decide (List.getD (List.getD x.1 (Int.toNat (wr .i64
    (x.2.1 - (1:Int)))) []) (Int.toNat (wr .i64 (v.2 - (1:Int)))) (0:Int) < List.getD (List.getD x.1 (Int.toNat (wr .i64 (x.2.1 - (1:Int)))) [])
    (Int.toNat (wr .i64 (v.1 - (1:Int)))) (0:Int))) (some (Sum.inl (v.2, wr .i64 (v.2 + (1:Int))))) (some (Sum.inl (v.1, wr .i64 (v.2 + (1:Int))))))
    none) none) none) none)) (some (Sum.inl (v.1, wr .i64 (v.2 + (1:Int)))))) (some (Sum.inl (v.1, wr .i64 (v.2 + (1:Int)))))) (some (Sum.inr v.1)))
    ((0:Int), (1:Int))) fun (b : Int) => some b
theorem q_ref7_Near : ∀ w_ref1_Has N x, u_ref7_Near.F L0 P0 (orcOf [u_ref1_Has.con w_ref1_Has]) N x = V_ref7_Near w_ref1_Has N x := by intros; kernel_rfl
noncomputable def W_ref7_Near (N : Nat) := V_ref7_Near (W_ref1_Has N) N
theorem con_ref7_Near_ok (N : Nat) : (u_ref7_Near.con (W_ref7_Near N)).ok P0 := Uf.ok mixed (q_ref7_Near (W_ref1_Has N) N) ⟨con_ref1_Has_ok N, trivial⟩ Try.func33 (by kernel_rfl) fun x y => by kernel_rfl
noncomputable def u_ref7_Far : Uf := ⟨63, 30, Try.f63, [.val (.list (.list (.int .i64))), .val (.int .i64), .val (.list (.int .i64))], [],
⟨[(6, .val (.int .i64))], []⟩, [],
[(3, .loop [] ⟨[(7, .val (.int .i64)), (8, .val (.int .i64))], []⟩ [(.exit 0, ⟨[(7, .val (.int .i64))], []⟩)])],
[], fun y => (valW (.int .i64) y, [], [])⟩
noncomputable def V_ref7_Far (N : Nat) (x : (List (List Int)) × Int × List Int) : Option (Int) :=
  obind (loopN N (fun (v : Int × Int) => cnd (decide (v.2 < (↑(List.length x.2.2) : Int))) (cnd (decide ((0:Int) ≤ wr .i64 (x.2.1 - (1:Int))) && decide
    (wr .i64 (x.2.1 - (1:Int)) < (↑(List.length x.1) : Int))) (cnd (decide ((0:Int) ≤ v.2) && decide (v.2 < (↑(List.length x.2.2) : Int))) (cnd (decide
    ((0:Int) ≤ wr .i64 (List.getD x.2.2 (Int.toNat v.2) (0:Int) - (1:Int))) && decide (wr .i64 (List.getD x.2.2 (Int.toNat v.2) (0:Int) - (1:Int)) <
    (↑(List.length (List.getD x.1 (Int.toNat (wr .i64 (x.2.1 - (1:Int)))) [])) : Int))) (some (Sum.inl (max v.1 (List.getD (List.getD x.1 (Int.toNat (wr
    .i64 (x.2.1 - (1:Int)))) []) (Int.toNat (wr .i64 (List.getD x.2.2 (Int.toNat v.2) (0:Int) - (1:Int)))) (0:Int)), wr .i64 (v.2 + (1:Int))))) none)
    none) none) (some (Sum.inr v.1))) ((0:Int), (0:Int))) fun (b : Int) => some b
theorem q_ref7_Far : ∀ N x, u_ref7_Far.F L0 P0 (orcOf []) N x = V_ref7_Far N x := by intros; kernel_rfl
noncomputable def W_ref7_Far (N : Nat) := V_ref7_Far N
theorem con_ref7_Far_ok (N : Nat) : (u_ref7_Far.con (W_ref7_Far N)).ok P0 := Uf.ok mixed (q_ref7_Far N) trivial Try.func63 (by kernel_rfl) fun x y => by kernel_rfl
noncomputable def u_ref7_Mid : Uf := ⟨43, 31, Try.f43, [.val (.list (.list (.int .i64))), .val (.list (.int .i64))], [],
⟨[(4, .val (.int .i64))], []⟩, [],
[(3, .loop [] ⟨[(5, .val (.int .i64)), (6, .val (.int .i64))], []⟩ [(.exit 0, ⟨[(5, .val (.int .i64))], []⟩)])],
[], fun y => (valW (.int .i64) y, [], [])⟩
noncomputable def V_ref7_Mid (w_ref1_Has : (List Int) × Int → Option (Bool)) (w_ref7_Far : (List (List Int)) × Int × List Int → Option (Int)) (N : Nat) (x : (List (List Int)) × List Int) : Option (Int) :=
  obind (loopN N (fun (v : Int × Int) => cnd (decide (v.2 ≤ (8:Int))) (obind (w_ref1_Has (x.2, v.2)) fun b => cnd b (cnd (decide (v.1 = (0:Int)))
    (some (Sum.inl (v.2, wr .i64 (v.2 + (1:Int))))) (obind (w_ref7_Far (x.1, v.2, x.2)) fun b => obind (w_ref7_Far (x.1, v.1, x.2)) fun b_1 => cnd
    (decide (b < b_1)) (some (Sum.inl (v.2, wr .i64 (v.2 + (1:Int))))) (some (Sum.inl (v.1, wr .i64 (v.2 + (1:Int))))))) (some (Sum.inl (v.1, wr .i64
    (v.2 + (1:Int)))))) (some (Sum.inr v.1))) ((0:Int), (1:Int))) fun (b : Int) => some b
theorem q_ref7_Mid : ∀ w_ref1_Has w_ref7_Far N x, u_ref7_Mid.F L0 P0 (orcOf [u_ref1_Has.con w_ref1_Has, u_ref7_Far.con w_ref7_Far]) N x = V_ref7_Mid w_ref1_Has w_ref7_Far N x := by intros; kernel_rfl
noncomputable def W_ref7_Mid (N : Nat) := V_ref7_Mid (W_ref1_Has N) (W_ref7_Far N) N
theorem con_ref7_Mid_ok (N : Nat) : (u_ref7_Mid.con (W_ref7_Mid N)).ok P0 := Uf.ok mixed (q_ref7_Mid (W_ref1_Has N) (W_ref7_Far N) N) ⟨con_ref1_Has_ok N, con_ref7_Far_ok N, trivial⟩ Try.func43 (by kernel_rfl) fun x y => by kernel_rfl
noncomputable def u_ref7_Of : Uf := ⟨52, 12, Try.f52, [.val (.list (.list (.int .i64))), .val (.list (.int .i64))], [],
⟨[(4, .ptr 600004 0)], [(600004, .box 45 (.val (.pair (.list (.int .i64)) (.int .i64))))]⟩, [],
[],
[], fun y => (valW (.agg (.pair (.list (.int .i64)) (.int .i64))) y, [], [])⟩
noncomputable def V_ref7_Of (w_ref7_Mid : (List (List Int)) × List Int → Option (Int)) (N : Nat) (x : (List (List Int)) × List Int) : Option ((List Int) × Int) :=
  cnd (decide (List.length x.2 * (8:Nat) ≤ (140737488355328:Nat))) (obind (w_ref7_Mid x) fun b => some (x.2, b)) none
theorem q_ref7_Of : ∀ w_ref7_Mid N x, u_ref7_Of.F L0 P0 (orcOf [u_ref7_Mid.con w_ref7_Mid]) N x = V_ref7_Of w_ref7_Mid N x := by intros; kernel_rfl
noncomputable def W_ref7_Of (N : Nat) := V_ref7_Of (W_ref7_Mid N) N
theorem con_ref7_Of_ok (N : Nat) : (u_ref7_Of.con (W_ref7_Of N)).ok P0 := Uf.ok mixed (q_ref7_Of (W_ref7_Mid N) N) ⟨con_ref7_Mid_ok N, trivial⟩ Try.func52 (by kernel_rfl) fun x y => by kernel_rfl
noncomputable def u_ref7_Rising : Uf := ⟨53, 17, Try.f53, [.val (.list (.int .i64))], [],
⟨[(2, .acc 700003)], [(700003, .nrow 3 (.int .i64) true true)]⟩, [],
[(3, .loop [] ⟨[(3, .acc 700003), (4, .val (.int .i64))], [(700003, .nrow 3 (.int .i64) true true)]⟩ [(.exit 0, ⟨[(3, .acc 700003)], [(700003, .nrow 3 (.int .i64) true true)]⟩)])],
[], fun y => (.acc 2000000 0, [], [.nrow 3 true true ⟨(.int .i64), y⟩])⟩
noncomputable def V_ref7_Rising (w_ref1_Has : (List Int) × Int → Option (Bool)) (N : Nat) (x : List Int) : Option (List Int) :=
  obind (loopN N (fun (v : Int × List Int) => cnd (decide (v.1 ≤ (8:Int))) (obind (w_ref1_Has (x, v.1)) fun b => cnd b (cnd (decide ((List.length v.2
    + List.length [v.1]) * (8:Nat) ≤ (140737488355328:Nat))) (some (Sum.inl (wr .i64 (v.1 + (1:Int)), v.2 ++ [v.1]))) none) (some (Sum.inl (wr .i64 (v.1
    + (1:Int)), v.2)))) (some (Sum.inr v.2))) ((1:Int), [])) fun (b : List Int) => some b
theorem q_ref7_Rising : ∀ w_ref1_Has N x, u_ref7_Rising.F L0 P0 (orcOf [u_ref1_Has.con w_ref1_Has]) N x = V_ref7_Rising w_ref1_Has N x := by intros; kernel_rfl
noncomputable def W_ref7_Rising (N : Nat) := V_ref7_Rising (W_ref1_Has N) N
theorem con_ref7_Rising_ok (N : Nat) : (u_ref7_Rising.con (W_ref7_Rising N)).ok P0 := Uf.ok mixed (q_ref7_Rising (W_ref1_Has N) N) ⟨con_ref1_Has_ok N, trivial⟩ Try.func53 (by kernel_rfl) fun x y => by kernel_rfl
noncomputable def u_ref7_without : Uf := ⟨90, 27, Try.f90, [.val (.list (.int .i64)), .val (.int .i64)], [],
⟨[(4, .acc 700005)], [(700005, .nrow 3 (.int .i64) true true)]⟩, [],
[(3, .loop [] ⟨[(5, .acc 700005), (6, .val (.int .i64))], [(700005, .nrow 3 (.int .i64) true true)]⟩ [(.exit 0, ⟨[(5, .acc 700005)], [(700005, .nrow 3 (.int .i64) true true)]⟩)])],
[], fun y => (.acc 2000000 0, [], [.nrow 3 true true ⟨(.int .i64), y⟩])⟩
noncomputable def V_ref7_without (N : Nat) (x : (List Int) × Int) : Option (List Int) :=
  obind (loopN N (fun (v : Int × List Int) => cnd (decide (v.1 < (↑(List.length x.1) : Int))) (cnd (decide ((0:Int) ≤ v.1) && decide (v.1 <
    (↑(List.length x.1) : Int))) (cnd (decide (List.getD x.1 (Int.toNat v.1) (0:Int) ≠ x.2)) (cnd (decide ((0:Int) ≤ v.1) && decide (v.1 <
    (↑(List.length x.1) : Int))) (cnd (decide ((List.length v.2 + List.length [List.getD x.1 (Int.toNat v.1) (0:Int)]) * (8:Nat) ≤
    (140737488355328:Nat))) (some (Sum.inl (wr .i64 (v.1 + (1:Int)), v.2 ++ [List.getD x.1 (Int.toNat v.1) (0:Int)]))) none) none) (some (Sum.inl (wr
    .i64 (v.1 + (1:Int)), v.2)))) none) (some (Sum.inr v.2))) ((0:Int), [])) fun (b : List Int) => some b
theorem q_ref7_without : ∀ N x, u_ref7_without.F L0 P0 (orcOf []) N x = V_ref7_without N x := by intros; kernel_rfl
noncomputable def W_ref7_without (N : Nat) := V_ref7_without N
theorem con_ref7_without_ok (N : Nat) : (u_ref7_without.con (W_ref7_without N)).ok P0 := Uf.ok mixed (q_ref7_without N) trivial Try.func90 (by kernel_rfl) fun x y => by kernel_rfl
noncomputable def u_ref7_Split : Uf := ⟨78, 172, Try.f78, [.val (.list (.list (.int .i64))), .val (.list (.int .i64)), .val (.int .i64)], [],
⟨[(6, .val (.list (.int .i64))), (7, .val (.list (.int .i64)))], []⟩, [],
[(8, .loop [] ⟨[(8, .val (.int .i64)), (9, .val (.int .i64)), (11, .val (.int .i64))], []⟩ [(.exit 2, ⟨[(8, .val (.int .i64)), (9, .val (.int .i64))], []⟩)]),
(5, .loop [] ⟨[(8, .val (.int .i64)), (9, .val (.int .i64)), (10, .val (.int .i64))], []⟩ [(.exit 0, ⟨[(8, .val (.int .i64)), (9, .val (.int .i64))], []⟩)]),
(14, .loop [] ⟨[(12, .acc 700169), (13, .acc 700166), (14, .val (.int .i64))], [(700169, .nrow 3 (.int .i64) true true), (700166, .nrow 3 (.int .i64) true true)]⟩ [(.exit 4, ⟨[(12, .acc 700169), (13, .acc 700166)], [(700169, .nrow 3 (.int .i64) true true), (700166, .nrow 3 (.int .i64) true true)]⟩)]),
(20, .loop [] ⟨[(12, .acc 700169), (13, .acc 700166)], [(700169, .nrow 3 (.int .i64) true true), (700166, .nrow 3 (.int .i64) true true)]⟩ [(.exit 6, ⟨[(12, .val (.list (.int .i64))), (13, .acc 700166)], [(700166, .nrow 3 (.int .i64) true true)]⟩)]),
(23, .loop [] ⟨[(12, .val (.list (.int .i64))), (13, .acc 700166)], [(700166, .nrow 3 (.int .i64) true true)]⟩ [(.exit 8, ⟨[(12, .val (.list (.int .i64))), (13, .val (.list (.int .i64)))], []⟩)])],
[], fun y => (.tup [valW (.list (.int .i64)) y.1, valW (.list (.int .i64)) y.2], [], [])⟩
noncomputable def V_ref7_Split (w_ref7_without : (List Int) × Int → Option (List Int)) (w_ref7_Near : (List (List Int)) × Int × List Int → Option (Int)) (w_ref7_Rising : List Int → Option (List Int)) (N : Nat) (x : (List (List Int)) × (List Int) × Int) : Option ((List Int) × List Int) :=
  cnd (decide ((↑(List.length x.2.1) : Int) < (2:Int))) (cnd (decide (List.length x.2.1 * (8:Nat) ≤ (140737488355328:Nat))) (some (x.2.1, [])) none)
    (obind (loopN N (fun (v : Int × Int × Int) => cnd (decide (v.2.2 < (↑(List.length x.2.1) : Int))) (obind (loopN N (fun (v_1 : Int × Int × Int) =>
    cnd (decide (v_1.2.2 < (↑(List.length x.2.1) : Int))) (cnd (decide (v_1.1 = (0:Int))) (cnd (decide ((0:Int) ≤ v.2.2) && decide (v.2.2 <
    (↑(List.length x.2.1) : Int))) (cnd (decide ((0:Int) ≤ v_1.2.2) && decide (v_1.2.2 < (↑(List.length x.2.1) : Int))) (some (Sum.inl (List.getD x.2.1
    (Int.toNat v.2.2) (0:Int), List.getD x.2.1 (Int.toNat v_1.2.2) (0:Int), wr .i64 (v_1.2.2 + (1:Int))))) none) none) (cnd (decide ((0:Int) ≤ v.2.2) &&
    decide (v.2.2 < (↑(List.length x.2.1) : Int))) (cnd (decide ((0:Int) ≤ wr .i64 (List.getD x.2.1 (Int.toNat v.2.2) (0:Int) - (1:Int))) && decide (wr
    .i64 (List.getD x.2.1 (Int.toNat v.2.2) (0:Int) - (1:Int)) < (↑(List.length x.1) : Int))) (cnd (decide ((0:Int) ≤ v_1.2.2) && decide (v_1.2.2 <
    (↑(List.length x.2.1) : Int))) (cnd (decide ((0:Int) ≤ wr .i64 (List.getD x.2.1 (Int.toNat v_1.2.2) (0:Int) - (1:Int))) && decide (wr .i64
    (List.getD x.2.1 (Int.toNat v_1.2.2) (0:Int) - (1:Int)) < (↑(List.length (List.getD x.1 (Int.toNat (wr .i64 (List.getD x.2.1 (Int.toNat v.2.2)
    (0:Int) - (1:Int)))) [])) : Int))) (cnd (decide ((0:Int) ≤ wr .i64 (v_1.1 - (1:Int))) && decide (wr .i64 (v_1.1 - (1:Int)) < (↑(List.length x.1) :
    Int))) (cnd (decide ((0:Int) ≤ wr .i64 (v_1.2.1 - (1:Int))) && decide (wr .i64 (v_1.2.1 - (1:Int)) < (↑(List.length (List.getD x.1 (Int.toNat (wr
    .i64 (v_1.1 - (1:Int)))) [])) : Int))) (cnd (decide (List.getD (List.getD x.1 (Int.toNat (wr .i64 (v_1.1 - (1:Int)))) []) (Int.toNat (wr .i64
    (v_1.2.1 - (1:Int)))) (0:Int) < List.getD (List.getD x.1 (Int.toNat (wr .i64 (List.getD x.2.1 (Int.toNat v.2.2) (0:Int) - (1:Int)))) []) (Int.toNat
    (wr .i64 (List.getD x.2.1 (Int.toNat v_1.2.2) (0:Int) - (1:Int)))) (0:Int))) (cnd (decide ((0:Int) ≤ v.2.2) && decide (v.2.2 < (↑(List.length x.2.1)
    : Int))) (cnd (decide ((0:Int) ≤ v_1.2.2) && decide (v_1.2.2 < (↑(List.length x.2.1) : Int))) (some (Sum.inl (List.getD x.2.1 (Int.toNat v.2.2)
    (0:Int), List.getD x.2.1 (Int.toNat v_1.2.2) (0:Int), wr .i64 (v_1.2.2 + (1:Int))))) none) none) (some (Sum.inl (v_1.1, v_1.2.1, wr .i64 (v_1.2.2 +
    (1:Int)))))) none) none) none) none) none) none)) (some (Sum.inr (v_1.1, v_1.2.1)))) (v.1, v.2.1, wr .i64 (v.2.2 + (1:Int)))) fun (b : Int × Int) =>
    some (Sum.inl (b.1, b.2, wr .i64 (v.2.2 + (1:Int))))) (some (Sum.inr (v.1, v.2.1)))) ((0:Int), (0:Int), (0:Int))) fun (b : Int × Int) => obind
    (loopN N (fun (v : Int × List Int × List Int) => cnd (decide (v.1 < (↑(List.length x.2.1) : Int))) (cnd (decide ((0:Int) ≤ v.1) && decide (v.1 <
    (↑(List.length x.2.1) : Int))) (cnd (decide (List.getD x.2.1 (Int.toNat v.1) (0:Int) ≠ b.2)) (cnd (decide (List.getD x.2.1 (Int.toNat v.1) (0:Int) =
    b.1)) (cnd (decide ((List.length v.2.1 + List.length [List.getD x.2.1 (Int.toNat v.1) (0:Int)]) * (8:Nat) ≤ (140737488355328:Nat))) (some (Sum.inl
    (wr .i64 (v.1 + (1:Int)), v.2.1 ++ [List.getD x.2.1 (Int.toNat v.1) (0:Int)], v.2.2))) none) (cnd (decide ((0:Int) ≤ wr .i64 (List.getD x.2.1
    (Int.toNat v.1) (0:Int) - (1:Int))) && decide (wr .i64 (List.getD x.2.1 (Int.toNat v.1) (0:Int) - (1:Int)) < (↑(List.length x.1) : Int))) (cnd
    (decide ((0:Int) ≤ wr .i64 (b.1 - (1:Int))) && decide (wr .i64 (b.1 - (1:Int)) < (↑(List.length (List.getD x.1 (Int.toNat (wr .i64 (List.getD x.2.1
    (Int.toNat v.1) (0:Int) - (1:Int)))) [])) : Int))) (cnd (decide ((0:Int) ≤ wr .i64 (List.getD x.2.1 (Int.toNat v.1) (0:Int) - (1:Int))) && decide
    (wr .i64 (List.getD x.2.1 (Int.toNat v.1) (0:Int) - (1:Int)) < (↑(List.length x.1) : Int))) (cnd (decide ((0:Int) ≤ wr .i64 (b.2 - (1:Int))) &&
    decide (wr .i64 (b.2 - (1:Int)) < (↑(List.length (List.getD x.1 (Int.toNat (wr .i64 (List.getD x.2.1 (Int.toNat v.1) (0:Int) - (1:Int)))) [])) :
    Int))) (cnd (decide (List.getD (List.getD x.1 (Int.toNat (wr .i64 (List.getD x.2.1 (Int.toNat v.1) (0:Int) - (1:Int)))) []) (Int.toNat (wr .i64 (b.1
    - (1:Int)))) (0:Int) ≤ List.getD (List.getD x.1 (Int.toNat (wr .i64 (List.getD x.2.1 (Int.toNat v.1) (0:Int) - (1:Int)))) []) (Int.toNat (wr .i64
    (b.2 - (1:Int)))) (0:Int))) (cnd (decide ((List.length v.2.1 + List.length [List.getD x.2.1 (Int.toNat v.1) (0:Int)]) * (8:Nat) ≤
    (140737488355328:Nat))) (some (Sum.inl (wr .i64 (v.1 + (1:Int)), v.2.1 ++ [List.getD x.2.1 (Int.toNat v.1) (0:Int)], v.2.2))) none) (cnd (decide
    ((List.length v.2.2 + List.length [List.getD x.2.1 (Int.toNat v.1) (0:Int)]) * (8:Nat) ≤ (140737488355328:Nat))) (some (Sum.inl (wr .i64 (v.1 +
    (1:Int)), v.2.1, v.2.2 ++ [List.getD x.2.1 (Int.toNat v.1) (0:Int)]))) none)) none) none) none) none)) (cnd (decide ((List.length v.2.2 +
    List.length [List.getD x.2.1 (Int.toNat v.1) (0:Int)]) * (8:Nat) ≤ (140737488355328:Nat))) (some (Sum.inl (wr .i64 (v.1 + (1:Int)), v.2.1, v.2.2 ++
    [List.getD x.2.1 (Int.toNat v.1) (0:Int)]))) none)) none) (some (Sum.inr v.2))) ((0:Int), [], [])) fun (b_1 : List Int × List Int) => obind (loopN N
    (fun (v : List Int × List Int) => cnd (decide ((↑(List.length v.1) : Int) < x.2.2)) (cnd (decide (x.2.2 < (↑(List.length v.2) : Int))) (obind
    (w_ref7_without (v.2, b.2)) fun b_2 => obind (w_ref7_Near (x.1, b.1, b_2)) fun b => cnd (decide ((List.length v.1 + List.length [b]) * (8:Nat) ≤
    (140737488355328:Nat))) (obind (w_ref7_Rising (v.1 ++ [b])) fun b_3 => obind (w_ref7_without (v.2, b)) fun b => some (Sum.inl (b_3, b))) none)
    (some (Sum.inr v))) (some (Sum.inr v))) b_1) fun (b_2 : List Int × List Int) => obind (loopN N (fun (v : List Int × List Int) => cnd (decide
    ((↑(List.length v.2) : Int) < x.2.2)) (cnd (decide (x.2.2 < (↑(List.length v.1) : Int))) (obind (w_ref7_without (v.1, b.1)) fun b_3 => obind
    (w_ref7_Near (x.1, b.2, b_3)) fun b => cnd (decide ((List.length v.2 + List.length [b]) * (8:Nat) ≤ (140737488355328:Nat))) (obind (w_ref7_Rising (v.2 ++ [b])) fun b_4 => obind (w_ref7_without (v.1, b)) fun b => some (Sum.inl (b, b_4))) none) (some (Sum.inr v))) (some (Sum.inr v))) b_2)
    fun (b : List Int × List Int) => some b)
theorem q_ref7_Split : ∀ w_ref7_without w_ref7_Near w_ref7_Rising N x, u_ref7_Split.F L0 P0 (orcOf [u_ref7_without.con w_ref7_without, u_ref7_Near.con w_ref7_Near, u_ref7_Rising.con w_ref7_Rising]) N x = V_ref7_Split w_ref7_without w_ref7_Near w_ref7_Rising N x := by intros; kernel_rfl
noncomputable def W_ref7_Split (N : Nat) := V_ref7_Split (W_ref7_without N) (W_ref7_Near N) (W_ref7_Rising N) N
theorem con_ref7_Split_ok (N : Nat) : (u_ref7_Split.con (W_ref7_Split N)).ok P0 := Uf.ok mixed (q_ref7_Split (W_ref7_without N) (W_ref7_Near N) (W_ref7_Rising N) N) ⟨con_ref7_without_ok N, con_ref7_Near_ok N, con_ref7_Rising_ok N, trivial⟩ Try.func78 (by kernel_rfl) fun x y => by kernel_rfl
noncomputable def u_ref7_parted : Uf := ⟨54, 42, Try.f54, [.val (.list (.list (.int .i64))), .val (.list (.agg (.pair (.list (.int .i64)) (.int .i64)))), .val (.int .i64), .val (.int .i64)], [],
⟨[(8, .val (.list (.agg (.pair (.list (.int .i64)) (.int .i64)))))], []⟩, [],
[],
[], fun y => (valW (.list (.agg (.pair (.list (.int .i64)) (.int .i64)))) y, [], [])⟩
noncomputable def V_ref7_parted (w_ref7_Split : (List (List Int)) × (List Int) × Int → Option ((List Int) × List Int)) (w_ref7_Of : (List (List Int)) × List Int → Option ((List Int) × Int)) (N : Nat) (x : (List (List Int)) × (List ((List Int) × Int)) × Int × Int) : Option (List ((List Int) × Int)) :=
  cnd (decide ((0:Int) ≤ x.2.2.1) && decide (x.2.2.1 < (↑(List.length x.2.1) : Int))) (obind (w_ref7_Split (x.1, Prod.fst (List.getD x.2.1 (Int.toNat
    x.2.2.1) ([], (0:Int))), x.2.2.2)) fun b => cnd (decide ((0:Int) ≤ x.2.2.1) && decide (x.2.2.1 ≤ (↑(List.length x.2.1) : Int))) (cnd (decide
    (List.length (List.drop (0:Nat) (List.take (Int.toNat x.2.2.1) x.2.1)) * (32:Nat) ≤ (140737488355328:Nat))) (obind (w_ref7_Of (x.1, b.1)) fun b_1
    => obind (w_ref7_Of (x.1, b.2)) fun b => cnd (decide ((List.length (List.drop (0:Nat) (List.take (Int.toNat x.2.2.1) x.2.1)) + List.length [b_1,
    b]) * (32:Nat) ≤ (140737488355328:Nat))) (cnd (decide ((0:Int) ≤ wr .i64 (x.2.2.1 + (1:Int))) && decide (wr .i64 (x.2.2.1 + (1:Int)) ≤
    (↑(List.length x.2.1) : Int))) (cnd (decide ((List.length (List.drop (0:Nat) (List.take (Int.toNat x.2.2.1) x.2.1) ++ [b_1, b]) + List.length
    (List.drop (Int.toNat (wr .i64 (x.2.2.1 + (1:Int)))) (List.take (List.length x.2.1) x.2.1))) * (32:Nat) ≤ (140737488355328:Nat))) (some (List.drop
    (0:Nat) (List.take (Int.toNat x.2.2.1) x.2.1) ++ [b_1, b] ++ List.drop (Int.toNat (wr .i64 (x.2.2.1 + (1:Int)))) (List.take (List.length x.2.1)
    x.2.1))) none) none) none) none) none) none
theorem q_ref7_parted : ∀ w_ref7_Split w_ref7_Of N x, u_ref7_parted.F L0 P0 (orcOf [u_ref7_Split.con w_ref7_Split, u_ref7_Of.con w_ref7_Of]) N x = V_ref7_parted w_ref7_Split w_ref7_Of N x := by intros; kernel_rfl
noncomputable def W_ref7_parted (N : Nat) := V_ref7_parted (W_ref7_Split N) (W_ref7_Of N) N
theorem con_ref7_parted_ok (N : Nat) : (u_ref7_parted.con (W_ref7_parted N)).ok P0 := Uf.ok mixed (q_ref7_parted (W_ref7_Split N) (W_ref7_Of N) N) ⟨con_ref7_Split_ok N, con_ref7_Of_ok N, trivial⟩ Try.func54 (by kernel_rfl) fun x y => by kernel_rfl
noncomputable def u_ref7_JoinClus : Uf := ⟨35, 70, Try.f35, [.val (.list (.list (.int .i64))), .val (.list (.agg (.pair (.list (.int .i64)) (.int .i64)))), .val (.int .i64), .val (.int .i64), .val (.int .i64)], [],
⟨[(10, .val (.list (.agg (.pair (.list (.int .i64)) (.int .i64)))))], []⟩, [],
[],
[(1000004, .reg [(8, [], ⟨[(11, .acc 700068), (30, .val .bool)], [(700068, .nrow 45 (.agg (.pair (.list (.int .i64)) (.int .i64))) false true)]⟩)])], fun y => (valW (.list (.agg (.pair (.list (.int .i64)) (.int .i64)))) y, [], [])⟩
noncomputable def V_ref7_JoinClus (w_ref7_Of : (List (List Int)) × List Int → Option ((List Int) × Int)) (w_ref7_Home : (List ((List Int) × Int)) × Int → Option (Int)) (w_ref7_Rising : List Int → Option (List Int)) (w_ref7_parted : (List (List Int)) × (List ((List Int) × Int)) × Int × Int → Option (List ((List Int) × Int))) (N : Nat) (x : (List (List Int)) × (List ((List Int) × Int)) × Int × Int × Int) : Option (List ((List Int) × Int)) :=
  cnd (decide (List.length x.2.1 * (32:Nat) ≤ (140737488355328:Nat))) (cnd (decide ((↑(List.length x.2.1) : Int) = (0:Int))) (obind (w_ref7_Of (x.1,
    [x.2.2.2.1])) fun b => some [b]) (obind (cnd (decide (x.2.2.1 < (0:Int))) (some (true, x.2.1)) (some (decide ((↑(List.length x.2.1) : Int) ≤
    x.2.2.1), x.2.1))) fun (b : Bool × List (List Int × Int)) => cnd b.1 (some b.2) (obind (w_ref7_Home (x.2.1, x.2.2.2.1)) fun b_1 => cnd (decide
    ((0:Int) ≤ b_1)) (some b.2) (cnd (decide ((0:Int) ≤ x.2.2.1) && decide (x.2.2.1 < (↑(List.length x.2.1) : Int))) (cnd (decide (List.length (Prod.fst
    (List.getD x.2.1 (Int.toNat x.2.2.1) ([], (0:Int)))) * (8:Nat) ≤ (140737488355328:Nat))) (cnd (decide ((List.length (Prod.fst (List.getD x.2.1
    (Int.toNat x.2.2.1) ([], (0:Int)))) + List.length [x.2.2.2.1]) * (8:Nat) ≤ (140737488355328:Nat))) (obind (w_ref7_Rising (Prod.fst (List.getD
    x.2.1 (Int.toNat x.2.2.1) ([], (0:Int))) ++ [x.2.2.2.1])) fun b_2 => obind (w_ref7_Of (x.1, b_2)) fun b_3 => cnd (decide ((0:Int) ≤ x.2.2.1) &&
    decide (x.2.2.1 < (↑(List.length b.2) : Int))) (cnd (decide ((0:Int) ≤ x.2.2.1) && decide (x.2.2.1 < (↑(List.length (putL b.2 [b_3] (Int.toNat
    x.2.2.1))) : Int))) (cnd (decide (wr .i64 (wr .i64 ((3:Int) * x.2.2.2.2) - (1:Int)) < (↑(List.length (Prod.fst (List.getD (putL b.2 [b_3] (Int.toNat
    x.2.2.1)) (Int.toNat x.2.2.1) ([], (0:Int))))) : Int))) (obind (w_ref7_parted (x.1, putL b.2 [b_3] (Int.toNat x.2.2.1), x.2.2.1, x.2.2.2.2)) fun b
    => some b) (some (putL b.2 [b_3] (Int.toNat x.2.2.1)))) none) none) none) none) none)))) none
theorem q_ref7_JoinClus : ∀ w_ref7_Of w_ref7_Home w_ref7_Rising w_ref7_parted N x, u_ref7_JoinClus.F L0 P0 (orcOf [u_ref7_Of.con w_ref7_Of, u_ref7_Home.con w_ref7_Home, u_ref7_Rising.con w_ref7_Rising, u_ref7_parted.con w_ref7_parted]) N x = V_ref7_JoinClus w_ref7_Of w_ref7_Home w_ref7_Rising w_ref7_parted N x := by intros; kernel_rfl
noncomputable def W_ref7_JoinClus (N : Nat) := V_ref7_JoinClus (W_ref7_Of N) (W_ref7_Home N) (W_ref7_Rising N) (W_ref7_parted N) N
theorem con_ref7_JoinClus_ok (N : Nat) : (u_ref7_JoinClus.con (W_ref7_JoinClus N)).ok P0 := Uf.ok mixed (q_ref7_JoinClus (W_ref7_Of N) (W_ref7_Home N) (W_ref7_Rising N) (W_ref7_parted N) N) ⟨con_ref7_Of_ok N, con_ref7_Home_ok N, con_ref7_Rising_ok N, con_ref7_parted_ok N, trivial⟩ Try.func35 (by kernel_rfl) fun x y => by kernel_rfl
noncomputable def u_ref7_leaders : Uf := ⟨51, 21, Try.f51, [.val (.list (.agg (.pair (.list (.int .i64)) (.int .i64))))], [],
⟨[(2, .val (.list (.int .i64)))], []⟩, [],
[(3, .loop [] ⟨[(3, .acc 700003), (4, .val (.int .i64))], [(700003, .nrow 3 (.int .i64) true true)]⟩ [(.exit 0, ⟨[(3, .val (.list (.int .i64)))], []⟩)])],
[], fun y => (valW (.list (.int .i64)) y, [], [])⟩
noncomputable def V_ref7_leaders (w_ref7_Rising : List Int → Option (List Int)) (N : Nat) (x : List ((List Int) × Int)) : Option (List Int) :=
  obind (loopN N (fun (v : Int × List Int) => cnd (decide (v.1 < (↑(List.length x) : Int))) (cnd (decide ((0:Int) ≤ v.1) && decide (v.1 < (↑(List.length
    x) : Int))) (cnd (decide ((List.length v.2 + (1:Nat)) * (8:Nat) ≤ (140737488355328:Nat))) (some (Sum.inl (wr .i64 (v.1 + (1:Int)), v.2 ++ [Prod.snd
    (List.getD x (Int.toNat v.1) ([], (0:Int)))]))) none) none) (some (Sum.inr v.2))) ((0:Int), [])) fun (b : List Int) => obind (w_ref7_Rising b) fun
    b => some b
theorem q_ref7_leaders : ∀ w_ref7_Rising N x, u_ref7_leaders.F L0 P0 (orcOf [u_ref7_Rising.con w_ref7_Rising]) N x = V_ref7_leaders w_ref7_Rising N x := by intros; kernel_rfl
noncomputable def W_ref7_leaders (N : Nat) := V_ref7_leaders (W_ref7_Rising N) N
theorem con_ref7_leaders_ok (N : Nat) : (u_ref7_leaders.con (W_ref7_leaders N)).ok P0 := Uf.ok mixed (q_ref7_leaders (W_ref7_Rising N) N) ⟨con_ref7_Rising_ok N, trivial⟩ Try.func51 (by kernel_rfl) fun x y => by kernel_rfl
noncomputable def u_ref7_Group : Uf := ⟨50, 38, Try.f50, [.val (.list (.list (.int .i64))), .val (.list (.int .i64)), .val (.int .i64)], [],
⟨[(6, .val (.list (.agg (.pair (.list (.int .i64)) (.int .i64)))))], []⟩, [],
[(7, .loop [] ⟨[(7, .val (.list (.agg (.pair (.list (.int .i64)) (.int .i64)))))], []⟩ [(.exit 2, ⟨[(7, .val (.list (.agg (.pair (.list (.int .i64)) (.int .i64)))))], []⟩)]),
(5, .loop [] ⟨[(7, .val (.list (.agg (.pair (.list (.int .i64)) (.int .i64))))), (8, .val (.int .i64))], []⟩ [(.exit 0, ⟨[(7, .val (.list (.agg (.pair (.list (.int .i64)) (.int .i64)))))], []⟩)])],
[], fun y => (valW (.list (.agg (.pair (.list (.int .i64)) (.int .i64)))) y, [], [])⟩
noncomputable def V_ref7_Group (w_ref7_Of : (List (List Int)) × List Int → Option ((List Int) × Int)) (w_ref7_parted : (List (List Int)) × (List ((List Int) × Int)) × Int × Int → Option (List ((List Int) × Int))) (N : Nat) (x : (List (List Int)) × (List Int) × Int) : Option (List ((List Int) × Int)) :=
  cnd (decide ((↑(List.length x.2.1) : Int) = (0:Int))) (some []) (obind (w_ref7_Of (x.1, x.2.1)) fun b => obind (loopN N (fun (v : List (List Int ×
    Int) × Int) => cnd (decide (v.2 < (↑(List.length v.1) : Int))) (obind (loopN N (fun (v_1 : List (List Int × Int)) => cnd (decide ((0:Int) ≤ v.2) &&
    decide (v.2 < (↑(List.length v_1) : Int))) (cnd (decide (wr .i64 (wr .i64 ((3:Int) * x.2.2) - (1:Int)) < (↑(List.length (Prod.fst (List.getD v_1
    (Int.toNat v.2) ([], (0:Int))))) : Int))) (obind (w_ref7_parted (x.1, v_1, v.2, x.2.2)) fun b => some (Sum.inl b)) (some (Sum.inr v_1))) none)
    v.1) fun (b : List (List Int × Int)) => some (Sum.inl (b, wr .i64 (v.2 + (1:Int))))) (some (Sum.inr v.1))) ([b], (0:Int))) fun (b : List (List Int ×
    Int)) => some b)
theorem q_ref7_Group : ∀ w_ref7_Of w_ref7_parted N x, u_ref7_Group.F L0 P0 (orcOf [u_ref7_Of.con w_ref7_Of, u_ref7_parted.con w_ref7_parted]) N x = V_ref7_Group w_ref7_Of w_ref7_parted N x := by intros; kernel_rfl
noncomputable def W_ref7_Group (N : Nat) := V_ref7_Group (W_ref7_Of N) (W_ref7_parted N) N
theorem con_ref7_Group_ok (N : Nat) : (u_ref7_Group.con (W_ref7_Group N)).ok P0 := Uf.ok mixed (q_ref7_Group (W_ref7_Of N) (W_ref7_parted N) N) ⟨con_ref7_Of_ok N, con_ref7_parted_ok N, trivial⟩ Try.func50 (by kernel_rfl) fun x y => by kernel_rfl
noncomputable def u_ref7_above : Uf := ⟨34, 31, Try.f34, [.val (.agg (.pair (.int .i64) (.pair (.list (.list (.int .i64))) (.list (.list (.agg (.pair (.list (.int .i64)) (.int .i64)))))))), .val (.list (.agg (.pair (.list (.int .i64)) (.int .i64))))], [],
⟨[(4, .ptr 600004 0)], [(600004, .box 38 (.val (.pair (.int .i64) (.pair (.list (.list (.int .i64))) (.list (.list (.agg (.pair (.list (.int .i64)) (.int .i64)))))))))]⟩, [],
[(2, .loop [] ⟨[(1, .val (.list (.agg (.pair (.list (.int .i64)) (.int .i64))))), (2, .ptr 600002 0), (4, .ptr 600004 0), (5, .ptr 600005 0)], [(600002, .box 38 (.val (.pair (.int .i64) (.pair (.list (.list (.int .i64))) (.list (.list (.agg (.pair (.list (.int .i64)) (.int .i64))))))))), (600004, .box 38 (.val (.pair (.int .i64) (.pair (.list (.list (.int .i64))) (.list (.list (.agg (.pair (.list (.int .i64)) (.int .i64))))))))), (600005, .box 38 (.pair (.val (.int .i64)) (.pair (.val (.list (.list (.int .i64)))) (.acc 603005)))), (603005, .nrow 43 (.list (.agg (.pair (.list (.int .i64)) (.int .i64)))) false true)]⟩ [(.exit 0, ⟨[(4, .ptr 600004 0), (5, .ptr 600005 0)], [(600004, .box 38 (.val (.pair (.int .i64) (.pair (.list (.list (.int .i64))) (.list (.list (.agg (.pair (.list (.int .i64)) (.int .i64))))))))), (600005, .box 38 (.pair (.val (.int .i64)) (.pair (.val (.list (.list (.int .i64)))) (.acc 603005)))), (603005, .nrow 43 (.list (.agg (.pair (.list (.int .i64)) (.int .i64)))) false true)]⟩)])],
[], fun y => (valW (.agg (.pair (.int .i64) (.pair (.list (.list (.int .i64))) (.list (.list (.agg (.pair (.list (.int .i64)) (.int .i64)))))))) y, [], [])⟩
noncomputable def V_ref7_above (w_ref7_leaders : List ((List Int) × Int) → Option (List Int)) (w_ref7_Group : (List (List Int)) × (List Int) × Int → Option (List ((List Int) × Int))) (N : Nat) (x : (Int × (List (List Int)) × List (List ((List Int) × Int))) × List ((List Int) × Int)) : Option (Int × (List (List Int)) × List (List ((List Int) × Int))) :=
  obind (loopN N (fun (v : List (List Int × Int) × (Int × List (List Int) × List (List (List Int × Int))) × (Int × List (List Int) × List (List (List
    Int × Int))) × Int × List (List Int) × List (List (List Int × Int))) => cnd (decide ((0:Int) < (↑(List.length v.1) : Int))) (cnd (decide
    ((List.length v.2.2.2.2.2 + List.length [v.1]) * (24:Nat) ≤ (140737488355328:Nat))) (cnd (decide ((↑(List.length v.1) : Int) = (1:Int))) (some
    (Sum.inr (v.2.2.1, v.2.2.2.1, v.2.2.2.2.1, v.2.2.2.2.2 ++ [v.1]))) (obind (w_ref7_leaders v.1) fun b => obind (w_ref7_Group (v.2.1.2.1, b,
    v.2.1.1)) fun b => some (Sum.inl (b, v.2.1, v.2.2.1, v.2.2.2.1, v.2.2.2.2.1, v.2.2.2.2.2 ++ [v.1])))) none) (some (Sum.inr v.2.2))) (x.2, x.1,
    ((0:Int), [], []), x.1.1, x.1.2.1, [])) fun (b : (Int × List (List Int) × List (List (List Int × Int))) × Int × List (List Int) × List (List (List
    Int × Int))) => some b.2
theorem q_ref7_above : ∀ w_ref7_leaders w_ref7_Group N x, u_ref7_above.F L0 P0 (orcOf [u_ref7_leaders.con w_ref7_leaders, u_ref7_Group.con w_ref7_Group]) N x = V_ref7_above w_ref7_leaders w_ref7_Group N x := by intros; kernel_rfl
noncomputable def W_ref7_above (N : Nat) := V_ref7_above (W_ref7_leaders N) (W_ref7_Group N) N
theorem con_ref7_above_ok (N : Nat) : (u_ref7_above.con (W_ref7_above N)).ok P0 := Uf.ok mixed (q_ref7_above (W_ref7_leaders N) (W_ref7_Group N) N) ⟨con_ref7_leaders_ok N, con_ref7_Group_ok N, trivial⟩ Try.func34 (by kernel_rfl) fun x y => by kernel_rfl
noncomputable def u_ref7_Join : Uf := ⟨18, 84, Try.f18, [.val (.agg (.pair (.int .i64) (.pair (.list (.list (.int .i64))) (.list (.list (.agg (.pair (.list (.int .i64)) (.int .i64)))))))), .val (.int .i64)], [],
⟨[(4, .ptr 600004 0)], [(600004, .box 38 (.val (.pair (.int .i64) (.pair (.list (.list (.int .i64))) (.list (.list (.agg (.pair (.list (.int .i64)) (.int .i64)))))))))]⟩, [],
[(5, .loop [] ⟨[(2, .ptr 600002 0), (4, .ptr 600004 0), (5, .val (.int .i64)), (6, .val (.int .i64))], [(600002, .box 38 (.val (.pair (.int .i64) (.pair (.list (.list (.int .i64))) (.list (.list (.agg (.pair (.list (.int .i64)) (.int .i64))))))))), (600004, .box 38 (.val (.pair (.int .i64) (.pair (.list (.list (.int .i64))) (.list (.list (.agg (.pair (.list (.int .i64)) (.int .i64)))))))))]⟩ [(.exit 0, ⟨[(2, .ptr 600002 0), (4, .ptr 600004 0), (5, .val (.int .i64))], [(600002, .box 38 (.val (.pair (.int .i64) (.pair (.list (.list (.int .i64))) (.list (.list (.agg (.pair (.list (.int .i64)) (.int .i64))))))))), (600004, .box 38 (.val (.pair (.int .i64) (.pair (.list (.list (.int .i64))) (.list (.list (.agg (.pair (.list (.int .i64)) (.int .i64)))))))))]⟩)])],
[(1000001, .reg [(8, [], ⟨[(2, .ptr 600002 0), (4, .ptr 600004 0), (16, .val .bool)], [(600002, .box 38 (.val (.pair (.int .i64) (.pair (.list (.list (.int .i64))) (.list (.list (.agg (.pair (.list (.int .i64)) (.int .i64))))))))), (600004, .box 38 (.val (.pair (.int .i64) (.pair (.list (.list (.int .i64))) (.list (.list (.agg (.pair (.list (.int .i64)) (.int .i64)))))))))]⟩), (4, [], ⟨[(2, .ptr 600002 0), (4, .ptr 600004 0), (20, .val .bool)], [(600002, .box 38 (.val (.pair (.int .i64) (.pair (.list (.list (.int .i64))) (.list (.list (.agg (.pair (.list (.int .i64)) (.int .i64))))))))), (600004, .box 38 (.val (.pair (.int .i64) (.pair (.list (.list (.int .i64))) (.list (.list (.agg (.pair (.list (.int .i64)) (.int .i64)))))))))]⟩)]),
(12, .cut [] [(.normal, ⟨[(2, .ptr 600002 0), (4, .ptr 600004 0), (8, .val (.list (.agg (.pair (.list (.int .i64)) (.int .i64)))))], [(600002, .box 38 (.val (.pair (.int .i64) (.pair (.list (.list (.int .i64))) (.list (.list (.agg (.pair (.list (.int .i64)) (.int .i64))))))))), (600004, .box 38 (.val (.pair (.int .i64) (.pair (.list (.list (.int .i64))) (.list (.list (.agg (.pair (.list (.int .i64)) (.int .i64)))))))))]⟩)])], fun y => (valW (.agg (.pair (.int .i64) (.pair (.list (.list (.int .i64))) (.list (.list (.agg (.pair (.list (.int .i64)) (.int .i64)))))))) y, [], [])⟩
noncomputable def V_ref7_Join (w_ref1_MayDist : List (List Int) → Option (Bool)) (w_ref7_Home : (List ((List Int) × Int)) × Int → Option (Int)) (w_ref7_Near : (List (List Int)) × Int × List Int → Option (Int)) (w_ref7_JoinClus : (List (List Int)) × (List ((List Int) × Int)) × Int × Int × Int → Option (List ((List Int) × Int))) (w_ref7_above : (Int × (List (List Int)) × List (List ((List Int) × Int))) × List ((List Int) × Int) → Option (Int × (List (List Int)) × List (List ((List Int) × Int)))) (N : Nat) (x : (Int × (List (List Int)) × List (List ((List Int) × Int))) × Int) : Option (Int × (List (List Int)) × List (List ((List Int) × Int))) :=
  obind (obind (w_ref1_MayDist x.1.2.1) fun b => cnd (!b) (some (true, x.1, (0:Int), [], [])) (some (decide (x.2 < (1:Int)), x.1, (0:Int), [], [])))
    fun (b : Bool × (Int × List (List Int) × List (List (List Int × Int))) × Int × List (List Int) × List (List (List Int × Int))) => obind (cnd b.1
    (some (true, b.2)) (some (decide ((8:Int) < x.2), b.2))) fun (b : Bool × (Int × List (List Int) × List (List (List Int × Int))) × Int × List (List
    Int) × List (List (List Int × Int))) => cnd b.1 (some b.2.1) (cnd (decide ((0:Int) < (↑(List.length b.2.1.2.2) : Int))) (cnd (decide ((0:Int) ≤
    (0:Int)) && decide ((0:Int) < (↑(List.length b.2.1.2.2) : Int))) (obind (w_ref7_Home (List.getD b.2.1.2.2 (0:Nat) [], x.2)) fun b_1 => cnd (decide
    ((0:Int) ≤ b_1)) (some b.2.1) (obind (loopN N (fun (v : Int × Int × (Int × List (List Int) × List (List (List Int × Int))) × Int × List (List Int) ×
    List (List (List Int × Int))) => cnd (decide ((0:Int) < v.2.1)) (cnd (decide ((0:Int) ≤ v.2.1) && decide (v.2.1 < (↑(List.length v.2.2.1.2.2) :
    Int))) (cnd (decide ((0:Int) ≤ v.1) && decide (v.1 < (↑(List.length (List.getD v.2.2.1.2.2 (Int.toNat v.2.1) [])) : Int))) (obind (w_ref7_Near
    (v.2.2.1.2.1, x.2, Prod.fst (List.getD (List.getD v.2.2.1.2.2 (Int.toNat v.2.1) []) (Int.toNat v.1) ([], (0:Int))))) fun b => cnd (decide ((0:Int) ≤
    wr .i64 (v.2.1 - (1:Int))) && decide (wr .i64 (v.2.1 - (1:Int)) < (↑(List.length v.2.2.1.2.2) : Int))) (obind (w_ref7_Home (List.getD v.2.2.1.2.2
    (Int.toNat (wr .i64 (v.2.1 - (1:Int)))) [], b)) fun b => some (Sum.inl (b, wr .i64 (v.2.1 - (1:Int)), v.2.2))) none) none) none) (some (Sum.inr
    (v.1, v.2.2)))) ((0:Int), wr .i64 ((↑(List.length b.2.1.2.2) : Int) - (1:Int)), b.2)) fun (b : Int × (Int × List (List Int) × List (List (List Int ×
    Int))) × Int × List (List Int) × List (List (List Int × Int))) => obind (cnd (decide ((0:Int) < (↑(List.length b.2.1.2.2) : Int))) (cnd (decide
    ((0:Int) ≤ (0:Int)) && decide ((0:Int) < (↑(List.length b.2.1.2.2) : Int))) (some (List.getD b.2.1.2.2 (0:Nat) [], b.2)) none) (some ([], b.2))) fun
    (b_2 : List (List Int × Int) × (Int × List (List Int) × List (List (List Int × Int))) × Int × List (List Int) × List (List (List Int × Int))) =>
    obind (w_ref7_JoinClus (b_2.2.1.2.1, b_2.1, b.1, x.2, b_2.2.1.1)) fun b => obind (w_ref7_above (b_2.2.1, b)) fun b => some b)) none) (obind
    (loopN N (fun (v : Int × Int × (Int × List (List Int) × List (List (List Int × Int))) × Int × List (List Int) × List (List (List Int × Int))) => cnd
    (decide ((0:Int) < v.2.1)) (cnd (decide ((0:Int) ≤ v.2.1) && decide (v.2.1 < (↑(List.length v.2.2.1.2.2) : Int))) (cnd (decide ((0:Int) ≤ v.1) &&
    decide (v.1 < (↑(List.length (List.getD v.2.2.1.2.2 (Int.toNat v.2.1) [])) : Int))) (obind (w_ref7_Near (v.2.2.1.2.1, x.2, Prod.fst (List.getD
    (List.getD v.2.2.1.2.2 (Int.toNat v.2.1) []) (Int.toNat v.1) ([], (0:Int))))) fun b => cnd (decide ((0:Int) ≤ wr .i64 (v.2.1 - (1:Int))) && decide
    (wr .i64 (v.2.1 - (1:Int)) < (↑(List.length v.2.2.1.2.2) : Int))) (obind (w_ref7_Home (List.getD v.2.2.1.2.2 (Int.toNat (wr .i64 (v.2.1 -
    (1:Int)))) [], b)) fun b => some (Sum.inl (b, wr .i64 (v.2.1 - (1:Int)), v.2.2))) none) none) none) (some (Sum.inr (v.1, v.2.2)))) ((0:Int), wr .i64
    ((↑(List.length b.2.1.2.2) : Int) - (1:Int)), b.2)) fun (b : Int × (Int × List (List Int) × List (List (List Int × Int))) × Int × List (List Int) ×
    List (List (List Int × Int))) => obind (cnd (decide ((0:Int) < (↑(List.length b.2.1.2.2) : Int))) (cnd (decide ((0:Int) ≤ (0:Int)) && decide
    ((0:Int) < (↑(List.length b.2.1.2.2) : Int))) (some (List.getD b.2.1.2.2 (0:Nat) [], b.2)) none) (some ([], b.2))) fun (b_1 : List (List Int × Int)
    × (Int × List (List Int) × List (List (List Int × Int))) × Int × List (List Int) × List (List (List Int × Int))) => obind (w_ref7_JoinClus
    (b_1.2.1.2.1, b_1.1, b.1, x.2, b_1.2.1.1)) fun b => obind (w_ref7_above (b_1.2.1, b)) fun b => some b))
theorem q_ref7_Join : ∀ w_ref1_MayDist w_ref7_Home w_ref7_Near w_ref7_JoinClus w_ref7_above N x, u_ref7_Join.F L0 P0 (orcOf [u_ref1_MayDist.con w_ref1_MayDist, u_ref7_Home.con w_ref7_Home, u_ref7_Near.con w_ref7_Near, u_ref7_JoinClus.con w_ref7_JoinClus, u_ref7_above.con w_ref7_above]) N x = V_ref7_Join w_ref1_MayDist w_ref7_Home w_ref7_Near w_ref7_JoinClus w_ref7_above N x := by intros; kernel_rfl
noncomputable def W_ref7_Join (N : Nat) := V_ref7_Join (W_ref1_MayDist N) (W_ref7_Home N) (W_ref7_Near N) (W_ref7_JoinClus N) (W_ref7_above N) N
theorem con_ref7_Join_ok (N : Nat) : (u_ref7_Join.con (W_ref7_Join N)).ok P0 := Uf.ok mixed (q_ref7_Join (W_ref1_MayDist N) (W_ref7_Home N) (W_ref7_Near N) (W_ref7_JoinClus N) (W_ref7_above N) N) ⟨con_ref1_MayDist_ok N, con_ref7_Home_ok N, con_ref7_Near_ok N, con_ref7_JoinClus_ok N, con_ref7_above_ok N, trivial⟩ Try.func18 (by kernel_rfl) fun x y => by kernel_rfl
noncomputable def u_ref1_SameInts : Uf := ⟨26, 26, Try.f26, [.val (.list (.int .i64)), .val (.list (.int .i64))], [],
⟨[(4, .val .bool)], []⟩, [],
[(4, .loop [] ⟨[(5, .val (.int .i64))], []⟩ [(.exit 0, ⟨[], []⟩), (.ret, ⟨[(4, .val .bool)], []⟩)])],
[], fun y => (valW .bool y, [], [])⟩
noncomputable def V_ref1_SameInts (N : Nat) (x : (List Int) × List Int) : Option (Bool) :=
  cnd (decide ((↑(List.length x.1) : Int) ≠ (↑(List.length x.2) : Int))) (some false) (obind (loopN N (fun (v : Int) => cnd (decide (v < (↑(List.length
    x.1) : Int))) (cnd (decide ((0:Int) ≤ v) && decide (v < (↑(List.length x.1) : Int))) (cnd (decide ((0:Int) ≤ v) && decide (v < (↑(List.length x.2) :
    Int))) (cnd (decide (List.getD x.1 (Int.toNat v) (0:Int) ≠ List.getD x.2 (Int.toNat v) (0:Int))) (some (Sum.inr (Sum.inr false))) (some (Sum.inl (wr
    .i64 (v + (1:Int)))))) none) none) (some (Sum.inr (Sum.inl ())))) (Int.ofNat (0:Nat))) fun (b : PUnit ⊕ Bool) => selim (fun (b : PUnit) => some
    true) (fun (c : Bool) => some c) b)
theorem q_ref1_SameInts : ∀ N x, u_ref1_SameInts.F L0 P0 (orcOf []) N x = V_ref1_SameInts N x := by intros; kernel_rfl
noncomputable def W_ref1_SameInts (N : Nat) := V_ref1_SameInts N
theorem con_ref1_SameInts_ok (N : Nat) : (u_ref1_SameInts.con (W_ref1_SameInts N)).ok P0 := Uf.ok mixed (q_ref1_SameInts N) trivial Try.func26 (by kernel_rfl) fun x y => by kernel_rfl
noncomputable def u_ref1_SameDist : Uf := ⟨13, 27, Try.f13, [.val (.list (.list (.int .i64))), .val (.list (.list (.int .i64)))], [],
⟨[(4, .val .bool)], []⟩, [],
[(4, .loop [] ⟨[(5, .val (.int .i64))], []⟩ [(.exit 0, ⟨[], []⟩), (.ret, ⟨[(4, .val .bool)], []⟩)])],
[], fun y => (valW .bool y, [], [])⟩
noncomputable def V_ref1_SameDist (w_ref1_SameInts : (List Int) × List Int → Option (Bool)) (N : Nat) (x : (List (List Int)) × List (List Int)) : Option (Bool) :=
  cnd (decide ((↑(List.length x.1) : Int) ≠ (↑(List.length x.2) : Int))) (some false) (obind (loopN N (fun (v : Int) => cnd (decide (v < (↑(List.length
    x.1) : Int))) (cnd (decide ((0:Int) ≤ v) && decide (v < (↑(List.length x.1) : Int))) (cnd (decide ((0:Int) ≤ v) && decide (v < (↑(List.length x.2) :
    Int))) (obind (w_ref1_SameInts (List.getD x.1 (Int.toNat v) [], List.getD x.2 (Int.toNat v) [])) fun b => cnd (!b) (some (Sum.inr (Sum.inr
    false))) (some (Sum.inl (wr .i64 (v + (1:Int)))))) none) none) (some (Sum.inr (Sum.inl ())))) (Int.ofNat (0:Nat))) fun (b : PUnit ⊕ Bool) => selim
    (fun (b : PUnit) => some true) (fun (c : Bool) => some c) b)
theorem q_ref1_SameDist : ∀ w_ref1_SameInts N x, u_ref1_SameDist.F L0 P0 (orcOf [u_ref1_SameInts.con w_ref1_SameInts]) N x = V_ref1_SameDist w_ref1_SameInts N x := by intros; kernel_rfl
noncomputable def W_ref1_SameDist (N : Nat) := V_ref1_SameDist (W_ref1_SameInts N) N
theorem con_ref1_SameDist_ok (N : Nat) : (u_ref1_SameDist.con (W_ref1_SameDist N)).ok P0 := Uf.ok mixed (q_ref1_SameDist (W_ref1_SameInts N) N) ⟨con_ref1_SameInts_ok N, trivial⟩ Try.func13 (by kernel_rfl) fun x y => by kernel_rfl
noncomputable def u_ref7_SameClusters : Uf := ⟨64, 42, Try.f64, [.val (.list (.agg (.pair (.list (.int .i64)) (.int .i64)))), .val (.list (.agg (.pair (.list (.int .i64)) (.int .i64))))], [],
⟨[(4, .val .bool)], []⟩, [],
[(4, .loop [] ⟨[(5, .val (.int .i64))], []⟩ [(.exit 0, ⟨[], []⟩), (.ret, ⟨[(4, .val .bool)], []⟩)])],
[], fun y => (valW .bool y, [], [])⟩
noncomputable def V_ref7_SameClusters (w_ref1_SameInts : (List Int) × List Int → Option (Bool)) (N : Nat) (x : (List ((List Int) × Int)) × List ((List Int) × Int)) : Option (Bool) :=
  cnd (decide ((↑(List.length x.1) : Int) ≠ (↑(List.length x.2) : Int))) (some false) (obind (loopN N (fun (v : Int) => cnd (decide (v < (↑(List.length
    x.1) : Int))) (cnd (decide ((0:Int) ≤ v) && decide (v < (↑(List.length x.1) : Int))) (cnd (decide ((0:Int) ≤ v) && decide (v < (↑(List.length x.2) :
    Int))) (cnd (decide (Prod.snd (List.getD x.1 (Int.toNat v) ([], (0:Int))) ≠ Prod.snd (List.getD x.2 (Int.toNat v) ([], (0:Int))))) (some (Sum.inr
    (Sum.inr false))) (cnd (decide ((0:Int) ≤ v) && decide (v < (↑(List.length x.1) : Int))) (cnd (decide ((0:Int) ≤ v) && decide (v < (↑(List.length
    x.2) : Int))) (obind (w_ref1_SameInts (Prod.fst (List.getD x.1 (Int.toNat v) ([], (0:Int))), Prod.fst (List.getD x.2 (Int.toNat v) ([],
    (0:Int))))) fun b => cnd (!b) (some (Sum.inr (Sum.inr false))) (some (Sum.inl (wr .i64 (v + (1:Int)))))) none) none)) none) none) (some (Sum.inr
    (Sum.inl ())))) (Int.ofNat (0:Nat))) fun (b : PUnit ⊕ Bool) => selim (fun (b : PUnit) => some true) (fun (c : Bool) => some c) b)
theorem q_ref7_SameClusters : ∀ w_ref1_SameInts N x, u_ref7_SameClusters.F L0 P0 (orcOf [u_ref1_SameInts.con w_ref1_SameInts]) N x = V_ref7_SameClusters w_ref1_SameInts N x := by intros; kernel_rfl
noncomputable def W_ref7_SameClusters (N : Nat) := V_ref7_SameClusters (W_ref1_SameInts N) N
theorem con_ref7_SameClusters_ok (N : Nat) : (u_ref7_SameClusters.con (W_ref7_SameClusters N)).ok P0 := Uf.ok mixed (q_ref7_SameClusters (W_ref1_SameInts N) N) ⟨con_ref1_SameInts_ok N, trivial⟩ Try.func64 (by kernel_rfl) fun x y => by kernel_rfl
noncomputable def u_ref7_SameHier : Uf := ⟨44, 47, Try.f44, [.val (.agg (.pair (.int .i64) (.pair (.list (.list (.int .i64))) (.list (.list (.agg (.pair (.list (.int .i64)) (.int .i64)))))))), .val (.agg (.pair (.int .i64) (.pair (.list (.list (.int .i64))) (.list (.list (.agg (.pair (.list (.int .i64)) (.int .i64))))))))], [],
⟨[(4, .val .bool)], []⟩, [],
[(4, .loop [] ⟨[(2, .ptr 600002 0), (3, .ptr 600003 0), (5, .val (.int .i64))], [(600002, .box 38 (.val (.pair (.int .i64) (.pair (.list (.list (.int .i64))) (.list (.list (.agg (.pair (.list (.int .i64)) (.int .i64))))))))), (600003, .box 38 (.val (.pair (.int .i64) (.pair (.list (.list (.int .i64))) (.list (.list (.agg (.pair (.list (.int .i64)) (.int .i64)))))))))]⟩ [(.exit 0, ⟨[], []⟩), (.ret, ⟨[(4, .val .bool)], []⟩)])],
[(1000001, .reg [(13, [], ⟨[(2, .ptr 600002 0), (3, .ptr 600003 0), (18, .val .bool)], [(600002, .box 38 (.val (.pair (.int .i64) (.pair (.list (.list (.int .i64))) (.list (.list (.agg (.pair (.list (.int .i64)) (.int .i64))))))))), (600003, .box 38 (.val (.pair (.int .i64) (.pair (.list (.list (.int .i64))) (.list (.list (.agg (.pair (.list (.int .i64)) (.int .i64)))))))))]⟩)])], fun y => (valW .bool y, [], [])⟩
noncomputable def V_ref7_SameHier (w_ref1_SameDist : (List (List Int)) × List (List Int) → Option (Bool)) (w_ref7_SameClusters : (List ((List Int) × Int)) × List ((List Int) × Int) → Option (Bool)) (N : Nat) (x : (Int × (List (List Int)) × List (List ((List Int) × Int))) × Int × (List (List Int)) × List (List ((List Int) × Int))) : Option (Bool) :=
  obind (cnd (decide (x.1.1 ≠ x.2.1)) (some (true, x)) (obind (w_ref1_SameDist (x.1.2.1, x.2.2.1)) fun b => some (!b, x))) fun (b : Bool × (Int × List
    (List Int) × List (List (List Int × Int))) × Int × List (List Int) × List (List (List Int × Int))) => cnd b.1 (some false) (cnd (decide
    ((↑(List.length b.2.1.2.2) : Int) ≠ (↑(List.length b.2.2.2.2) : Int))) (some false) (obind (loopN N (fun (v : Int × (Int × List (List Int) × List
    (List (List Int × Int))) × Int × List (List Int) × List (List (List Int × Int))) => cnd (decide (v.1 < (↑(List.length v.2.1.2.2) : Int))) (cnd
    (decide ((0:Int) ≤ v.1) && decide (v.1 < (↑(List.length v.2.1.2.2) : Int))) (cnd (decide ((0:Int) ≤ v.1) && decide (v.1 < (↑(List.length v.2.2.2.2)
    : Int))) (obind (w_ref7_SameClusters (List.getD v.2.1.2.2 (Int.toNat v.1) [], List.getD v.2.2.2.2 (Int.toNat v.1) [])) fun b => cnd (!b) (some
    (Sum.inr (Sum.inr false))) (some (Sum.inl (wr .i64 (v.1 + (1:Int)), v.2)))) none) none) (some (Sum.inr (Sum.inl ())))) ((0:Int), b.2)) fun (b :
    PUnit ⊕ Bool) => selim (fun (b : PUnit) => some true) (fun (c : Bool) => some c) b))
theorem q_ref7_SameHier : ∀ w_ref1_SameDist w_ref7_SameClusters N x, u_ref7_SameHier.F L0 P0 (orcOf [u_ref1_SameDist.con w_ref1_SameDist, u_ref7_SameClusters.con w_ref7_SameClusters]) N x = V_ref7_SameHier w_ref1_SameDist w_ref7_SameClusters N x := by intros; kernel_rfl
noncomputable def W_ref7_SameHier (N : Nat) := V_ref7_SameHier (W_ref1_SameDist N) (W_ref7_SameClusters N) N
theorem con_ref7_SameHier_ok (N : Nat) : (u_ref7_SameHier.con (W_ref7_SameHier N)).ok P0 := Uf.ok mixed (q_ref7_SameHier (W_ref1_SameDist N) (W_ref7_SameClusters N) N) ⟨con_ref1_SameDist_ok N, con_ref7_SameClusters_ok N, trivial⟩ Try.func44 (by kernel_rfl) fun x y => by kernel_rfl
noncomputable def u_ref7_May : Uf := ⟨20, 132, Try.f20, [.val (.agg (.pair (.int .i64) (.pair (.list (.list (.int .i64))) (.list (.list (.agg (.pair (.list (.int .i64)) (.int .i64))))))))], [],
⟨[(2, .val .bool)], []⟩, [],
[(15, .loop [5, 8] ⟨[(1, .ptr 600001 0), (6, .acc 700006), (9, .val (.int .i64))], [(600001, .box 38 (.val (.pair (.int .i64) (.pair (.list (.list (.int .i64))) (.list (.list (.agg (.pair (.list (.int .i64)) (.int .i64))))))))), (700006, .nrow 3 (.int .i64) true true)]⟩ [(.exit 2, ⟨[(1, .ptr 600001 0), (6, .acc 700006)], [(600001, .box 38 (.val (.pair (.int .i64) (.pair (.list (.list (.int .i64))) (.list (.list (.agg (.pair (.list (.int .i64)) (.int .i64))))))))), (700006, .nrow 3 (.int .i64) true true)]⟩), (.ret, ⟨[(2, .val .bool)], []⟩)]),
(9, .loop [5] ⟨[(1, .ptr 600001 0), (6, .acc 700006), (7, .val (.int .i64))], [(600001, .box 38 (.val (.pair (.int .i64) (.pair (.list (.list (.int .i64))) (.list (.list (.agg (.pair (.list (.int .i64)) (.int .i64))))))))), (700006, .nrow 3 (.int .i64) true true)]⟩ [(.exit 0, ⟨[(1, .ptr 600001 0)], [(600001, .box 38 (.val (.pair (.int .i64) (.pair (.list (.list (.int .i64))) (.list (.list (.agg (.pair (.list (.int .i64)) (.int .i64)))))))))]⟩), (.ret, ⟨[(2, .val .bool)], []⟩)])],
[(1000012, .reg [(12, [5, 8], ⟨[(1, .ptr 600001 0), (6, .acc 700006), (50, .val .bool)], [(600001, .box 38 (.val (.pair (.int .i64) (.pair (.list (.list (.int .i64))) (.list (.list (.agg (.pair (.list (.int .i64)) (.int .i64))))))))), (700006, .nrow 3 (.int .i64) true true)]⟩)]),
(14, .cut [5, 8] [(.normal, ⟨[(1, .ptr 600001 0), (6, .acc 700006)], [(600001, .box 38 (.val (.pair (.int .i64) (.pair (.list (.list (.int .i64))) (.list (.list (.agg (.pair (.list (.int .i64)) (.int .i64))))))))), (700006, .nrow 3 (.int .i64) true true)]⟩), (.ret, ⟨[(2, .val .bool)], []⟩)])], fun y => (valW .bool y, [], [])⟩
noncomputable def V_ref7_May (w_ref7_New : (List (List Int)) × Int → Option (Bool × Int × (List (List Int)) × List (List ((List Int) × Int)))) (w_ref1_Has : (List Int) × Int → Option (Bool)) (w_ref7_Mid : (List (List Int)) × List Int → Option (Int)) (w_ref7_above : (Int × (List (List Int)) × List (List ((List Int) × Int))) × List ((List Int) × Int) → Option (Int × (List (List Int)) × List (List ((List Int) × Int)))) (w_ref7_SameHier : (Int × (List (List Int)) × List (List ((List Int) × Int))) × Int × (List (List Int)) × List (List ((List Int) × Int)) → Option (Bool)) (N : Nat) (x : Int × (List (List Int)) × List (List ((List Int) × Int))) : Option (Bool) :=
  obind (w_ref7_New (x.2.1, x.1)) fun b => cnd (!b.1) (some false) (cnd (decide ((↑(List.length x.2.2) : Int) = (0:Int))) (some true) (cnd (decide
    ((0:Int) ≤ (0:Int)) && decide ((0:Int) < (↑(List.length x.2.2) : Int))) (obind (loopN N (fun (v : Int × (Int × List (List Int) × List (List (List
    Int × Int))) × List Int) => cnd (decide (v.1 < (↑(List.length (List.getD x.2.2 (0:Nat) [])) : Int))) (cnd (decide ((0:Int) ≤ v.1) && decide (v.1 <
    (↑(List.length (List.getD x.2.2 (0:Nat) [])) : Int))) (obind (obind (cnd (decide ((↑(List.length (Prod.fst (List.getD (List.getD x.2.2 (0:Nat) [])
    (Int.toNat v.1) ([], (0:Int))))) : Int) < (1:Int))) (some (true, v.2)) (some (decide (wr .i64 (wr .i64 ((3:Int) * v.2.1.1) - (1:Int)) <
    (↑(List.length (Prod.fst (List.getD (List.getD x.2.2 (0:Nat) []) (Int.toNat v.1) ([], (0:Int))))) : Int)), v.2))) fun (b : Bool × (Int × List (List
    Int) × List (List (List Int × Int))) × List Int) => cnd b.1 (some (Sum.inr false)) (cnd (decide ((1:Int) < (↑(List.length (List.getD x.2.2 (0:Nat)
    [])) : Int))) (cnd (decide ((↑(List.length (Prod.fst (List.getD (List.getD x.2.2 (0:Nat) []) (Int.toNat v.1) ([], (0:Int))))) : Int) < b.2.1.1))
    (some (Sum.inr false)) (some (Sum.inl b.2))) (some (Sum.inl b.2)))) fun (b : (Int × List (List Int) × List (List (List Int × Int))) × List Int ⊕
    Bool) => selim (fun (b : (Int × List (List Int) × List (List (List Int × Int))) × List Int) => obind (loopN N (fun (v_1 : Int × (Int × List (List
    Int) × List (List (List Int × Int))) × List Int) => cnd (decide (v_1.1 < (↑(List.length (Prod.fst (List.getD (List.getD x.2.2 (0:Nat) []) (Int.toNat
    v.1) ([], (0:Int))))) : Int))) (cnd (decide ((0:Int) ≤ v_1.1) && decide (v_1.1 < (↑(List.length (Prod.fst (List.getD (List.getD x.2.2 (0:Nat) [])
    (Int.toNat v.1) ([], (0:Int))))) : Int))) (cnd (decide (List.getD (Prod.fst (List.getD (List.getD x.2.2 (0:Nat) []) (Int.toNat v.1) ([], (0:Int))))
    (Int.toNat v_1.1) (0:Int) < (1:Int))) (some (Sum.inr (Sum.inr false))) (cnd (decide ((0:Int) ≤ v_1.1) && decide (v_1.1 < (↑(List.length (Prod.fst
    (List.getD (List.getD x.2.2 (0:Nat) []) (Int.toNat v.1) ([], (0:Int))))) : Int))) (cnd (decide ((8:Int) < List.getD (Prod.fst (List.getD (List.getD
    x.2.2 (0:Nat) []) (Int.toNat v.1) ([], (0:Int)))) (Int.toNat v_1.1) (0:Int))) (some (Sum.inr (Sum.inr false))) (cnd (decide ((0:Int) < v_1.1)) (cnd
    (decide ((0:Int) ≤ v_1.1) && decide (v_1.1 < (↑(List.length (Prod.fst (List.getD (List.getD x.2.2 (0:Nat) []) (Int.toNat v.1) ([], (0:Int))))) :
    Int))) (cnd (decide ((0:Int) ≤ wr .i64 (v_1.1 - (1:Int))) && decide (wr .i64 (v_1.1 - (1:Int)) < (↑(List.length (Prod.fst (List.getD (List.getD
    x.2.2 (0:Nat) []) (Int.toNat v.1) ([], (0:Int))))) : Int))) (cnd (decide (List.getD (Prod.fst (List.getD (List.getD x.2.2 (0:Nat) []) (Int.toNat
    v.1) ([], (0:Int)))) (Int.toNat v_1.1) (0:Int) ≤ List.getD (Prod.fst (List.getD (List.getD x.2.2 (0:Nat) []) (Int.toNat v.1) ([], (0:Int))))
    (Int.toNat (wr .i64 (v_1.1 - (1:Int)))) (0:Int))) (some (Sum.inr (Sum.inr false))) (cnd (decide ((0:Int) ≤ v_1.1) && decide (v_1.1 < (↑(List.length
    (Prod.fst (List.getD (List.getD x.2.2 (0:Nat) []) (Int.toNat v.1) ([], (0:Int))))) : Int))) (obind (w_ref1_Has (v_1.2.2, List.getD (Prod.fst
    (List.getD (List.getD x.2.2 (0:Nat) []) (Int.toNat v.1) ([], (0:Int)))) (Int.toNat v_1.1) (0:Int))) fun b => cnd b (some (Sum.inr (Sum.inr false)))
    (cnd (decide ((0:Int) ≤ v_1.1) && decide (v_1.1 < (↑(List.length (Prod.fst (List.getD (List.getD x.2.2 (0:Nat) []) (Int.toNat v.1) ([], (0:Int)))))
    : Int))) (cnd (decide ((List.length v_1.2.2 + (1:Nat)) * (8:Nat) ≤ (140737488355328:Nat))) (some (Sum.inl (wr .i64 (v_1.1 + (1:Int)), v_1.2.1,
    v_1.2.2 ++ [List.getD (Prod.fst (List.getD (List.getD x.2.2 (0:Nat) []) (Int.toNat v.1) ([], (0:Int)))) (Int.toNat v_1.1) (0:Int)]))) none) none))
    none)) none) none) (cnd (decide ((0:Int) ≤ v_1.1) && decide (v_1.1 < (↑(List.length (Prod.fst (List.getD (List.getD x.2.2 (0:Nat) []) (Int.toNat
    v.1) ([], (0:Int))))) : Int))) (obind (w_ref1_Has (v_1.2.2, List.getD (Prod.fst (List.getD (List.getD x.2.2 (0:Nat) []) (Int.toNat v.1) ([],
    (0:Int)))) (Int.toNat v_1.1) (0:Int))) fun b => cnd b (some (Sum.inr (Sum.inr false))) (cnd (decide ((0:Int) ≤ v_1.1) && decide (v_1.1 <
    (↑(List.length (Prod.fst (List.getD (List.getD x.2.2 (0:Nat) []) (Int.toNat v.1) ([], (0:Int))))) : Int))) (cnd (decide ((List.length v_1.2.2 +
    (1:Nat)) * (8:Nat) ≤ (140737488355328:Nat))) (some (Sum.inl (wr .i64 (v_1.1 + (1:Int)), v_1.2.1, v_1.2.2 ++ [List.getD (Prod.fst (List.getD
    (List.getD x.2.2 (0:Nat) []) (Int.toNat v.1) ([], (0:Int)))) (Int.toNat v_1.1) (0:Int)]))) none) none)) none))) none)) none) (some (Sum.inr (Sum.inl
    v_1.2)))) ((0:Int), b)) fun (b : (Int × List (List Int) × List (List (List Int × Int))) × List Int ⊕ Bool) => selim (fun (b : (Int × List (List Int)
    × List (List (List Int × Int))) × List Int) => cnd (decide ((0:Int) ≤ v.1) && decide (v.1 < (↑(List.length (List.getD x.2.2 (0:Nat) [])) : Int)))
    (obind (w_ref7_Mid (b.1.2.1, Prod.fst (List.getD (List.getD x.2.2 (0:Nat) []) (Int.toNat v.1) ([], (0:Int))))) fun b_1 => cnd (decide (Prod.snd
    (List.getD (List.getD x.2.2 (0:Nat) []) (Int.toNat v.1) ([], (0:Int))) ≠ b_1)) (some (Sum.inr (Sum.inr false))) (some (Sum.inl (wr .i64 (v.1 +
    (1:Int)), b)))) none) (fun (c : Bool) => some (Sum.inr (Sum.inr c))) b) (fun (c : Bool) => some (Sum.inr (Sum.inr c))) b) none) (some (Sum.inr
    (Sum.inl v.2.1)))) ((0:Int), x, [])) fun (b : Int × List (List Int) × List (List (List Int × Int)) ⊕ Bool) => selim (fun (b : Int × List (List Int)
    × List (List (List Int × Int))) => cnd (decide ((0:Int) < (↑(List.length (List.getD x.2.2 (0:Nat) [])) : Int))) (obind (w_ref7_above (b, List.getD
    x.2.2 (0:Nat) [])) fun b_1 => obind (w_ref7_SameHier (b_1, b)) fun b => some b) (some false)) (fun (c : Bool) => some c) b) none))
theorem q_ref7_May : ∀ w_ref7_New w_ref1_Has w_ref7_Mid w_ref7_above w_ref7_SameHier N x, u_ref7_May.F L0 P0 (orcOf [u_ref7_New.con w_ref7_New, u_ref1_Has.con w_ref1_Has, u_ref7_Mid.con w_ref7_Mid, u_ref7_above.con w_ref7_above, u_ref7_SameHier.con w_ref7_SameHier]) N x = V_ref7_May w_ref7_New w_ref1_Has w_ref7_Mid w_ref7_above w_ref7_SameHier N x := by intros; kernel_rfl
noncomputable def W_ref7_May (N : Nat) := V_ref7_May (W_ref7_New N) (W_ref1_Has N) (W_ref7_Mid N) (W_ref7_above N) (W_ref7_SameHier N) N
theorem con_ref7_May_ok (N : Nat) : (u_ref7_May.con (W_ref7_May N)).ok P0 := Uf.ok mixed (q_ref7_May (W_ref7_New N) (W_ref1_Has N) (W_ref7_Mid N) (W_ref7_above N) (W_ref7_SameHier N) N) ⟨con_ref7_New_ok N, con_ref1_Has_ok N, con_ref7_Mid_ok N, con_ref7_above_ok N, con_ref7_SameHier_ok N, trivial⟩ Try.func20 (by kernel_rfl) fun x y => by kernel_rfl
noncomputable def u_law9_HierMay : Uf := ⟨5, 171, Try.f5, [.val (.list (.int .u8)), .val (.int .u8), .val (.int .u8), .val (.int .u8), .val (.int .i64)], [],
⟨[(10, .val .bool)], []⟩, [],
[(7, .loop [] ⟨[(11, .ptr 600011 0), (13, .val (.int .i64))], [(600011, .box 38 (.val (.pair (.int .i64) (.pair (.list (.list (.int .i64))) (.list (.list (.agg (.pair (.list (.int .i64)) (.int .i64)))))))))]⟩ [(.exit 0, ⟨[(11, .ptr 600011 0)], [(600011, .box 38 (.val (.pair (.int .i64) (.pair (.list (.list (.int .i64))) (.list (.list (.agg (.pair (.list (.int .i64)) (.int .i64)))))))))]⟩)])],
[(40, .cut [] [(.normal, ⟨[(11, .ptr 600011 0), (14, .ptr 600014 0)], [(600011, .box 38 (.val (.pair (.int .i64) (.pair (.list (.list (.int .i64))) (.list (.list (.agg (.pair (.list (.int .i64)) (.int .i64))))))))), (600014, .box 38 (.val (.pair (.int .i64) (.pair (.list (.list (.int .i64))) (.list (.list (.agg (.pair (.list (.int .i64)) (.int .i64)))))))))]⟩)])], fun y => (valW .bool y, [], [])⟩
noncomputable def V_law9_HierMay (w_law9_begun : Unit → Option (Bool)) (w_Made : List Int → Option ((List Int) × Int)) (w_Picks_Dist : (List Int) × Int → Option ((List (List Int)) × (List Int) × Int)) (w_ref7_New : (List (List Int)) × Int → Option (Bool × Int × (List (List Int)) × List (List ((List Int) × Int)))) (w_ref7_Join : (Int × (List (List Int)) × List (List ((List Int) × Int))) × Int → Option (Int × (List (List Int)) × List (List ((List Int) × Int)))) (w_hier_May : Int × (List (List Int)) × List (List ((List Int) × Int)) → Option (Bool)) (w_ref7_May : Int × (List (List Int)) × List (List ((List Int) × Int)) → Option (Bool)) (w_ref1_MayDist : List (List Int) → Option (Bool)) (N : Nat) (x : (List Int) × Int × Int × Int × Int) : Option (Bool) :=
  obind (w_law9_begun ()) fun b => cnd (!b) (some false) (cnd (decide ((30:Int) < (↑(List.length x.1) : Int))) (some true) (obind (w_Made x.1) fun b
    => obind (w_Picks_Dist b) fun b => obind (w_ref7_New (b.1, wr .i64 ((1:Int) + wr .i64 (Int.tmod x.2.2.1 (3:Int))))) fun b => obind (loopN N (fun
    (v : Int × Int × List (List Int) × List (List (List Int × Int))) => cnd (decide (v.1 < (8:Int))) (cnd (!decide (v.1 < (0:Int))) (cnd (decide (wr .u8
    (↑(BitVec.toNat (BitVec.ofInt (8:Nat) (Int.fdiv x.2.1 ((2:Int) ^ min (Int.toNat v.1) (8:Nat))) &&& BitVec.ofInt (8:Nat) (1:Int))) : Int) = (1:Int)))
    (obind (w_ref7_Join (v.2, wr .i64 (v.1 + (1:Int)))) fun b => some (Sum.inl (wr .i64 (v.1 + (1:Int)), b))) (some (Sum.inl (wr .i64 (v.1 + (1:Int)),
    v.2)))) none) (some (Sum.inr v.2))) ((0:Int), b.2)) fun (b : Int × List (List Int) × List (List (List Int × Int))) => obind (w_hier_May b) fun b_1
    => cnd (!b_1) (some false) (cnd (decide (List.length b.2.2 * (24:Nat) ≤ (140737488355328:Nat))) (obind (cnd (decide (Int.tmod x.2.2.2.1 (7:Int) =
    (0:Int))) (some (b, x.2.2.2.2, b.2)) (cnd (decide (Int.tmod x.2.2.2.1 (7:Int) = (1:Int))) (cnd (decide ((0:Int) < (↑(List.length b.2.2) : Int)))
    (cnd (decide (Option.getD none (0:Int) ≤ wr .i64 ((↑(List.length b.2.2) : Int) - (1:Int)))) (cnd (decide ((↑(0:Nat) : Int) + wr .i64 ((↑(List.length
    b.2.2) : Int) - (1:Int)) ≤ (↑(List.length b.2.2) : Int))) (some (b, b.1, b.2.1, List.drop ((0:Nat) + Prod.fst (Prod.snd (cutT (0:Nat) (List.length
    b.2.2) (List.length b.2.2) none (some (wr .i64 ((↑(List.length b.2.2) : Int) - (1:Int))))))) (List.take ((0:Nat) + Prod.fst (Prod.snd (cutT (0:Nat)
    (List.length b.2.2) (List.length b.2.2) none (some (wr .i64 ((↑(List.length b.2.2) : Int) - (1:Int)))))) + (Prod.snd (Prod.snd (cutT (0:Nat)
    (List.length b.2.2) (List.length b.2.2) none (some (wr .i64 ((↑(List.length b.2.2) : Int) - (1:Int)))))) - Prod.fst (Prod.snd (cutT (0:Nat)
    (List.length b.2.2) (List.length b.2.2) none (some (wr .i64 ((↑(List.length b.2.2) : Int) - (1:Int)))))))) b.2.2))) none) none) (some (b, b))) (cnd
    (decide (Int.tmod x.2.2.2.1 (7:Int) = (2:Int))) (cnd (decide ((0:Int) < (↑(List.length b.2.2) : Int))) (cnd (decide ((0:Int) ≤ wr .i64
    ((↑(List.length b.2.2) : Int) - (1:Int))) && decide (wr .i64 ((↑(List.length b.2.2) : Int) - (1:Int)) < (↑(List.length b.2.2) : Int))) (cnd (decide
    ((List.length b.2.2 + (1:Nat)) * (24:Nat) ≤ (140737488355328:Nat))) (some (b, b.1, b.2.1, b.2.2 ++ [List.getD b.2.2 (Int.toNat (wr .i64
    ((↑(List.length b.2.2) : Int) - (1:Int)))) []])) none) none) (some (b, b))) (cnd (decide (Int.tmod x.2.2.2.1 (7:Int) = (3:Int))) (cnd (decide
    ((0:Int) < (↑(List.length b.2.2) : Int))) (cnd (decide ((0:Int) ≤ (0:Int)) && decide ((0:Int) < (↑(List.length b.2.2) : Int))) (cnd (decide
    (List.length (List.getD b.2.2 (0:Nat) []) * (32:Nat) ≤ (140737488355328:Nat))) (cnd (decide ((0:Int) ≤ (0:Int)) && decide ((0:Int) < (↑(List.length
    (List.getD b.2.2 (0:Nat) [])) : Int))) (cnd (decide ((0:Int) ≤ (0:Int)) && decide ((0:Int) < (↑(List.length b.2.2) : Int))) (some (b, b.1, b.2.1,
    putL b.2.2 [putL (List.getD b.2.2 (0:Nat) []) [(Prod.fst (List.getD (List.getD b.2.2 (0:Nat) []) (0:Nat) ([], (0:Int))), x.2.2.2.2)] (0:Nat)]
    (0:Nat))) none) none) none) none) (some (b, b))) (cnd (decide (Int.tmod x.2.2.2.1 (7:Int) = (4:Int))) (cnd (decide ((0:Int) < (↑(List.length b.2.2)
    : Int))) (cnd (decide ((0:Int) ≤ (0:Int)) && decide ((0:Int) < (↑(List.length b.2.2) : Int))) (cnd (decide (List.length (List.getD b.2.2 (0:Nat) [])
    * (32:Nat) ≤ (140737488355328:Nat))) (cnd (decide ((0:Int) ≤ (0:Int)) && decide ((0:Int) < (↑(List.length (List.getD b.2.2 (0:Nat) [])) : Int)))
    (cnd (decide (List.length (Prod.fst (List.getD (List.getD b.2.2 (0:Nat) []) (0:Nat) ([], (0:Int)))) * (8:Nat) ≤ (140737488355328:Nat))) (cnd (decide
    ((List.length (Prod.fst (List.getD (List.getD b.2.2 (0:Nat) []) (0:Nat) ([], (0:Int)))) + List.length [x.2.2.2.2]) * (8:Nat) ≤
    (140737488355328:Nat))) (cnd (decide ((0:Int) ≤ (0:Int)) && decide ((0:Int) < (↑(List.length (List.getD b.2.2 (0:Nat) [])) : Int))) (cnd (decide
    ((0:Int) ≤ (0:Int)) && decide ((0:Int) < (↑(List.length b.2.2) : Int))) (some (b, b.1, b.2.1, putL b.2.2 [putL (List.getD b.2.2 (0:Nat) [])
    [(Prod.fst (List.getD (List.getD b.2.2 (0:Nat) []) (0:Nat) ([], (0:Int))) ++ [x.2.2.2.2], Prod.snd (List.getD (List.getD b.2.2 (0:Nat) []) (0:Nat)
    ([], (0:Int))))] (0:Nat)] (0:Nat))) none) none) none) none) none) none) none) (some (b, b))) (cnd (decide (Int.tmod x.2.2.2.1 (7:Int) = (5:Int)))
    (cnd (decide ((List.length b.2.2 + (1:Nat)) * (24:Nat) ≤ (140737488355328:Nat))) (some (b, b.1, b.2.1, b.2.2 ++ [[]])) none) (cnd (decide
    (List.length b.2.1 * (24:Nat) ≤ (140737488355328:Nat))) (cnd (decide ((0:Int) ≤ (0:Int)) && decide ((0:Int) < (↑(List.length b.2.1) : Int))) (cnd
    (decide (List.length (List.getD b.2.1 (0:Nat) []) * (8:Nat) ≤ (140737488355328:Nat))) (cnd (decide ((0:Int) ≤ (0:Int)) && decide ((0:Int) <
    (↑(List.length b.2.1) : Int))) none none) none) none) none))))))) fun (b : (Int × List (List Int) × List (List (List Int × Int))) × Int × List (List
    Int) × List (List (List Int × Int))) => obind (w_hier_May b.2) fun b_2 => obind (w_ref7_May b.2) fun b_3 => cnd (b_2 == b_3) (obind
    (w_ref1_MayDist b.1.2.1) fun b => some b) (some false)) none)))
theorem q_law9_HierMay : ∀ w_law9_begun w_Made w_Picks_Dist w_ref7_New w_ref7_Join w_hier_May w_ref7_May w_ref1_MayDist N x, u_law9_HierMay.F L0 P0 (orcOf [u_law9_begun.con w_law9_begun, u_Made.con w_Made, u_Picks_Dist.con w_Picks_Dist, u_ref7_New.con w_ref7_New, u_ref7_Join.con w_ref7_Join, u_hier_May.con w_hier_May, u_ref7_May.con w_ref7_May, u_ref1_MayDist.con w_ref1_MayDist]) N x = V_law9_HierMay w_law9_begun w_Made w_Picks_Dist w_ref7_New w_ref7_Join w_hier_May w_ref7_May w_ref1_MayDist N x := by intros; kernel_rfl
noncomputable def W_law9_HierMay (N : Nat) := V_law9_HierMay (W_law9_begun N) (W_Made N) (W_Picks_Dist N) (W_ref7_New N) (W_ref7_Join N) (W_hier_May N) (W_ref7_May N) (W_ref1_MayDist N) N
theorem con_law9_HierMay_ok (N : Nat) : (u_law9_HierMay.con (W_law9_HierMay N)).ok P0 := Uf.ok mixed (q_law9_HierMay (W_law9_begun N) (W_Made N) (W_Picks_Dist N) (W_ref7_New N) (W_ref7_Join N) (W_hier_May N) (W_ref7_May N) (W_ref1_MayDist N) N) ⟨con_law9_begun_ok N, con_Made_ok N, con_Picks_Dist_ok N, con_ref7_New_ok N, con_ref7_Join_ok N, con_hier_May_ok N, con_ref7_May_ok N, con_ref1_MayDist_ok N, trivial⟩ Try.func5 (by kernel_rfl) fun x y => by kernel_rfl
end Go.Proofs.Ytpohfnebmmjpdaa.hierMayX
